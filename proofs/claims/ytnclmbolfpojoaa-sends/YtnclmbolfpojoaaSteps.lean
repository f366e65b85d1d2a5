/-
  The steps of a script that pack, unpack and write headers: each answers as the document does, and what is kept stays kept.
-/
import Derived.Test.YtnclmbolfpojoaaKeep
import Derived.WalkKit
import Derived.WalkSpells
import Derived.BigRegion
import Derived.BigQuiet
import Derived.Deep.QuietTactic
import Derived.OwnWalk
namespace Go.Proofs.Ytnclmbolfpojoaa
open Go.RowKit
theorem own_at {w : World} {B e n : Nat} {v : Value} {xs : List Value} (h : w.ownsRow B e 1 v n xs) (h0 : 0 < n) :
    ∃ g cap, v = .slice (some ⟨g, 0, none⟩) n cap ∧ g < w.heap.size ∧ ∀ j x, xs[j]? = some x → w.cell? ⟨g, j, none⟩ = some x := by
  rcases h.2 with ⟨rfl, rfl⟩ | ⟨g, cap, cur, rfl, hb, hg, r⟩
  · omega
  · refine ⟨g, cap, rfl, (Array.getElem?_eq_some_iff.1 hg).1, fun j x hx => ?_⟩
    have := h.cells (g := g) rfl j x hx
    have ea : (⟨g, 0, none⟩ : Addr).add j = ⟨g, j, none⟩ := by unfold Addr.add; split <;> simp_all
    rwa [ea] at this
/-- what stands at place i of what is kept -/
theorem kept_at {w : World} {B gW : Nat} {ve vr vl vm : Value} {xs : List Value} {ms : List ByteArray} (h : Kept w B gW ve vr vl vm xs ms) (hl : xs.length = ms.length) {i : Nat} (hi : i < xs.length) :
    ∃ gl cl gm cm a n c y, vl = .slice (some ⟨gl, 0, none⟩) xs.length cl ∧ vm = .slice (some ⟨gm, 0, none⟩) ms.length cm ∧ w.cell? ⟨gl, i, none⟩ = some (.slice a n c) ∧ w.cell? ⟨gm, i, none⟩ = some (.string y) ∧ n ≤ maxLen ∧
      (0 < n → ∃ g, a = some ⟨g, 0, none⟩ ∧ ∀ k, k < n → w.cell? ⟨g, k, none⟩ = some (.string y)) := by
  obtain ⟨_, _, h3, h4, h5⟩ := h
  obtain ⟨gl, cl, e1, _, hc1⟩ := own_at h3 (by omega)
  obtain ⟨gm, cm, e2, _, hc2⟩ := own_at h4 (by omega)
  have hm : i < ms.length := by omega
  have hz : (xs[i], ms[i]) ∈ xs.zip ms := by
    have : (xs.zip ms)[i]'(by rw [List.length_zip]; omega) = (xs[i], ms[i]) := by rw [List.getElem_zip]
    rw [← this]
    exact List.getElem_mem _
  obtain ⟨⟨n, hn⟩, _⟩ := h5 _ hz
  obtain ⟨a, c, e3⟩ := own_slice hn
  refine ⟨gl, cl, gm, cm, a, n, c, ms[i], e1, e2, ?_, ?_, ?_, ?_⟩
  · rw [hc1 i xs[i] (List.getElem?_eq_getElem hi)]
    exact congrArg some e3
  · rw [hc2 i (.string ms[i]) (by rw [List.getElem?_map, List.getElem?_eq_getElem hm]; rfl)]
  · rcases hn.2 with ⟨_, h0⟩ | ⟨g, cap, cur, e, hb, hg, r1, r2, _⟩
    · unfold maxLen; omega
    · omega
  · intro h0
    obtain ⟨g, cap, e4, _, hc⟩ := own_at hn h0
    rw [e3] at e4
    injection e4 with e4
    refine ⟨g, e4, fun k hk => hc k _ ?_⟩
    rw [List.getElem?_replicate, if_pos hk]
set_option maxHeartbeats 2000000 in
set_option maxRecDepth 100000 in
theorem kept_calls (B gW : Nat) (ve vr vl vm : Value) (xs : List Value) (ms : List ByteArray) (w : World) (hl : xs.length = ms.length) (hk : xs.length ≤ 4611686018427387904)
    (h : Kept w B gW ve vr vl vm xs ms) :
    Calls Try.prog 23 #[.pointer (some ⟨gW, 0, none⟩)] w fun e w' => e = .returned (.bool true) ∧ ∃ q, w' = w.drewN q := by
  have HK : Hid (Kept w B gW ve vr vl vm xs ms) := h
  have HL : Hid (xs.length = ms.length) := hl
  obtain ⟨c2, c3, _, _⟩ := obj_cells h.2.1
  obtain ⟨al, cl, el⟩ := own_slice h.2.2.1
  obtain ⟨am, cm, em⟩ := own_slice h.2.2.2.1
  have hmk : ms.length ≤ 4611686018427387904 := by omega
  subst el em
  clear h hl
  go_enter Try.func23, Try.ntmps23
  go_wp2
  go_loopw [2, 3, 4] (fun _ j _ wr => ∃ i q : Nat, i ≤ xs.length ∧ j = .int .i64 i ∧ wr = w.drewN q) (fun _ j _ _ => xs.length - (intOf j).toNat)
  case atStart => exact ⟨0, 0, Nat.zero_le _, rfl, rfl⟩
  case round =>
    obtain ⟨i, q, hi, rfl, rfl⟩ := hrel
    by_cases hlt : i < xs.length
    · obtain ⟨gl, cl', gm, cm', a, n, c, y, e1, e2, k1, k2, hn, hk3⟩ := kept_at HK.out HL.out hlt
      injection e1 with e1 _ e1'
      injection e2 with e2 _ e2'
      subst e1 e1' e2 e2'
      unfold maxLen at hn
      have HK3 : Hid (0 < n → ∃ g, a = some ⟨g, 0, none⟩ ∧ ∀ k, k < n → w.cell? ⟨g, k, none⟩ = some (.string y)) := hk3
      clear hk3
      have hltm : i < ms.length := by rw [← HL.out]; exact hlt
      have hi0 : (0 : Int) ≤ (i : Int) := by omega
      have hi1 : (i : Int) < (xs.length : Int) := by omega
      have hi2 : (i : Int) < (ms.length : Int) := by omega
      go_wp2
      go_loopw [2, 4] (fun _ j wr => ∃ k q : Nat, k ≤ n ∧ j = .int .i64 k ∧ wr = w.drewN q) (fun _ j _ => n - (intOf j).toNat)
      case atStart => exact ⟨0, _, Nat.zero_le _, rfl, rfl⟩
      case round =>
        obtain ⟨k, q2, hkn, rfl, rfl⟩ := hrel
        by_cases hltk : k < n
        · obtain ⟨g, rfl, hc⟩ := HK3.out (by omega)
          have hck := hc k hltk
          clear hc
          have hk0 : (0 : Int) ≤ (k : Int) := by omega
          have hk1 : (k : Int) < (n : Int) := by omega
          have hx : (y.toList == y.toList) = true := by simp
          go_wp2
          go_quiet (fail)
          go_wp2
          go_roundw
          case rel => exact ⟨k + 1, _, by omega, by go_num, rfl⟩
          case measure => simp [intOf]; omega
        · go_wp2
          go_roundw
          case rel => exact ⟨i + 1, _, by omega, by go_num, rfl⟩
          case measure => simp [intOf]; omega
    · go_wp2
      go_ret
      exact ⟨rfl, q, rfl⟩
/-- a step of a script, as its cells -/
def opCells (k A B D W : Int) (s : ByteArray) (a : Option Addr) (n cap : Nat) (c0 c1 c2 c3 c4 c5 c6 c7 c8 c9 : Int) : Array Value :=
  #[.int .i64 k, .int .i64 A, .int .i64 B, .int .i64 D, .int .i64 W, .string s, .slice a n cap, .int .i64 c0, .int .i64 c1, .int .i64 c2, .int .i64 c3, .int .i64 c4, .int .i64 c5, .int .i64 c6, .int .i64 c7, .int .i64 c8, .int .i64 c9]
/-- what a step leaves -/
def StepPost (w : World) (B gW : Nat) (ve vr : Value) (k : Nat) (K : Nat → Prop) (e : Ending) (w' : World) : Prop :=
  e = .returned (.bool true) ∧ Below B w w' ∧ Chg K w w' ∧ ∃ vl vm xs ms, xs.length = ms.length ∧ xs.length ≤ k + 4 ∧ Kept w' B gW ve vr vl vm xs ms ∧ KIn K vl vm xs
/-- what Pack answers -/
def prS (ss : List ByteArray) : ByteArray := if properB ss = true then packed ss else ⟨#[]⟩
def prE (ss : List ByteArray) : Int := if properB ss = true then 0 else 3
theorem spack_calls (a : Option Addr) (n cap : Nat) (ss : List ByteArray) (w : World) (h : StrsAt w a n ss) :
    Calls Try.prog 10 #[.slice a n cap] w fun e w' => e = .returned (.tuple #[.string (prS ss), .int .i64 (prE ss)]) ∧ Below w.heap.size w w' := by
  cases hp : properB ss
  · refine (spack_no a n cap ss w h hp).mono ?_
    rintro e w' ⟨rfl, rfl⟩
    exact ⟨by simp [prS, prE, hp], Below.refl _ _⟩
  · refine (spack_yes a n cap ss w h hp).mono ?_
    rintro e w' ⟨rfl, hb⟩
    exact ⟨by simp [prS, prE, hp], hb⟩
theorem rpack_calls (a : Option Addr) (n cap : Nat) (ss : List ByteArray) (w : World) (h : StrsAt w a n ss) :
    Calls Try.prog 57 #[.slice a n cap] w fun e w' => e = .returned (.tuple #[.string (prS ss), .int .i64 (prE ss)]) ∧ Below w.heap.size w w' := by
  cases hp : properB ss
  · refine (rpack_no a n cap ss w h hp).mono ?_
    rintro e w' ⟨rfl, hb⟩
    exact ⟨by simp [prS, prE, hp], hb⟩
  · refine (rpack_yes a n cap ss w h hp).mono ?_
    rintro e w' ⟨rfl, hb⟩
    exact ⟨by simp [prS, prE, hp], hb⟩
theorem strs_lent {w w2 : World} {a : Option Addr} {n g : Nat} {ss : List ByteArray} (h : StrsAt w a n ss) (hr : w2.rowIs g 9 (n + 8) (fun j => .string (lentS ss n j))) : StrsAt w2 (some ⟨g, 0, none⟩) n ss := by
  refine ⟨h.1, h.2.1, h.2.2.1, fun _ => ⟨g, 0, rfl, hr.lt, fun j hj => ?_⟩⟩
  rw [Nat.zero_add, hr.cell (by omega)]
  unfold lentS
  rw [if_pos hj]
theorem strs_low {w : World} {a : Option Addr} {n g : Nat} {ss : List ByteArray} (h : StrsAt w a n ss) (hg : w.heap.size ≤ g) : ∀ x, a = some x → 0 < n → x.block < g := by
  intro x hx h0
  obtain ⟨b, off, e, hb, _⟩ := h.2.2.2 h0
  rw [hx] at e
  injection e with e
  rw [e]
  show b < g
  omega
set_option maxHeartbeats 2000000 in
set_option maxRecDepth 100000 in
theorem texts_pack (BB gW : Nat) (ve vr vl vm : Value) (xs : List Value) (ms : List ByteArray) (w : World) (hl : xs.length = ms.length) (h : Kept w BB gW ve vr vl vm xs ms)
    (A B D W : Int) (s : ByteArray) (a : Option Addr) (n cap : Nat) (c0 c1 c2 c3 c4 c5 c6 c7 c8 c9 : Int) (ss : List ByteArray) (hst : StrsAt w a n ss) (hn : n ≤ 8796093022208) (K : Nat → Prop) (hKI : KIn K vl vm xs) :
    Calls Try.prog 34 #[.pointer (some ⟨gW, 0, none⟩), .agg #[.int .i64 1, .int .i64 A, .int .i64 B, .int .i64 D, .int .i64 W, .string s, .slice a n cap, .int .i64 c0, .int .i64 c1, .int .i64 c2, .int .i64 c3, .int .i64 c4, .int .i64 c5, .int .i64 c6, .int .i64 c7, .int .i64 c8, .int .i64 c9]] w fun e w' => StepPost w BB gW ve vr xs.length K e w' := by
  have HK : Hid (Kept w BB gW ve vr vl vm xs ms) := h
  have HL : Hid (xs.length = ms.length) := hl
  have HST : Hid (StrsAt w a n ss) := hst
  have HKI : Hid (KIn K vl vm xs) := hKI
  clear h hl hst hKI
  go_enter Try.func34, Try.ntmps34
  go_wp2_with fail
  have hb1 := below_alloc w (.cells #[.int .i64 1, .int .i64 A, .int .i64 B, .int .i64 D, .int .i64 W, .string s, .slice a n cap, .int .i64 c0, .int .i64 c1, .int .i64 c2, .int .i64 c3, .int .i64 c4, .int .i64 c5, .int .i64 c6, .int .i64 c7, .int .i64 c8, .int .i64 c9] 62)
  have hc1 : (w.alloc (.cells #[.int .i64 1, .int .i64 A, .int .i64 B, .int .i64 D, .int .i64 W, .string s, .slice a n cap, .int .i64 c0, .int .i64 c1, .int .i64 c2, .int .i64 c3, .int .i64 c4, .int .i64 c5, .int .i64 c6, .int .i64 c7, .int .i64 c8, .int .i64 c9] 62)).cell? ⟨w.heap.size, 6, none⟩ = some (.slice a n cap) := by simp
  have hz1 : (w.alloc (.cells #[.int .i64 1, .int .i64 A, .int .i64 B, .int .i64 D, .int .i64 W, .string s, .slice a n cap, .int .i64 c0, .int .i64 c1, .int .i64 c2, .int .i64 c3, .int .i64 c4, .int .i64 c5, .int .i64 c6, .int .i64 c7, .int .i64 c8, .int .i64 c9] 62)).heap.size = w.heap.size + 1 := by simp
  generalize w.alloc (.cells #[.int .i64 1, .int .i64 A, .int .i64 B, .int .i64 D, .int .i64 W, .string s, .slice a n cap, .int .i64 c0, .int .i64 c1, .int .i64 c2, .int .i64 c3, .int .i64 c4, .int .i64 c5, .int .i64 c6, .int .i64 c7, .int .i64 c8, .int .i64 c9] 62) = w1 at *
  refine (lent_calls a n cap ss w1 (HST.out.keeps hb1) hn).mono ?_
  rintro e w2 ⟨rfl, hrow2, hb2⟩
  have hs2 := hb2.size
  have hlt : w.heap.size < w1.heap.size := by omega
  have hc2 : w2.cell? ⟨w.heap.size, 6, none⟩ = some (.slice a n cap) := by rw [hb2.cell (p := ⟨w.heap.size, 6, none⟩) hlt]; exact hc1
  have hb12 : Below w.heap.size w w2 := hb1.trans (hb2.mono (by omega))
  have HZ1 : Hid (w1.heap.size = w.heap.size + 1) := hz1
  clear hz1 hc1
  go_wp2_with fail
  refine (spack_calls _ n (n + 8) ss _ (strs_lent HST.out hrow2)).mono ?_
  rintro e w3 ⟨rfl, hb3⟩
  have hs3 := hb3.size
  have hc3 : w3.cell? ⟨w.heap.size, 6, none⟩ = some (.slice a n cap) := by rw [hb3.cell (p := ⟨w.heap.size, 6, none⟩) (show w.heap.size < w2.heap.size by omega)]; exact hc2
  have hb13 : Below w.heap.size w w3 := hb12.trans (hb3.mono (by omega))
  have hrow3 := hrow2.of_block (hb3.block w1.heap.size hrow2.lt)
  clear hc2 hrow2
  go_wp2_with fail
  refine (rpack_calls a n cap ss _ (HST.out.keeps hb13)).mono ?_
  rintro e w4 ⟨rfl, hb4⟩
  have hs4 := hb4.size
  have hc4 : w4.cell? ⟨w.heap.size, 6, none⟩ = some (.slice a n cap) := by rw [hb4.cell (p := ⟨w.heap.size, 6, none⟩) (show w.heap.size < w3.heap.size by omega)]; exact hc3
  have hb14 : Below w.heap.size w w4 := hb13.trans (hb4.mono (by omega))
  have hrow4 := hrow3.of_block (hb4.block w1.heap.size hrow3.lt)
  clear hc3 hrow3
  go_wp2_with fail
  refine (back_calls w1.heap.size a n cap ss _ (HST.out.keeps hb14) (strs_low HST.out (by omega)) hrow4 hn).mono ?_
  rintro e w5 ⟨rfl, hb5⟩
  have hs5 := hb5.size
  have hb15 : Below w.heap.size w w5 := hb14.trans (hb5.mono (by omega))
  clear hc4 hrow4
  generalize prS ss = x at *
  generalize prE ss = y at *
  have hx : (x.toList == x.toList) = true := by simp
  have hy : (y == y) = true := by simp
  go_wp2_with fail
  refine (num_calls _ _).mono ?_
  rintro e w6 ⟨rfl, hw6⟩
  rw [hw6]
  clear hw6 w6
  go_wp2_with fail
  go_ret
  exact ⟨rfl, hb15.mono (Nat.le_trans HK.out.1 (Nat.le_of_lt (Array.getElem?_eq_some_iff.1 HK.out.2.1).1)), Chg.of_below hb15, vl, vm, xs, ms, HL.out, by omega, HK.out.below hb15, HKI.out⟩
theorem strs_nil (w : World) : StrsAt w none 0 [] := ⟨rfl, by unfold maxLen; omega, by simp, fun h => by omega⟩
theorem strs_row {w : World} {g : Nat} {ps : List ByteArray} (hp : properB ps = true) (h : w.rowIs g 9 ps.length (fun j => .string (ps.getD j ByteArray.empty))) : StrsAt w (some ⟨g, 0, none⟩) ps.length ps := by
  obtain ⟨h3, h15⟩ := proper_mem hp
  refine ⟨rfl, by unfold maxLen; omega, fun s hs => by have := h15 s hs; unfold maxLen; omega, fun _ => ⟨g, 0, rfl, h.lt, fun j hj => ?_⟩⟩
  rw [Nat.zero_add]
  exact h.cell hj
theorem own_of_row {w : World} {B g : Nat} {ps : List ByteArray} (h : w.rowIs g 9 ps.length (fun j => .string (ps.getD j ByteArray.empty))) (hB : B ≤ g) (hm : ps.length ≤ maxLen) :
    w.ownsRow B 9 1 (.slice (some ⟨g, 0, none⟩) ps.length ps.length) ps.length (ps.map Value.string) := by
  obtain ⟨c, hc, hn, hf⟩ := h
  refine ⟨by simp, .inr ⟨g, ps.length, c, rfl, hB, hc, Nat.le_refl _, hm, by omega, ?_⟩⟩
  apply List.ext_getElem?
  intro i
  by_cases hi : i < ps.length
  · rw [Nat.mul_one, List.getElem?_take_of_lt hi, Array.getElem?_toList, hf i hi, List.getElem?_map, List.getElem?_eq_getElem hi]
    show some (Value.string (ps.getD i ByteArray.empty)) = _
    rw [List.getD_eq_getElem?_getD, List.getElem?_eq_getElem hi]
    rfl
  · rw [List.getElem?_eq_none (by rw [List.length_take]; omega), List.getElem?_eq_none (by rw [List.length_map]; omega)]
theorem own_apart {w : World} {B e n g k c : Nat} {v : Value} {xs : List Value} (h : w.ownsRow B e 1 v n xs) (hg : w.heap.size ≤ g) :
    (Value.slice (some ⟨g, 0, none⟩) k c).ownBlock = none ∨ (Value.slice (some ⟨g, 0, none⟩) k c).ownBlock ≠ v.ownBlock := by
  right
  intro e1
  have := (h.lt g e1.symm).2
  omega
theorem own_apart' {w : World} {B e n g k c : Nat} {v : Value} {xs : List Value} (h : w.ownsRow B e 1 v n xs) (hg : w.heap.size ≤ g) :
    v.ownBlock = none ∨ v.ownBlock ≠ (Value.slice (some ⟨g, 0, none⟩) k c).ownBlock := by
  right
  intro e1
  have := (h.lt g e1).2
  omega
set_option maxHeartbeats 2000000 in
set_option maxRecDepth 100000 in
theorem texts_unpack (BB gW : Nat) (ve vr vl vm : Value) (xs : List Value) (ms : List ByteArray) (w : World) (hl : xs.length = ms.length) (hk : xs.length ≤ 4398046511104) (h : Kept w BB gW ve vr vl vm xs ms)
    (A B D W : Int) (s : ByteArray) (a : Option Addr) (n cap : Nat) (c0 c1 c2 c3 c4 c5 c6 c7 c8 c9 : Int) (hs : s.size ≤ 9223372036854775000) (K : Nat → Prop) (hKn : ∀ k, w.heap.size ≤ k → K k) (hKW : K gW) (hKI : KIn K vl vm xs) :
    Calls Try.prog 34 #[.pointer (some ⟨gW, 0, none⟩), .agg #[.int .i64 2, .int .i64 A, .int .i64 B, .int .i64 D, .int .i64 W, .string s, .slice a n cap, .int .i64 c0, .int .i64 c1, .int .i64 c2, .int .i64 c3, .int .i64 c4, .int .i64 c5, .int .i64 c6, .int .i64 c7, .int .i64 c8, .int .i64 c9]] w fun e w' => StepPost w BB gW ve vr xs.length K e w' := by
  have HK : Hid (Kept w BB gW ve vr vl vm xs ms) := h
  have HL : Hid (xs.length = ms.length) := hl
  have hBw : BB ≤ w.heap.size := Nat.le_trans h.1 (Nat.le_of_lt (Array.getElem?_eq_some_iff.1 h.2.1).1)
  have HKN : Hid (∀ k, w.heap.size ≤ k → K k) := hKn
  have HKW : Hid (K gW) := hKW
  have HKI : Hid (KIn K vl vm xs) := hKI
  clear h hl hKn hKW hKI
  have hsm : s.size ≤ maxLen := by unfold maxLen; omega
  by_cases hv : ∃ ps, properB ps = true ∧ packL ps = s.data.toList
  · obtain ⟨ps, hpp, hpk⟩ := hv
    have hp3 := (proper_mem hpp).1
    have HPP : Hid (properB ps = true) := hpp
    have HPK : Hid (packL ps = s.data.toList) := hpk
    clear hpp hpk
    go_enter Try.func34, Try.ntmps34
    go_wp2_with fail
    have hb1 := below_alloc w (.cells #[.int .i64 2, .int .i64 A, .int .i64 B, .int .i64 D, .int .i64 W, .string s, .slice a n cap, .int .i64 c0, .int .i64 c1, .int .i64 c2, .int .i64 c3, .int .i64 c4, .int .i64 c5, .int .i64 c6, .int .i64 c7, .int .i64 c8, .int .i64 c9] 62)
    have hcs : (w.alloc (.cells #[.int .i64 2, .int .i64 A, .int .i64 B, .int .i64 D, .int .i64 W, .string s, .slice a n cap, .int .i64 c0, .int .i64 c1, .int .i64 c2, .int .i64 c3, .int .i64 c4, .int .i64 c5, .int .i64 c6, .int .i64 c7, .int .i64 c8, .int .i64 c9] 62)).cell? ⟨w.heap.size, 5, none⟩ = some (.string s) := by simp
    have hca : (w.alloc (.cells #[.int .i64 2, .int .i64 A, .int .i64 B, .int .i64 D, .int .i64 W, .string s, .slice a n cap, .int .i64 c0, .int .i64 c1, .int .i64 c2, .int .i64 c3, .int .i64 c4, .int .i64 c5, .int .i64 c6, .int .i64 c7, .int .i64 c8, .int .i64 c9] 62)).cell? ⟨w.heap.size, 1, none⟩ = some (.int .i64 A) := by simp
    have hcb : (w.alloc (.cells #[.int .i64 2, .int .i64 A, .int .i64 B, .int .i64 D, .int .i64 W, .string s, .slice a n cap, .int .i64 c0, .int .i64 c1, .int .i64 c2, .int .i64 c3, .int .i64 c4, .int .i64 c5, .int .i64 c6, .int .i64 c7, .int .i64 c8, .int .i64 c9] 62)).cell? ⟨w.heap.size, 2, none⟩ = some (.int .i64 B) := by simp
    have hcd : (w.alloc (.cells #[.int .i64 2, .int .i64 A, .int .i64 B, .int .i64 D, .int .i64 W, .string s, .slice a n cap, .int .i64 c0, .int .i64 c1, .int .i64 c2, .int .i64 c3, .int .i64 c4, .int .i64 c5, .int .i64 c6, .int .i64 c7, .int .i64 c8, .int .i64 c9] 62)).cell? ⟨w.heap.size, 3, none⟩ = some (.int .i64 D) := by simp
    have hz1 : (w.alloc (.cells #[.int .i64 2, .int .i64 A, .int .i64 B, .int .i64 D, .int .i64 W, .string s, .slice a n cap, .int .i64 c0, .int .i64 c1, .int .i64 c2, .int .i64 c3, .int .i64 c4, .int .i64 c5, .int .i64 c6, .int .i64 c7, .int .i64 c8, .int .i64 c9] 62)).heap.size = w.heap.size + 1 := by simp
    generalize w.alloc (.cells #[.int .i64 2, .int .i64 A, .int .i64 B, .int .i64 D, .int .i64 W, .string s, .slice a n cap, .int .i64 c0, .int .i64 c1, .int .i64 c2, .int .i64 c3, .int .i64 c4, .int .i64 c5, .int .i64 c6, .int .i64 c7, .int .i64 c8, .int .i64 c9] 62) = w1 at *
    have hlt : w.heap.size < w1.heap.size := by omega
    have HZ1 : Hid (w1.heap.size = w.heap.size + 1) := hz1
    clear hz1
    clear hca hcb hcd
    refine (unpack_yes s ps w1 hsm HPP.out HPK.out).mono ?_
    rintro e w2 ⟨g, rfl, hg, hrow, hb2⟩
    have hs2 := hb2.size
    have hcs2 : w2.cell? ⟨w.heap.size, 5, none⟩ = some (.string s) := by rw [hb2.cell (p := ⟨w.heap.size, 5, none⟩) hlt]; exact hcs
    have hb12 : Below w.heap.size w w2 := hb1.trans (hb2.mono (by omega))
    clear hcs
    go_wp2_with fail
    refine (runpack_yes s ps w2 hs HPP.out HPK.out).mono ?_
    rintro e w3 ⟨a3, cap3, rfl, hst3, hb3⟩
    have hs3 := hb3.size
    have hrow3 := hrow.of_block (hb3.block g hrow.lt)
    have hb13 : Below w.heap.size w w3 := hb12.trans (hb3.mono (by omega))
    clear hcs2 hrow
    go_wp2_with fail
    refine (same_calls _ _ _ _ _ ps w3 (strs_row HPP.out hrow3) hst3).mono ?_
    rintro e w4 ⟨rfl, hb4⟩
    have hs4 := hb4.size
    have hrow4 := hrow3.of_block (hb4.block g hrow3.lt)
    have hb14 : Below w.heap.size w w4 := hb13.trans (hb4.mono (by omega))
    clear hrow3 hst3
    go_wp2_with fail
    refine (keep_calls BB gW ve vr vl vm _ ps.length xs ms (ps.map Value.string) w4 HL.out hk (by omega) (HK.out.below hb14) (own_of_row hrow4 (by omega) (by unfold maxLen; omega)) ?_ ?_ K (fun k hk => HKN.out k (Nat.le_trans hb14.size hk)) HKW.out HKI.out (fun k hk => HKN.out k (Nat.le_trans (by omega) (Nat.le_of_eq (show g = k by simpa [Value.ownBlock] using hk))))).mono ?_
    · exact own_apart HK.out.2.2.2.1 (by omega)
    · intro p hp
      obtain ⟨⟨k, hk2⟩, _⟩ := HK.out.2.2.2.2 p hp
      exact own_apart' hk2 (by omega)
    rintro e w5 ⟨rfl, hb5, hc5, vl5, vm5, xs5, ms5, hl5, hlx5, hk5, hi5⟩
    have HC5 : Hid (Chg K w4 w5) := hc5
    have HI5 : Hid (KIn K vl5 vm5 xs5) := hi5
    clear hc5 hi5
    have HK5 : Hid (Kept w5 BB gW ve vr vl5 vm5 xs5 ms5) := hk5
    have HL5 : Hid (xs5.length = ms5.length) := hl5
    have HLX5 : Hid (xs5.length = xs.length + 4) := hlx5
    clear hk5 hl5 hlx5
    go_wp2_with fail
    refine (num_calls _ _).mono ?_
    rintro e w6 ⟨rfl, hw6⟩
    rw [hw6]
    clear hw6 w6
    go_wp2_with fail
    go_ret
    exact ⟨rfl, (hb14.mono hBw).trans hb5, (Chg.of_below hb14).trans' HC5.out, vl5, vm5, xs5, ms5, HL5.out, Nat.le_of_eq HLX5.out, HK5.out, HI5.out⟩
  · have HV : Hid (∀ ps, properB ps = true → packL ps ≠ s.data.toList) := fun ps h1 h2 => hv ⟨ps, h1, h2⟩
    clear hv
    go_enter Try.func34, Try.ntmps34
    go_wp2_with fail
    have hb1 := below_alloc w (.cells #[.int .i64 2, .int .i64 A, .int .i64 B, .int .i64 D, .int .i64 W, .string s, .slice a n cap, .int .i64 c0, .int .i64 c1, .int .i64 c2, .int .i64 c3, .int .i64 c4, .int .i64 c5, .int .i64 c6, .int .i64 c7, .int .i64 c8, .int .i64 c9] 62)
    have hcs : (w.alloc (.cells #[.int .i64 2, .int .i64 A, .int .i64 B, .int .i64 D, .int .i64 W, .string s, .slice a n cap, .int .i64 c0, .int .i64 c1, .int .i64 c2, .int .i64 c3, .int .i64 c4, .int .i64 c5, .int .i64 c6, .int .i64 c7, .int .i64 c8, .int .i64 c9] 62)).cell? ⟨w.heap.size, 5, none⟩ = some (.string s) := by simp
    have hca : (w.alloc (.cells #[.int .i64 2, .int .i64 A, .int .i64 B, .int .i64 D, .int .i64 W, .string s, .slice a n cap, .int .i64 c0, .int .i64 c1, .int .i64 c2, .int .i64 c3, .int .i64 c4, .int .i64 c5, .int .i64 c6, .int .i64 c7, .int .i64 c8, .int .i64 c9] 62)).cell? ⟨w.heap.size, 1, none⟩ = some (.int .i64 A) := by simp
    have hcb : (w.alloc (.cells #[.int .i64 2, .int .i64 A, .int .i64 B, .int .i64 D, .int .i64 W, .string s, .slice a n cap, .int .i64 c0, .int .i64 c1, .int .i64 c2, .int .i64 c3, .int .i64 c4, .int .i64 c5, .int .i64 c6, .int .i64 c7, .int .i64 c8, .int .i64 c9] 62)).cell? ⟨w.heap.size, 2, none⟩ = some (.int .i64 B) := by simp
    have hcd : (w.alloc (.cells #[.int .i64 2, .int .i64 A, .int .i64 B, .int .i64 D, .int .i64 W, .string s, .slice a n cap, .int .i64 c0, .int .i64 c1, .int .i64 c2, .int .i64 c3, .int .i64 c4, .int .i64 c5, .int .i64 c6, .int .i64 c7, .int .i64 c8, .int .i64 c9] 62)).cell? ⟨w.heap.size, 3, none⟩ = some (.int .i64 D) := by simp
    have hz1 : (w.alloc (.cells #[.int .i64 2, .int .i64 A, .int .i64 B, .int .i64 D, .int .i64 W, .string s, .slice a n cap, .int .i64 c0, .int .i64 c1, .int .i64 c2, .int .i64 c3, .int .i64 c4, .int .i64 c5, .int .i64 c6, .int .i64 c7, .int .i64 c8, .int .i64 c9] 62)).heap.size = w.heap.size + 1 := by simp
    generalize w.alloc (.cells #[.int .i64 2, .int .i64 A, .int .i64 B, .int .i64 D, .int .i64 W, .string s, .slice a n cap, .int .i64 c0, .int .i64 c1, .int .i64 c2, .int .i64 c3, .int .i64 c4, .int .i64 c5, .int .i64 c6, .int .i64 c7, .int .i64 c8, .int .i64 c9] 62) = w1 at *
    have hlt : w.heap.size < w1.heap.size := by omega
    have HZ1 : Hid (w1.heap.size = w.heap.size + 1) := hz1
    clear hz1
    clear hca hcb hcd
    refine (unpack_no s w1 hsm HV.out).mono ?_
    rintro e w2 ⟨rfl, hb2⟩
    have hs2 := hb2.size
    have hcs2 : w2.cell? ⟨w.heap.size, 5, none⟩ = some (.string s) := by rw [hb2.cell (p := ⟨w.heap.size, 5, none⟩) hlt]; exact hcs
    have hb12 : Below w.heap.size w w2 := hb1.trans (hb2.mono (by omega))
    clear hcs
    go_wp2_with fail
    refine (runpack_no s w2 hs HV.out).mono ?_
    rintro e w3 ⟨rfl, hb3⟩
    have hs3 := hb3.size
    have hb13 : Below w.heap.size w w3 := hb12.trans (hb3.mono (by omega))
    clear hcs2
    go_wp2_with fail
    refine (same_calls none none 0 0 0 [] w3 (strs_nil _) (strs_nil _)).mono ?_
    rintro e w4 ⟨rfl, hb4⟩
    have hs4 := hb4.size
    have hb14 : Below w.heap.size w w4 := hb13.trans (hb4.mono (by omega))
    go_wp2_with fail
    refine (keep_calls BB gW ve vr vl vm _ 0 xs ms [] w4 HL.out hk (by omega) (HK.out.below hb14) (World.ownsRow_nil _ _ _ _) (.inl rfl) ?_ K (fun k hk => HKN.out k (Nat.le_trans hb14.size hk)) HKW.out HKI.out (fun k hk => by cases hk)).mono ?_
    · intro p hp
      cases hb : p.1.ownBlock with
      | none => exact .inl rfl
      | some b => exact .inr fun e => by cases e
    rintro e w5 ⟨rfl, hb5, hc5, vl5, vm5, xs5, ms5, hl5, hlx5, hk5, hi5⟩
    have HC5 : Hid (Chg K w4 w5) := hc5
    have HI5 : Hid (KIn K vl5 vm5 xs5) := hi5
    clear hc5 hi5
    have HK5 : Hid (Kept w5 BB gW ve vr vl5 vm5 xs5 ms5) := hk5
    have HL5 : Hid (xs5.length = ms5.length) := hl5
    have HLX5 : Hid (xs5.length = xs.length + 4) := hlx5
    clear hk5 hl5 hlx5
    go_wp2_with fail
    refine (num_calls _ _).mono ?_
    rintro e w6 ⟨rfl, hw6⟩
    rw [hw6]
    clear hw6 w6
    go_wp2_with fail
    go_ret
    exact ⟨rfl, (hb14.mono hBw).trans hb5, (Chg.of_below hb14).trans' HC5.out, vl5, vm5, xs5, ms5, HL5.out, Nat.le_of_eq HLX5.out, HK5.out, HI5.out⟩
/-- what Header answers -/
def hdS (a b c : Int) : ByteArray := if (isB a && isB b && isB c) = true then hdr a.toNat b.toNat c.toNat else ⟨#[]⟩
def hdE (a b c : Int) : Int := if (isB a && isB b && isB c) = true then 0 else 9
theorem isB_range {a : Int} (h : isB a = true) : 0 ≤ a ∧ a ≤ 255 := by unfold isB at h; exact of_decide_eq_true h
theorem header_calls (a b c : Int) (w : World) :
    Calls Try.prog 8 #[.int .i64 a, .int .i64 b, .int .i64 c] w fun e w' => e = .returned (.tuple #[.string (hdS a b c), .int .i64 (hdE a b c)]) ∧ Below w.heap.size w w' := by
  cases hp : (isB a && isB b && isB c)
  · refine (header_no a b c w hp).mono ?_
    rintro e w' ⟨rfl, rfl⟩
    exact ⟨by simp [hdS, hdE, hp], Below.refl _ _⟩
  · have hq := hp
    rw [Bool.and_eq_true, Bool.and_eq_true] at hq
    have h1 := isB_range hq.1.1
    have h2 := isB_range hq.1.2
    have h3 := isB_range hq.2
    have hh := header_yes a.toNat b.toNat c.toNat w (by omega) (by omega) (by omega)
    rw [Int.toNat_of_nonneg h1.1, Int.toNat_of_nonneg h2.1, Int.toNat_of_nonneg h3.1] at hh
    refine hh.mono ?_
    rintro e w' ⟨rfl, hb⟩
    exact ⟨by simp [hdS, hdE, hp], hb⟩
theorem rheader_calls (a b c : Int) (w : World) :
    Calls Try.prog 62 #[.int .i64 a, .int .i64 b, .int .i64 c] w fun e w' => e = .returned (.tuple #[.string (hdS a b c), .int .i64 (hdE a b c)]) ∧ Below w.heap.size w w' := by
  cases hp : (isB a && isB b && isB c)
  · refine (rheader_no a b c w hp).mono ?_
    rintro e w' ⟨rfl, rfl⟩
    exact ⟨by simp [hdS, hdE, hp], Below.refl _ _⟩
  · have hq := hp
    rw [Bool.and_eq_true, Bool.and_eq_true] at hq
    have h1 := isB_range hq.1.1
    have h2 := isB_range hq.1.2
    have h3 := isB_range hq.2
    have hh := rheader_yes a.toNat b.toNat c.toNat w (by omega) (by omega) (by omega)
    rw [Int.toNat_of_nonneg h1.1, Int.toNat_of_nonneg h2.1, Int.toNat_of_nonneg h3.1] at hh
    refine hh.mono ?_
    rintro e w' ⟨rfl, hb⟩
    exact ⟨by simp [hdS, hdE, hp], hb⟩
set_option maxHeartbeats 2000000 in
set_option maxRecDepth 100000 in
theorem texts_header (BB gW : Nat) (ve vr vl vm : Value) (xs : List Value) (ms : List ByteArray) (w : World) (hl : xs.length = ms.length) (h : Kept w BB gW ve vr vl vm xs ms)
    (A B D W : Int) (s : ByteArray) (a : Option Addr) (n cap : Nat) (c0 c1 c2 c3 c4 c5 c6 c7 c8 c9 : Int) (K : Nat → Prop) (hKI : KIn K vl vm xs) :
    Calls Try.prog 34 #[.pointer (some ⟨gW, 0, none⟩), .agg #[.int .i64 3, .int .i64 A, .int .i64 B, .int .i64 D, .int .i64 W, .string s, .slice a n cap, .int .i64 c0, .int .i64 c1, .int .i64 c2, .int .i64 c3, .int .i64 c4, .int .i64 c5, .int .i64 c6, .int .i64 c7, .int .i64 c8, .int .i64 c9]] w fun e w' => StepPost w BB gW ve vr xs.length K e w' := by
  have HK : Hid (Kept w BB gW ve vr vl vm xs ms) := h
  have HL : Hid (xs.length = ms.length) := hl
  have hBw : BB ≤ w.heap.size := Nat.le_trans h.1 (Nat.le_of_lt (Array.getElem?_eq_some_iff.1 h.2.1).1)
  have HKI : Hid (KIn K vl vm xs) := hKI
  clear h hl hKI
  go_enter Try.func34, Try.ntmps34
  go_wp2_with fail
  have hb1 := below_alloc w (.cells #[.int .i64 3, .int .i64 A, .int .i64 B, .int .i64 D, .int .i64 W, .string s, .slice a n cap, .int .i64 c0, .int .i64 c1, .int .i64 c2, .int .i64 c3, .int .i64 c4, .int .i64 c5, .int .i64 c6, .int .i64 c7, .int .i64 c8, .int .i64 c9] 62)
  have hca : (w.alloc (.cells #[.int .i64 3, .int .i64 A, .int .i64 B, .int .i64 D, .int .i64 W, .string s, .slice a n cap, .int .i64 c0, .int .i64 c1, .int .i64 c2, .int .i64 c3, .int .i64 c4, .int .i64 c5, .int .i64 c6, .int .i64 c7, .int .i64 c8, .int .i64 c9] 62)).cell? ⟨w.heap.size, 1, none⟩ = some (.int .i64 A) := by simp
  have hcb : (w.alloc (.cells #[.int .i64 3, .int .i64 A, .int .i64 B, .int .i64 D, .int .i64 W, .string s, .slice a n cap, .int .i64 c0, .int .i64 c1, .int .i64 c2, .int .i64 c3, .int .i64 c4, .int .i64 c5, .int .i64 c6, .int .i64 c7, .int .i64 c8, .int .i64 c9] 62)).cell? ⟨w.heap.size, 2, none⟩ = some (.int .i64 B) := by simp
  have hcd : (w.alloc (.cells #[.int .i64 3, .int .i64 A, .int .i64 B, .int .i64 D, .int .i64 W, .string s, .slice a n cap, .int .i64 c0, .int .i64 c1, .int .i64 c2, .int .i64 c3, .int .i64 c4, .int .i64 c5, .int .i64 c6, .int .i64 c7, .int .i64 c8, .int .i64 c9] 62)).cell? ⟨w.heap.size, 3, none⟩ = some (.int .i64 D) := by simp
  have hz1 : (w.alloc (.cells #[.int .i64 3, .int .i64 A, .int .i64 B, .int .i64 D, .int .i64 W, .string s, .slice a n cap, .int .i64 c0, .int .i64 c1, .int .i64 c2, .int .i64 c3, .int .i64 c4, .int .i64 c5, .int .i64 c6, .int .i64 c7, .int .i64 c8, .int .i64 c9] 62)).heap.size = w.heap.size + 1 := by simp
  generalize w.alloc (.cells #[.int .i64 3, .int .i64 A, .int .i64 B, .int .i64 D, .int .i64 W, .string s, .slice a n cap, .int .i64 c0, .int .i64 c1, .int .i64 c2, .int .i64 c3, .int .i64 c4, .int .i64 c5, .int .i64 c6, .int .i64 c7, .int .i64 c8, .int .i64 c9] 62) = w1 at *
  have hlt : w.heap.size < w1.heap.size := by omega
  clear hz1
  refine (header_calls A B D w1).mono ?_
  rintro e w2 ⟨rfl, hb2⟩
  have hs2 := hb2.size
  have hca2 : w2.cell? ⟨w.heap.size, 1, none⟩ = some (.int .i64 A) := by rw [hb2.cell (p := ⟨w.heap.size, 1, none⟩) hlt]; exact hca
  have hcb2 : w2.cell? ⟨w.heap.size, 2, none⟩ = some (.int .i64 B) := by rw [hb2.cell (p := ⟨w.heap.size, 2, none⟩) hlt]; exact hcb
  have hcd2 : w2.cell? ⟨w.heap.size, 3, none⟩ = some (.int .i64 D) := by rw [hb2.cell (p := ⟨w.heap.size, 3, none⟩) hlt]; exact hcd
  have hb12 : Below w.heap.size w w2 := hb1.trans (hb2.mono (by omega))
  clear hca hcb hcd
  go_wp2_with fail
  refine (rheader_calls A B D w2).mono ?_
  rintro e w3 ⟨rfl, hb3⟩
  have hb13 : Below w.heap.size w w3 := hb12.trans (hb3.mono (by omega))
  clear hca2 hcb2 hcd2
  generalize hdS A B D = x at *
  generalize hdE A B D = y at *
  have hx : (x.toList == x.toList) = true := by simp
  have hy : (y == y) = true := by simp
  go_wp2_with fail
  refine (num_calls _ _).mono ?_
  rintro e w6 ⟨rfl, hw6⟩
  rw [hw6]
  clear hw6 w6
  go_wp2_with fail
  go_ret
  exact ⟨rfl, hb13.mono hBw, Chg.of_below hb13, vl, vm, xs, ms, HL.out, by omega, HK.out.below hb13, HKI.out⟩
end Go.Proofs.Ytnclmbolfpojoaa
