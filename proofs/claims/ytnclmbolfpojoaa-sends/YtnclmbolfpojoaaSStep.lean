/-
  A step of a script of those that send: the same answer by the program and by the document.
-/
import Derived.Test.YtnclmbolfpojoaaSSub
import Derived.Test.YtnclmbolfpojoaaSOpen
namespace Go.Proofs.Ytnclmbolfpojoaa
open Go.RowKit
set_option linter.unusedVariables false
attribute [local go_sem ↓] Go.wp_at_zero Go.wp_at_succ
def In64 (x : Int) : Prop := -9223372036854775808 ≤ x ∧ x ≤ 9223372036854775807
theorem lpick_calls (c n : Int) (w : World) (h1 : -9223372036854775808 ≤ c) (h2 : c ≤ 9223372036854775807) (hn : 1 ≤ n) (hn2 : n ≤ 9223372036854775807) :
    Calls Try.prog 35 #[.int .i64 c, .int .i64 n] w fun e w' => e = .returned (.int .i64 (pk c n)) ∧ w' = w := by
  by_cases hc : c < 0
  · have HE : Hid (-(c + 1).tmod n = pk c n) := by
      show _ = _
      unfold pk
      rw [if_pos hc, ← Int.neg_tmod, Int.tmod_eq_emod_of_nonneg (by omega)]
    go_enter Try.func35, Try.ntmps35
    go_wp2
    go_ret
    exact ⟨ret_int HE.out, rfl⟩
  · have HE : Hid (c % n = pk c n) := by
      show _ = _
      unfold pk
      rw [if_neg hc]
    go_enter Try.func35, Try.ntmps35
    go_wp2
    go_ret
    exact ⟨ret_int HE.out, rfl⟩
theorem lpick_nat (c : Int) (n : Nat) (h1 : -9223372036854775808 ≤ c) (h2 : c ≤ 9223372036854775807) (hn : 1 ≤ n) (hn2 : n ≤ 9223372036854775807) :
    ∃ k : Nat, k < n ∧ ∀ w : World, Calls Try.prog 35 #[.int .i64 c, .int .i64 n] w fun e w' => e = .returned (.int .i64 k) ∧ w' = w := by
  have hr := pk_range c n (by omega)
  refine ⟨(pk c n).toNat, by omega, fun w => (lpick_calls c n w h1 h2 (by omega) (by omega)).mono ?_⟩
  rintro e w' ⟨rfl, rfl⟩
  exact ⟨ret_int (by omega), rfl⟩
theorem sends_calls {w : World} {B gW : Nat} {lab : Nat → Nat} {ve vr vl vm : Value} {xs : List Value} {ms : List ByteArray} {gs rs : List Nat} {mp : Nat → Mod} (h : WI w B gW lab ve vr vl vm xs ms gs rs mp mp) {i N : Nat} (hi : i < gs.length) (hs : Snd N (mp i)) (hN : N ≤ 1099511627779)
    (k A Bb D W : Int) (hA : A ≤ 9223372036854775807) (s : ByteArray) (a : Option Addr) (n cap : Nat) (c0 c1 c2 c3 c4 c5 c6 c7 c8 c9 : Int) (ss : List ByteArray) (hst : StrsLow w B a n ss) (hn : n ≤ 8796093022208) (h5 : 5 ≤ k) (h9 : k ≤ 9) :
    Calls Try.prog 36 #[.pointer (some ⟨gW, 0, none⟩), ptrV (gs.getD i 0), ptrV (rs.getD i 0), .agg #[.int .i64 k, .int .i64 A, .int .i64 Bb, .int .i64 D, .int .i64 W, .string s, .slice a n cap, .int .i64 c0, .int .i64 c1, .int .i64 c2, .int .i64 c3, .int .i64 c4, .int .i64 c5, .int .i64 c6, .int .i64 c7, .int .i64 c8, .int .i64 c9]] w
      fun e w' => SPost w B gW lab ve vr vl vm xs ms gs rs mp i N e w' := by
  have : k = 5 ∨ k = 6 ∨ k = 7 ∨ k = 8 ∨ k = 9 := by omega
  rcases this with rfl | rfl | rfl | rfl | rfl
  · exact sends_submit h hi hs hN A Bb D W s a n cap c0 c1 c2 c3 c4 c5 c6 c7 c8 c9 ss hst hn
  · exact sends_cancel h hi hs hN A Bb D W s a n cap c0 c1 c2 c3 c4 c5 c6 c7 c8 c9
  · exact sends_write h hi hs hN A Bb D W hA s a n cap c0 c1 c2 c3 c4 c5 c6 c7 c8 c9
  · exact sends_state h hi hs hN A Bb D W s a n cap c0 c1 c2 c3 c4 c5 c6 c7 c8 c9
  · exact sends_flow h hi hs hN A Bb D W s a n cap c0 c1 c2 c3 c4 c5 c6 c7 c8 c9
/-- what a step leaves -/
def NextPost' (w : World) (B gW : Nat) (xs : List Value) (gs : List Nat) (N : Nat) (e : Ending) (w' : World) : Prop :=
  e = .returned (.bool true) ∧ Below B w w' ∧ ∃ lab' ve' vr' vl' vm' xs' ms' gs' rs' mp', WI w' B gW lab' ve' vr' vl' vm' xs' ms' gs' rs' mp' mp' ∧ xs'.length ≤ xs.length + 4 ∧ gs'.length ≤ gs.length + 1 ∧ ∀ i, i < gs'.length → Snd (N + 1) (mp' i)
set_option maxHeartbeats 2000000 in
set_option maxRecDepth 100000 in
theorem step_texts {w : World} {B gW : Nat} {lab : Nat → Nat} {ve vr vl vm : Value} {xs : List Value} {ms : List ByteArray} {gs rs : List Nat} {mp : Nat → Mod} (h : WI w B gW lab ve vr vl vm xs ms gs rs mp mp) {N : Nat} (hs : ∀ i, i < gs.length → Snd N (mp i)) (hN : N ≤ 1099511627779) (hk : xs.length ≤ 4398046511104) (hgl : gs.length ≤ 2199023255552)
    (k A Bb D W : Int) (hA : A ≤ 9223372036854775807) (hW : In64 W) (s : ByteArray) (a : Option Addr) (n cap : Nat) (c0 c1 c2 c3 c4 c5 c6 c7 c8 c9 : Int) (ss : List ByteArray) (hst : StrsLow w B a n ss) (hn : n ≤ 8796093022208) (hsz : s.size ≤ 9223372036854775000) (h1 : 1 ≤ k) (h3 : k ≤ 3) :
    Calls Try.prog 22 #[.pointer (some ⟨gW, 0, none⟩), .agg #[.int .i64 k, .int .i64 A, .int .i64 Bb, .int .i64 D, .int .i64 W, .string s, .slice a n cap, .int .i64 c0, .int .i64 c1, .int .i64 c2, .int .i64 c3, .int .i64 c4, .int .i64 c5, .int .i64 c6, .int .i64 c7, .int .i64 c8, .int .i64 c9]] w fun e w' => NextPost' w B gW xs gs N e w' := by
  have H := hid h
  have HS := hid hs
  have HST := hid hst
  have hb0 := below_alloc w (.cells #[.int .i64 k, .int .i64 A, .int .i64 Bb, .int .i64 D, .int .i64 W, .string s, .slice a n cap, .int .i64 c0, .int .i64 c1, .int .i64 c2, .int .i64 c3, .int .i64 c4, .int .i64 c5, .int .i64 c6, .int .i64 c7, .int .i64 c8, .int .i64 c9] 62)
  have ho0 : (w.alloc (.cells #[.int .i64 k, .int .i64 A, .int .i64 Bb, .int .i64 D, .int .i64 W, .string s, .slice a n cap, .int .i64 c0, .int .i64 c1, .int .i64 c2, .int .i64 c3, .int .i64 c4, .int .i64 c5, .int .i64 c6, .int .i64 c7, .int .i64 c8, .int .i64 c9] 62)).heap[w.heap.size]? = some (.cells #[.int .i64 k, .int .i64 A, .int .i64 Bb, .int .i64 D, .int .i64 W, .string s, .slice a n cap, .int .i64 c0, .int .i64 c1, .int .i64 c2, .int .i64 c3, .int .i64 c4, .int .i64 c5, .int .i64 c6, .int .i64 c7, .int .i64 c8, .int .i64 c9] 62 (0, 0)) := heap_alloc_new w _
  have hW0 : w.cell? ⟨gW, 0, none⟩ = some ve := Lib.cell_of_heap h.kept.2.1 0
  have hWlt := heap_some h.kept.2.1
  clear h hs hst ho0 hW0
  go_enter Try.func22, Try.ntmps22
  go_wp2_with fail
  generalize w.alloc (.cells #[.int .i64 k, .int .i64 A, .int .i64 Bb, .int .i64 D, .int .i64 W, .string s, .slice a n cap, .int .i64 c0, .int .i64 c1, .int .i64 c2, .int .i64 c3, .int .i64 c4, .int .i64 c5, .int .i64 c6, .int .i64 c7, .int .i64 c8, .int .i64 c9] 62) = w0 at *
  have h0 := H.out.below0 hb0
  refine (texts_calls B gW ve vr vl vm xs ms w0 h0.len hk h0.kept k A Bb D W s a n cap c0 c1 c2 c3 c4 c5 c6 c7 c8 c9 ss (HST.out.at (hb0.mono H.out.j.base) h0.j.base) hn hsz h1 h3 (Up (Lab (Her B w0.heap.size) (relab lab w.heap.size 0) 0) w0.heap.size) (fun k hk => .inr hk) (.inl h0.own) (h0.kin.mono (fun _ e => .inl e))).mono ?_
  intro e w2 hp
  obtain ⟨rfl, hb2, lab2, vl2, vm2, xs2, ms2, h2, hx2⟩ := h0.kstep hp
  have H2 := hid h2
  have HB2 := hid ((hb0.mono H.out.j.base).trans hb2)
  clear hp h0 h2 hb2 hb0
  go_wp2_with fail
  go_ret
  exact ⟨rfl, HB2.out, lab2, ve, vr, vl2, vm2, xs2, ms2, gs, rs, mp, H2.out, hx2, Nat.le_succ _, fun i hi => (HS.out i hi).mono (Nat.le_succ N)⟩
set_option maxHeartbeats 2000000 in
set_option maxRecDepth 100000 in
theorem step_new {w : World} {B gW : Nat} {lab : Nat → Nat} {ve vr vl vm : Value} {xs : List Value} {ms : List ByteArray} {gs rs : List Nat} {mp : Nat → Mod} (h : WI w B gW lab ve vr vl vm xs ms gs rs mp mp) {N : Nat} (hs : ∀ i, i < gs.length → Snd N (mp i)) (hN : N ≤ 1099511627779) (hk : xs.length ≤ 4398046511104) (hgl : gs.length ≤ 2199023255552)
    (A Bb D W : Int) (hA : A ≤ 9223372036854775807) (hW : In64 W) (s : ByteArray) (a : Option Addr) (n cap : Nat) (c0 c1 c2 c3 c4 c5 c6 c7 c8 c9 : Int) (ss : List ByteArray) (hst : StrsLow w B a n ss) (hn : n ≤ 8796093022208) (hsz : s.size ≤ 9223372036854775000) :
    Calls Try.prog 22 #[.pointer (some ⟨gW, 0, none⟩), .agg #[.int .i64 4, .int .i64 A, .int .i64 Bb, .int .i64 D, .int .i64 W, .string s, .slice a n cap, .int .i64 c0, .int .i64 c1, .int .i64 c2, .int .i64 c3, .int .i64 c4, .int .i64 c5, .int .i64 c6, .int .i64 c7, .int .i64 c8, .int .i64 c9]] w fun e w' => NextPost' w B gW xs gs N e w' := by
  have H := hid h
  have HS := hid hs
  have HST := hid hst
  have hb0 := below_alloc w (.cells #[.int .i64 4, .int .i64 A, .int .i64 Bb, .int .i64 D, .int .i64 W, .string s, .slice a n cap, .int .i64 c0, .int .i64 c1, .int .i64 c2, .int .i64 c3, .int .i64 c4, .int .i64 c5, .int .i64 c6, .int .i64 c7, .int .i64 c8, .int .i64 c9] 62)
  have ho0 : (w.alloc (.cells #[.int .i64 4, .int .i64 A, .int .i64 Bb, .int .i64 D, .int .i64 W, .string s, .slice a n cap, .int .i64 c0, .int .i64 c1, .int .i64 c2, .int .i64 c3, .int .i64 c4, .int .i64 c5, .int .i64 c6, .int .i64 c7, .int .i64 c8, .int .i64 c9] 62)).heap[w.heap.size]? = some (.cells #[.int .i64 4, .int .i64 A, .int .i64 Bb, .int .i64 D, .int .i64 W, .string s, .slice a n cap, .int .i64 c0, .int .i64 c1, .int .i64 c2, .int .i64 c3, .int .i64 c4, .int .i64 c5, .int .i64 c6, .int .i64 c7, .int .i64 c8, .int .i64 c9] 62 (0, 0)) := heap_alloc_new w _
  have hW0 : w.cell? ⟨gW, 0, none⟩ = some ve := Lib.cell_of_heap h.kept.2.1 0
  have hWlt := heap_some h.kept.2.1
  clear h hs hst ho0 hW0
  have hop : ∀ W, Below w.heap.size w W → Calls Try.prog 26 #[.pointer (some ⟨gW, 0, none⟩), .agg #[.int .i64 c0, .int .i64 c1, .int .i64 c2, .int .i64 c3, .int .i64 c4, .int .i64 c5, .int .i64 c6, .int .i64 c7, .int .i64 c8, .int .i64 c9]] W fun e w' => OpenPost W B gW vl vm xs ms gs N e w' := by
    intro W hW
    have h0 := H.out.below0 hW
    cases hb : cfgB c0 c1 c2 c3 c4 c5 c6 c7 c8 c9
    · exact opens_no h0 HS.out c0 c1 c2 c3 c4 c5 c6 c7 c8 c9 hb
    · obtain ⟨hok, hcells⟩ := cfg_ok hb
      rw [hcells]
      exact opens_yes h0 HS.out hgl _ hok
  have HOP := hid hop
  clear hop
  go_enter Try.func22, Try.ntmps22
  go_wp2_with fail
  generalize w.alloc (.cells #[.int .i64 4, .int .i64 A, .int .i64 Bb, .int .i64 D, .int .i64 W, .string s, .slice a n cap, .int .i64 c0, .int .i64 c1, .int .i64 c2, .int .i64 c3, .int .i64 c4, .int .i64 c5, .int .i64 c6, .int .i64 c7, .int .i64 c8, .int .i64 c9] 62) = w0 at *
  refine (HOP.out _ hb0).mono ?_
  rintro e w2 ⟨rfl, hb2, lab2, ve2, vr2, gs2, rs2, mp2, h2, hl2, hs2⟩
  have H2 := hid h2
  have HS2 := hid hs2
  have HB2 := hid ((hb0.mono H.out.j.base).trans hb2)
  clear h2 hb2 hb0 hs2
  go_wp2_with fail
  go_ret
  exact ⟨rfl, HB2.out, lab2, ve2, vr2, vl, vm, xs, ms, gs2, rs2, mp2, H2.out, by omega, hl2, fun i hi => (HS2.out i hi).mono (Nat.le_succ N)⟩
set_option maxHeartbeats 2000000 in
set_option maxRecDepth 100000 in
theorem step_idle {w : World} {B gW : Nat} {lab : Nat → Nat} {ve vr vl vm : Value} {xs : List Value} {ms : List ByteArray} {gs rs : List Nat} {mp : Nat → Mod} (h : WI w B gW lab ve vr vl vm xs ms gs rs mp mp) {N : Nat} (hs : ∀ i, i < gs.length → Snd N (mp i)) (hN : N ≤ 1099511627779) (hk : xs.length ≤ 4398046511104) (hgl : gs.length ≤ 2199023255552)
    (k A Bb D W : Int) (hA : A ≤ 9223372036854775807) (hW : In64 W) (s : ByteArray) (a : Option Addr) (n cap : Nat) (c0 c1 c2 c3 c4 c5 c6 c7 c8 c9 : Int) (ss : List ByteArray) (hst : StrsLow w B a n ss) (hn : n ≤ 8796093022208) (hsz : s.size ≤ 9223372036854775000) (hx : k < 1 ∨ (5 ≤ k ∧ k ≤ 9 ∧ gs = [])) :
    Calls Try.prog 22 #[.pointer (some ⟨gW, 0, none⟩), .agg #[.int .i64 k, .int .i64 A, .int .i64 Bb, .int .i64 D, .int .i64 W, .string s, .slice a n cap, .int .i64 c0, .int .i64 c1, .int .i64 c2, .int .i64 c3, .int .i64 c4, .int .i64 c5, .int .i64 c6, .int .i64 c7, .int .i64 c8, .int .i64 c9]] w fun e w' => NextPost' w B gW xs gs N e w' := by
  have H := hid h
  have HS := hid hs
  have HST := hid hst
  have hb0 := below_alloc w (.cells #[.int .i64 k, .int .i64 A, .int .i64 Bb, .int .i64 D, .int .i64 W, .string s, .slice a n cap, .int .i64 c0, .int .i64 c1, .int .i64 c2, .int .i64 c3, .int .i64 c4, .int .i64 c5, .int .i64 c6, .int .i64 c7, .int .i64 c8, .int .i64 c9] 62)
  have ho0 : (w.alloc (.cells #[.int .i64 k, .int .i64 A, .int .i64 Bb, .int .i64 D, .int .i64 W, .string s, .slice a n cap, .int .i64 c0, .int .i64 c1, .int .i64 c2, .int .i64 c3, .int .i64 c4, .int .i64 c5, .int .i64 c6, .int .i64 c7, .int .i64 c8, .int .i64 c9] 62)).heap[w.heap.size]? = some (.cells #[.int .i64 k, .int .i64 A, .int .i64 Bb, .int .i64 D, .int .i64 W, .string s, .slice a n cap, .int .i64 c0, .int .i64 c1, .int .i64 c2, .int .i64 c3, .int .i64 c4, .int .i64 c5, .int .i64 c6, .int .i64 c7, .int .i64 c8, .int .i64 c9] 62 (0, 0)) := heap_alloc_new w _
  have hW0 : w.cell? ⟨gW, 0, none⟩ = some ve := Lib.cell_of_heap h.kept.2.1 0
  have hWlt := heap_some h.kept.2.1
  have hfin : NextPost' w B gW xs gs N (.returned (.bool true)) (w.alloc (.cells #[.int .i64 k, .int .i64 A, .int .i64 Bb, .int .i64 D, .int .i64 W, .string s, .slice a n cap, .int .i64 c0, .int .i64 c1, .int .i64 c2, .int .i64 c3, .int .i64 c4, .int .i64 c5, .int .i64 c6, .int .i64 c7, .int .i64 c8, .int .i64 c9] 62)) := by
    obtain ⟨labf, hwf⟩ := h.below hb0
    exact ⟨rfl, hb0.mono h.j.base, labf, ve, vr, vl, vm, xs, ms, gs, rs, mp, hwf, by omega, Nat.le_succ _, fun i hi => (hs i hi).mono (Nat.le_succ N)⟩
  have HFIN := hid hfin
  obtain ⟨al, cl, rfl⟩ := h.j.rowE.slice
  rw [List.length_map] at hW0
  have v0 : ∀ o, (w.alloc o).cell? ⟨gW, 0, none⟩ = some (.slice al gs.length cl) := fun o => (World.cell?_alloc_lt _ _ _ hWlt).trans hW0
  clear h hs hst ho0 hb0 hfin
  rcases hx with hx | ⟨h5, h9, rfl⟩
  · have h4 : (k == 4) = false := by rw [beq_eq_false_iff_ne]; omega
    by_cases hz : gs.length = 0
    · rw [hz] at v0 hW0
      go_enter Try.func22, Try.ntmps22
      go_wp2
      go_ret
      exact HFIN.out
    · have hz' : ((gs.length : Int) == 0) = false := by rw [beq_eq_false_iff_ne]; omega
      go_enter Try.func22, Try.ntmps22
      go_wp2
      go_ret
      exact HFIN.out
  · have h4 : (k == 4) = false := by rw [beq_eq_false_iff_ne]; omega
    go_enter Try.func22, Try.ntmps22
    go_wp2
    go_ret
    exact HFIN.out
end Go.Proofs.Ytnclmbolfpojoaa
