/-
  A script of steps whose kinds are at most that of Header, played to its end: each answer is the document's, and what is kept stays kept.
-/
import Derived.Test.YtnclmbolfpojoaaStep
import Derived.WalkKit
import Derived.WalkSpells
namespace Go.Proofs.Ytnclmbolfpojoaa
open Go.RowKit
/-- a slice of strings that lies below B -/
def StrsLow (w : World) (B : Nat) (a : Option Addr) (n : Nat) (ss : List ByteArray) : Prop :=
  ss.length = n ∧ n ≤ maxLen ∧ (∀ s ∈ ss, s.size ≤ maxLen) ∧ (0 < n → ∃ b off, a = some ⟨b, off, none⟩ ∧ b < B ∧ ∀ j, j < n → w.cell? ⟨b, off + j, none⟩ = some (.string (ss.getD j ByteArray.empty)))
theorem StrsLow.at {w w' : World} {B : Nat} {a : Option Addr} {n : Nat} {ss : List ByteArray} (h : StrsLow w B a n ss) (hb : Below B w w') (hB : B ≤ w'.heap.size) : StrsAt w' a n ss := by
  obtain ⟨h1, h2, h3, h4⟩ := h
  refine ⟨h1, h2, h3, fun hn => ?_⟩
  obtain ⟨b, off, e, hlt, hc⟩ := h4 hn
  exact ⟨b, off, e, Nat.lt_of_lt_of_le hlt hB, fun j hj => by rw [hb.cell (p := ⟨b, off + j, none⟩) hlt]; exact hc j hj⟩
/-- a step of a script at a place in memory -/
def OpAt (w : World) (B b o : Nat) : Prop :=
  ∃ (k A B' D W : Int) (s : ByteArray) (a : Option Addr) (n cap : Nat) (c0 c1 c2 c3 c4 c5 c6 c7 c8 c9 : Int) (ss : List ByteArray),
    (w.cell? ⟨b, o, none⟩ = some (.int .i64 k) ∧ w.cell? ⟨b, o + 1, none⟩ = some (.int .i64 A) ∧ w.cell? ⟨b, o + 2, none⟩ = some (.int .i64 B') ∧ w.cell? ⟨b, o + 3, none⟩ = some (.int .i64 D) ∧
     w.cell? ⟨b, o + 4, none⟩ = some (.int .i64 W) ∧ w.cell? ⟨b, o + 5, none⟩ = some (.string s) ∧ w.cell? ⟨b, o + 6, none⟩ = some (.slice a n cap) ∧
     w.cell? ⟨b, o + 7, none⟩ = some (.int .i64 c0) ∧ w.cell? ⟨b, o + 8, none⟩ = some (.int .i64 c1) ∧ w.cell? ⟨b, o + 9, none⟩ = some (.int .i64 c2) ∧ w.cell? ⟨b, o + 10, none⟩ = some (.int .i64 c3) ∧
     w.cell? ⟨b, o + 11, none⟩ = some (.int .i64 c4) ∧ w.cell? ⟨b, o + 12, none⟩ = some (.int .i64 c5) ∧ w.cell? ⟨b, o + 13, none⟩ = some (.int .i64 c6) ∧ w.cell? ⟨b, o + 14, none⟩ = some (.int .i64 c7) ∧
     w.cell? ⟨b, o + 15, none⟩ = some (.int .i64 c8) ∧ w.cell? ⟨b, o + 16, none⟩ = some (.int .i64 c9)) ∧
    StrsLow w B a n ss ∧ n ≤ 8796093022208 ∧ s.size ≤ 9223372036854775000
def ScriptAt (w : World) (B : Nat) (a : Option Addr) (n : Nat) : Prop :=
  n ≤ 1099511627776 ∧ (0 < n → ∃ b off, a = some ⟨b, off, none⟩ ∧ b < B ∧ ∀ i, i < n → OpAt w B b (off + i * 17))
def PlayPost (w : World) (B : Nat) (e : Ending) (w' : World) : Prop := e = .returned (.bool true) ∧ Below B w w'
set_option maxHeartbeats 4000000 in
set_option maxRecDepth 100000 in
theorem play_low (B gW : Nat) (vr vl vm : Value) (w : World) (a : Option Addr) (n cap : Nat) (h : Kept w B gW (.slice none 0 0) vr vl vm [] []) (hsc : ScriptAt w B a n) :
    Calls Try.prog 9 #[.pointer (some ⟨gW, 0, none⟩), .slice a n cap, .int .i64 3] w fun e w' => PlayPost w B e w' := by
  obtain ⟨hn, hat⟩ := hsc
  have HK : Hid (Kept w B gW (.slice none 0 0) vr vl vm [] []) := h
  have HAT : Hid (0 < n → ∃ b off, a = some ⟨b, off, none⟩ ∧ b < B ∧ ∀ i, i < n → OpAt w B b (off + i * 17)) := hat
  clear h hat
  go_enter Try.func9, Try.ntmps9
  go_wp2
  go_loopw [6, 7, 8, 9] (fun _ j _ _ wr => ∃ (i : Nat) (vl vm : Value) (xs : List Value) (ms : List ByteArray), i ≤ n ∧ j = .int .i64 i ∧ xs.length = ms.length ∧ xs.length ≤ 4 * i ∧ Kept wr B gW (.slice none 0 0) vr vl vm xs ms ∧ Below B w wr) (fun _ j _ _ _ => n - (intOf j).toNat)
  case atStart => exact ⟨0, vl, vm, [], [], Nat.zero_le _, rfl, rfl, Nat.le_refl _, HK.out, Below.refl _ _⟩
  case round =>
    clear HK vl vm
    obtain ⟨i, vl, vm, xs, ms, hi, rfl, hl, hlx, hkept, hbel⟩ := hrel
    have HK : Hid (Kept wr B gW (.slice none 0 0) vr vl vm xs ms) := hkept
    have HL : Hid (xs.length = ms.length) := hl
    have hBw : B ≤ wr.heap.size := Nat.le_trans hkept.1 (Nat.le_of_lt (Array.getElem?_eq_some_iff.1 hkept.2.1).1)
    clear hkept hl
    by_cases hlt : i < n
    · obtain ⟨b, off, rfl, hb, hops⟩ := HAT.out (by omega)
      obtain ⟨k, A, B', D, W, s, a', n', cap', c0, c1, c2, c3, c4, c5, c6, c7, c8, c9, ss, hcells, hst, hn', hs'⟩ := hops i hlt
      have HST : Hid (StrsLow w B a' n' ss) := hst
      have cc : ∀ j, wr.cell? ⟨b, off + i * 17 + j, none⟩ = w.cell? ⟨b, off + i * 17 + j, none⟩ := fun j => hbel.cell (p := ⟨b, off + i * 17 + j, none⟩) hb
      have cc0 : wr.cell? ⟨b, off + i * 17, none⟩ = w.cell? ⟨b, off + i * 17, none⟩ := hbel.cell (p := ⟨b, off + i * 17, none⟩) hb
      rw [← cc 1, ← cc 2, ← cc 3, ← cc 4, ← cc 5, ← cc 6, ← cc 7, ← cc 8, ← cc 9, ← cc 10, ← cc 11, ← cc 12, ← cc 13, ← cc 14, ← cc 15, ← cc 16, ← cc0] at hcells
      obtain ⟨k0, k1, k2, k3, k4, k5, k6, k7, k8, k9, k10, k11, k12, k13, k14, k15, k16⟩ := hcells
      clear hst hops cc cc0
      by_cases h3 : 3 < k
      · go_wp2
        go_roundw
        case rel => exact ⟨i + 1, vl, vm, xs, ms, by omega, by go_num, HL.out, by omega, HK.out, hbel⟩
        case measure => simp [intOf]; omega
      · go_wp2_with fail
        refine (step_low B gW vr vl vm xs ms wr HL.out (by omega) HK.out k A B' D W s a' n' cap' c0 c1 c2 c3 c4 c5 c6 c7 c8 c9 ss (HST.out.at hbel hBw) hn' hs' (by omega) (fun _ => True) (fun _ _ => trivial) trivial ⟨fun _ _ => trivial, fun _ _ => trivial, fun _ _ _ _ => trivial⟩).mono ?_
        rintro e w2 ⟨rfl, hb2, hc2, vl2, vm2, xs2, ms2, hl2, hlx2, hk2, hi2⟩
        have HK2 : Hid (Kept w2 B gW (.slice none 0 0) vr vl2 vm2 xs2 ms2) := hk2
        have HL2 : Hid (xs2.length = ms2.length) := hl2
        clear hk2 hl2 hc2 hi2 k0 k1 k2 k3 k4 k5 k6 k7 k8 k9 k10 k11 k12 k13 k14 k15 k16
        go_wp2_with fail
        refine (kept_calls B gW _ vr vl2 vm2 xs2 ms2 w2 HL2.out (by omega) HK2.out).mono ?_
        rintro e w3 ⟨rfl, q, rfl⟩
        go_wp2_with fail
        go_roundw
        case rel => exact ⟨i + 1, vl2, vm2, xs2, ms2, by omega, by go_num, HL2.out, by omega, HK2.out.below (below_draws' (Below.refl _ _) q), hbel.trans (below_draws' hb2 q)⟩
        case measure => simp [intOf]; omega
    · go_wp2
      go_ret
      exact ⟨rfl, hbel⟩

end Go.Proofs.Ytnclmbolfpojoaa
