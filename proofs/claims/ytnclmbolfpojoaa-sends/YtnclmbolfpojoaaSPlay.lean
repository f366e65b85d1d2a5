/-
  A script of steps that send, played to its end: each answer is the document's, and what is kept stays kept.
-/
import Derived.Test.YtnclmbolfpojoaaSStepB
namespace Go.Proofs.Ytnclmbolfpojoaa
open Go.RowKit
set_option linter.unusedVariables false
theorem step_any {w : World} {B gW : Nat} {lab : Nat → Nat} {ve vr vl vm : Value} {xs : List Value} {ms : List ByteArray} {gs rs : List Nat} {mp : Nat → Mod} (h : WI w B gW lab ve vr vl vm xs ms gs rs mp mp) {N : Nat} (hs : ∀ i, i < gs.length → Snd N (mp i)) (hN : N ≤ 1099511627779) (hk : xs.length ≤ 4398046511104) (hgl : gs.length ≤ 2199023255552)
    (k A Bb D W : Int) (hA : A ≤ 9223372036854775807) (hW : In64 W) (s : ByteArray) (a : Option Addr) (n cap : Nat) (c0 c1 c2 c3 c4 c5 c6 c7 c8 c9 : Int) (ss : List ByteArray) (hst : StrsLow w B a n ss) (hn : n ≤ 8796093022208) (hsz : s.size ≤ 9223372036854775000) (h9 : k ≤ 9) :
    Calls Try.prog 22 #[.pointer (some ⟨gW, 0, none⟩), .agg #[.int .i64 k, .int .i64 A, .int .i64 Bb, .int .i64 D, .int .i64 W, .string s, .slice a n cap, .int .i64 c0, .int .i64 c1, .int .i64 c2, .int .i64 c3, .int .i64 c4, .int .i64 c5, .int .i64 c6, .int .i64 c7, .int .i64 c8, .int .i64 c9]] w fun e w' => NextPost' w B gW xs gs N e w' := by
  by_cases h1 : k < 1
  · exact step_idle h hs hN hk hgl k A Bb D W hA hW s a n cap c0 c1 c2 c3 c4 c5 c6 c7 c8 c9 ss hst hn hsz (.inl h1)
  by_cases h3 : k ≤ 3
  · exact step_texts h hs hN hk hgl k A Bb D W hA hW s a n cap c0 c1 c2 c3 c4 c5 c6 c7 c8 c9 ss hst hn hsz (by omega) h3
  by_cases h4 : k = 4
  · subst h4
    exact step_new h hs hN hk hgl A Bb D W hA hW s a n cap c0 c1 c2 c3 c4 c5 c6 c7 c8 c9 ss hst hn hsz
  by_cases hg : gs = []
  · exact step_idle h hs hN hk hgl k A Bb D W hA hW s a n cap c0 c1 c2 c3 c4 c5 c6 c7 c8 c9 ss hst hn hsz (.inr ⟨by omega, h9, hg⟩)
  · exact step_send h hs hN hk hgl k A Bb D W hA hW s a n cap c0 c1 c2 c3 c4 c5 c6 c7 c8 c9 ss hst hn hsz (by omega) h9 (List.length_pos_iff.2 hg)
/-- a step of a script at a place in memory, its numbers as Go has them -/
def OpAt2 (w : World) (B b o : Nat) : Prop :=
  ∃ (k A B' D W : Int) (s : ByteArray) (a : Option Addr) (n cap : Nat) (c0 c1 c2 c3 c4 c5 c6 c7 c8 c9 : Int) (ss : List ByteArray),
    (w.cell? ⟨b, o, none⟩ = some (.int .i64 k) ∧ w.cell? ⟨b, o + 1, none⟩ = some (.int .i64 A) ∧ w.cell? ⟨b, o + 2, none⟩ = some (.int .i64 B') ∧ w.cell? ⟨b, o + 3, none⟩ = some (.int .i64 D) ∧
     w.cell? ⟨b, o + 4, none⟩ = some (.int .i64 W) ∧ w.cell? ⟨b, o + 5, none⟩ = some (.string s) ∧ w.cell? ⟨b, o + 6, none⟩ = some (.slice a n cap) ∧
     w.cell? ⟨b, o + 7, none⟩ = some (.int .i64 c0) ∧ w.cell? ⟨b, o + 8, none⟩ = some (.int .i64 c1) ∧ w.cell? ⟨b, o + 9, none⟩ = some (.int .i64 c2) ∧ w.cell? ⟨b, o + 10, none⟩ = some (.int .i64 c3) ∧
     w.cell? ⟨b, o + 11, none⟩ = some (.int .i64 c4) ∧ w.cell? ⟨b, o + 12, none⟩ = some (.int .i64 c5) ∧ w.cell? ⟨b, o + 13, none⟩ = some (.int .i64 c6) ∧ w.cell? ⟨b, o + 14, none⟩ = some (.int .i64 c7) ∧
     w.cell? ⟨b, o + 15, none⟩ = some (.int .i64 c8) ∧ w.cell? ⟨b, o + 16, none⟩ = some (.int .i64 c9)) ∧
    StrsLow w B a n ss ∧ n ≤ 8796093022208 ∧ s.size ≤ 9223372036854775000 ∧ In64 A ∧ In64 W
def ScriptAt2 (w : World) (B : Nat) (a : Option Addr) (n : Nat) : Prop :=
  n ≤ 1099511627776 ∧ (0 < n → ∃ b off, a = some ⟨b, off, none⟩ ∧ b < B ∧ ∀ i, i < n → OpAt2 w B b (off + i * 17))
set_option maxHeartbeats 4000000 in
set_option maxRecDepth 100000 in
theorem play_send {w : World} {B gW : Nat} {lab : Nat → Nat} {ve vr vl vm : Value} {gs rs : List Nat} {mp : Nat → Mod} (h : WI w B gW lab ve vr vl vm [] [] gs rs mp mp) (hs : ∀ i, i < gs.length → Snd 0 (mp i)) (hg2 : gs.length ≤ 2) (w00 : World) (hB0 : Below B w00 w) (a : Option Addr) (n cap : Nat) (hsc : ScriptAt2 w00 B a n) :
    Calls Try.prog 9 #[.pointer (some ⟨gW, 0, none⟩), .slice a n cap, .int .i64 9] w fun e w' => PlayPost w B e w' := by
  obtain ⟨hn, hat⟩ := hsc
  have HK := hid h
  have HS0 := hid hs
  have HAT : Hid (0 < n → ∃ b off, a = some ⟨b, off, none⟩ ∧ b < B ∧ ∀ i, i < n → OpAt2 w00 B b (off + i * 17)) := hat
  have HB0 := hid hB0
  clear h hat hs hB0
  go_enter Try.func9, Try.ntmps9
  go_wp2
  go_loopw [6, 7, 8, 9] (fun _ j _ _ wr => ∃ (i : Nat) (lab : Nat → Nat) (ve vr vl vm : Value) (xs : List Value) (ms : List ByteArray) (gs rs : List Nat) (mp : Nat → Mod), i ≤ n ∧ j = .int .i64 i ∧ xs.length ≤ 4 * i ∧ gs.length ≤ 2 + i ∧ WI wr B gW lab ve vr vl vm xs ms gs rs mp mp ∧ (∀ t, t < gs.length → Snd i (mp t)) ∧ Below B w wr) (fun _ j _ _ _ => n - (intOf j).toNat)
  case atStart => exact ⟨0, lab, ve, vr, vl, vm, [], [], gs, rs, mp, Nat.zero_le _, rfl, Nat.le_refl _, by omega, HK.out, HS0.out, Below.refl _ _⟩
  case round =>
    clear HK HS0 hg2
    obtain ⟨i, lab, ve, vr, vl, vm, xs, ms, gs, rs, mp, hi, rfl, hlx, hgl, hwi, hsn, hbel⟩ := hrel
    have HWI := hid hwi
    have HSN := hid hsn
    have hBw : B ≤ wr.heap.size := hwi.j.base
    have HBT := hid (HB0.out.trans hbel)
    clear hwi hsn
    by_cases hlt : i < n
    · obtain ⟨b, off, rfl, hb, hops⟩ := HAT.out (by omega)
      obtain ⟨k, A, B', D, W, s, a', n', cap', c0, c1, c2, c3, c4, c5, c6, c7, c8, c9, ss, hcells, hst, hn', hs', hA', hW'⟩ := hops i hlt
      have HST := hid hst
      have HW' := hid hW'
      have hA2 := hA'.2
      have cc : ∀ j, wr.cell? ⟨b, off + i * 17 + j, none⟩ = w00.cell? ⟨b, off + i * 17 + j, none⟩ := fun j => HBT.out.cell (p := ⟨b, off + i * 17 + j, none⟩) hb
      have cc0 : wr.cell? ⟨b, off + i * 17, none⟩ = w00.cell? ⟨b, off + i * 17, none⟩ := HBT.out.cell (p := ⟨b, off + i * 17, none⟩) hb
      rw [← cc 1, ← cc 2, ← cc 3, ← cc 4, ← cc 5, ← cc 6, ← cc 7, ← cc 8, ← cc 9, ← cc 10, ← cc 11, ← cc 12, ← cc 13, ← cc 14, ← cc 15, ← cc 16, ← cc0] at hcells
      obtain ⟨k0, k1, k2, k3, k4, k5, k6, k7, k8, k9, k10, k11, k12, k13, k14, k15, k16⟩ := hcells
      clear hst hops cc cc0 hA' hW'
      by_cases h3 : 9 < k
      · go_wp2
        go_roundw
        case rel => exact ⟨i + 1, lab, ve, vr, vl, vm, xs, ms, gs, rs, mp, by omega, by go_num, by omega, by omega, HWI.out, fun t ht => (HSN.out t ht).mono (Nat.le_succ i), hbel⟩
        case measure => simp [intOf]; omega
      · go_wp2_with fail
        refine (step_any HWI.out HSN.out (by omega) (by omega) (by omega) k A B' D W hA2 HW'.out s a' n' cap' c0 c1 c2 c3 c4 c5 c6 c7 c8 c9 ss (strsLow_at HST.out HBT.out) hn' hs' (by omega)).mono ?_
        rintro e w2 ⟨rfl, hb2, lab2, ve2, vr2, vl2, vm2, xs2, ms2, gs2, rs2, mp2, hw2, hlx2, hgl2, hs2⟩
        have HW2 := hid hw2
        have HS2 := hid hs2
        clear hw2 hs2 k0 k1 k2 k3 k4 k5 k6 k7 k8 k9 k10 k11 k12 k13 k14 k15 k16
        go_wp2_with fail
        refine (kept_calls B gW _ vr2 vl2 vm2 xs2 ms2 w2 HW2.out.len (by omega) HW2.out.kept).mono ?_
        rintro e w3 ⟨rfl, q, rfl⟩
        obtain ⟨lab3, hw3⟩ := HW2.out.below (below_draws' (Below.refl _ w2) q)
        have HW3 := hid hw3
        clear hw3
        go_wp2_with fail
        go_roundw
        case rel => exact ⟨i + 1, lab3, ve2, vr2, vl2, vm2, xs2, ms2, gs2, rs2, mp2, by omega, by go_num, by omega, by omega, HW3.out, HS2.out, hbel.trans (below_draws' hb2 q)⟩
        case measure => simp [intOf]; omega
    · go_wp2
      go_ret
      exact ⟨rfl, hbel⟩
end Go.Proofs.Ytnclmbolfpojoaa
