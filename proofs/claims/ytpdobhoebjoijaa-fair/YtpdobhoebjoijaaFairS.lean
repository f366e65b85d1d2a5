/-
  Messages are submitted on a stream.
-/
import Derived.Test.YtpdobhoebjoijaaPSub
import Derived.Test.YtpdobhoebjoijaaFairP
namespace Go.Proofs.Ytpdobhoebjoijaa
open Go.RowKit
def abc : ByteArray := ⟨#[97, 98, 99, 100, 101, 102, 103, 104, 105, 106, 107, 108, 109, 110, 111]⟩
def rounds : Nat → Nat → Nat → Nat
  | 0, _, t => t
  | k + 1, n, t => if t + n + 2 ≤ 240 then rounds k n (t + n + 2) else t
set_option maxHeartbeats 2000000 in
set_option maxRecDepth 100000 in
/-- submitted -/
theorem submitted_calls {w : World} {F : Nat → Prop} {g : Nat} {c : Cfg} {m : Mod} {x : Nat → Nat} (h : PEnd w F g m) (hp : Pre c m x) (hn : c.n = 2) (hw : c.window = 250) (hq : c.queue = 600) (i n : Nat) (hi : i < 2) (h1 : 1 ≤ n) (h15 : n ≤ 15) (hx : ∀ j, j < 2 → x j ≤ 240) (h0 : x i = 0) :
    Calls Try.prog 15 #[ptrV g, .int .i64 i, .int .i64 n] w fun e w' => ∃ (T : Nat) (m1 : Mod) (F1 : Nat → Prop), e = .returned (.int .i64 T) ∧ 0 < T ∧ T ≤ 240 ∧ PEnd w' F1 g m1 ∧ Chg F w w' ∧ (∀ k, k < w.heap.size → F1 k → F k) ∧ Pre c m1 (fun j => if j = i then T else x j) := by
  have H := hid h
  have HP := hid hp
  have HN := hid hn
  have HW := hid hw
  have HQ := hid hq
  have HX := hid hx
  have H0 := hid h0
  clear h hp hn hw hq hx h0
  unfold ptrV
  go_enter Try.func15, Try.ntmps15
  go_wp2
  go_loopw [7, 8] (fun t _ wr => ∃ (T : Nat) (m1 : Mod) (F1 : Nat → Prop), t = .int .i64 T ∧ T ≤ 240 ∧ (T = 0 → 0 + n + 2 ≤ 240) ∧ PEnd wr F1 g m1 ∧ Chg F w wr ∧ (∀ k, k < w.heap.size → F1 k → F k) ∧ Pre c m1 (fun j => if j = i then T else x j)) (fun t _ _ => 240 - (intOf t).toNat)
  case atStart =>
    refine ⟨0, m, F, rfl, by omega, fun _ => by omega, H.out, Chg.refl _ _, fun _ _ e => e, ?_⟩
    have e : (fun j => if j = i then 0 else x j) = x := by
      funext j
      split
      · rename_i e; rw [e, H0.out]
      · rfl
    rw [e]
    exact HP.out
  case round =>
    obtain ⟨T, m1, F1, rfl, hT, _, hP, hC, hF, hPre⟩ := hrel
    have HE := hid hP
    have HC := hid hC
    have HF := hid hF
    have HPR := hid hPre
    clear hP hC hF hPre
    by_cases hlt : T + n + 2 ≤ 240
    · have hlen : (abc.extract 0 n).size = n := by rw [ex_size]; show min n 15 - 0 = n; omega
      have HL := hid hlen
      clear hlen
      go_wp2_with fail
      have hst : StrsAt (wr.alloc (.cells #[.string (abc.extract 0 n)] 9)) (some ⟨wr.heap.size, 0, none⟩) 1 [abc.extract 0 n] := by
        refine ⟨rfl, by unfold maxLen; omega, fun s hs => ?_, fun _ => ⟨wr.heap.size, 0, rfl, by simp, fun j hj => ?_⟩⟩
        · simp at hs
          rw [hs, HL.out]
          unfold maxLen
          omega
        · obtain rfl : j = 0 := by omega
          exact cell_one _ _ _
      have hen : PEnd (wr.alloc (.cells #[.string (abc.extract 0 n)] 9)) F1 g m1 := HE.out.keeps (G := fun _ => False) (Chg.alloc wr _) (fun _ _ => id)
      refine (psubmit_calls hen HPR.out.inv i _ 1 1 _ hst).mono ?_
      rintro e w2 ⟨rfl, hp2, hc2⟩
      have hxx : ∀ j, j < 2 → (fun j => if j = i then T else x j) j ≤ 240 := by
        intro j hj
        show (if j = i then T else x j) ≤ 240
        split
        · exact hT
        · exact HX.out j hj
      obtain ⟨hz, hpre⟩ := HPR.out.submit HN.out HW.out HQ.out hi (p := abc.extract 0 n) (by rw [HL.out]; omega) hxx
      rw [hz]
      have HP2 := hid hp2
      have HC2 := hid hc2
      have HPRE := hid hpre
      clear hp2 hc2 hpre hst hen hxx hz
      go_wp2
      go_roundw
      case rel =>
        refine ⟨T + n + 2, m1.submit i [abc.extract 0 n], _, by go_num, hlt, fun _ => by omega, HP2.out, ?_, ?_, ?_⟩
        · refine HC.out.trans (((Chg.alloc wr _).trans' HC2.out).mono (fun k _ e => ?_))
          by_cases hk : k < w.heap.size
          · exact .inl (HF.out k hk e)
          · exact .inr (by omega)
        · intro k hk e
          rcases e with e | e
          · exact HF.out k hk e
          · have := HC.out.size
            simp at e
            omega
        · have e : (fun j => if j = i then (fun j => if j = i then T else x j) j + ((abc.extract 0 n).size + 2) else (fun j => if j = i then T else x j) j) = (fun j => if j = i then T + n + 2 else x j) := by
            funext j
            simp only
            split
            · rw [HL.out]; omega
            · rfl
          rw [← e]
          exact HPRE.out
      case measure => simp [intOf]; omega
    · have hT0 : 0 < T := by omega
      go_wp2
      go_ret
      exact ⟨T, m1, F1, rfl, hT0, hT, HE.out, HC.out, HF.out, HPR.out⟩
end Go.Proofs.Ytpdobhoebjoijaa
