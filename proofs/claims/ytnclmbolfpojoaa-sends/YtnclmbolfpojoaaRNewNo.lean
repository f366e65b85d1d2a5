/-
  The reference's New where a number is out of its bounds.
-/
import Derived.Test.YtnclmbolfpojoaaRNew
namespace Go.Proofs.Ytnclmbolfpojoaa
open Go.RowKit
set_option maxHeartbeats 4000000 in
set_option maxRecDepth 100000 in
theorem rnew_no (c0 c1 c2 c3 c4 c5 c6 c7 c8 c9 : Int) (w : World) (h : (inB c0 1 4 && inB c5 1 8 && inB c6 1 8 && inB c7 8 250 && inB c8 1 600 && inB c9 1 9) = false) :
    Calls Try.prog 44 #[.agg #[.int .i64 c0, .int .i64 c1, .int .i64 c2, .int .i64 c3, .int .i64 c4, .int .i64 c5, .int .i64 c6, .int .i64 c7, .int .i64 c8, .int .i64 c9]] w fun e w' => e = .returned (.tuple #[.pointer none, .int .i64 1]) ∧ Below w.heap.size w w' := by
  have hbw := below_alloc' w (.cells #[.int .i64 c0, .int .i64 c1, .int .i64 c2, .int .i64 c3, .int .i64 c4, .int .i64 c5, .int .i64 c6, .int .i64 c7, .int .i64 c8, .int .i64 c9] 47)
  have HBW := (show Hid _ from hbw)
  clear hbw
  obtain ⟨x1, e1⟩ : ∃ x, inB c0 1 4 = x := ⟨_, rfl⟩
  obtain ⟨x2, e2⟩ : ∃ x, inB c5 1 8 = x := ⟨_, rfl⟩
  obtain ⟨x3, e3⟩ : ∃ x, inB c6 1 8 = x := ⟨_, rfl⟩
  obtain ⟨x4, e4⟩ : ∃ x, inB c7 8 250 = x := ⟨_, rfl⟩
  obtain ⟨x5, e5⟩ : ∃ x, inB c8 1 600 = x := ⟨_, rfl⟩
  obtain ⟨x6, e6⟩ : ∃ x, inB c9 1 9 = x := ⟨_, rfl⟩
  rw [e1, e2, e3, e4, e5, e6] at h
  cases x1 <;> cases x2 <;> cases x3 <;> cases x4 <;> cases x5 <;> cases x6
  all_goals first
    | exact absurd h (by decide)
    | (clear h
       go_enter Try.func44, Try.ntmps44
       go_wp2_with (go_at_call 81; refine (rin_calls _ _ _ _).mono ?_; rintro e w' ⟨rfl, rfl⟩)
       go_ret2
       exact ⟨rfl, HBW.out⟩)
end Go.Proofs.Ytnclmbolfpojoaa
