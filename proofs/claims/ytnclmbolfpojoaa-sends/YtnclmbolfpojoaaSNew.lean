/-
  New, by the program and by the document: an end just where the document has one.
-/
import Derived.Test.YtnclmbolfpojoaaSInv
import Derived.Test.YtnclmbolfpojoaaRNewNo
namespace Go.Proofs.Ytnclmbolfpojoaa
open Go.RowKit
/-- whether ten numbers are a configuration -/
def cfgB (c0 c1 c2 c3 c4 c5 c6 c7 c8 c9 : Int) : Bool :=
  inB c0 1 4 && inB c5 1 8 && inB c6 1 8 && inB c7 8 250 && inB c8 1 600 && inB c9 1 9 && inB c1 1 4 && (decide (c0 < 2) || inB c2 1 4) && (decide (c0 < 3) || inB c3 1 4) && (decide (c0 < 4) || inB c4 1 4)
def mkCfg (c0 c1 c2 c3 c4 c5 c6 c7 c8 c9 : Int) : Cfg := ⟨c0.toNat, c1, c2, c3, c4, c5.toNat, c6.toNat, c7.toNat, c8.toNat, c9.toNat⟩
theorem inB_iff {n lo hi : Int} : inB n lo hi = true ↔ lo ≤ n ∧ n ≤ hi := by
  unfold inB
  rw [Bool.and_eq_true, decide_eq_true_eq, decide_eq_true_eq]
theorem cfg_ok {c0 c1 c2 c3 c4 c5 c6 c7 c8 c9 : Int} (h : cfgB c0 c1 c2 c3 c4 c5 c6 c7 c8 c9 = true) : (mkCfg c0 c1 c2 c3 c4 c5 c6 c7 c8 c9).Ok ∧
    #[Value.int .i64 c0, .int .i64 c1, .int .i64 c2, .int .i64 c3, .int .i64 c4, .int .i64 c5, .int .i64 c6, .int .i64 c7, .int .i64 c8, .int .i64 c9] = cfgCells (mkCfg c0 c1 c2 c3 c4 c5 c6 c7 c8 c9) := by
  unfold cfgB at h
  simp only [Bool.and_eq_true, Bool.or_eq_true, decide_eq_true_eq, inB_iff] at h
  obtain ⟨⟨⟨⟨⟨⟨⟨⟨⟨h0, h5⟩, h6⟩, h7⟩, h8⟩, h9⟩, h1⟩, h2⟩, h3⟩, h4⟩ := h
  constructor
  · refine ⟨?_, ?_, ?_, ?_, ?_, ?_, ?_, ?_, ?_, ?_, ?_, ?_, ?_⟩
    all_goals simp only [mkCfg]
    · omega
    · omega
    · intro i hi
      unfold Cfg.weight
      simp only
      have : i = 0 ∨ i = 1 ∨ i = 2 ∨ i = 3 := by omega
      rcases this with rfl | rfl | rfl | rfl
      all_goals simp only
      all_goals omega
    all_goals omega
  · unfold cfgCells mkCfg
    simp only
    rw [Int.toNat_of_nonneg (by omega), Int.toNat_of_nonneg (by omega), Int.toNat_of_nonneg (by omega), Int.toNat_of_nonneg (by omega), Int.toNat_of_nonneg (by omega), Int.toNat_of_nonneg (by omega)]
theorem weight_ok {c : Cfg} (h : c.Ok) {i : Nat} (hi : i < c.n) : inB (c.raw i) 1 4 = true := by
  have := h.w i hi
  rw [inB_iff]
  have e : c.weight i = (c.raw i).toNat := rfl
  omega
theorem rnew_yes (c : Cfg) (hc : c.Ok) (w : World) : Calls Try.prog 44 #[.agg (cfgCells c)] w fun e w' => ∃ g, e = .returned (.tuple #[ptrV g, .int .i64 0]) ∧ REnd w' (fun k => w.heap.size ≤ k) g (Mod.fresh c) ∧ Below w.heap.size w w' :=
  (rnew_part c ⟨hc.n1, hc.n4, hc.q1, hc.q8, hc.c1, hc.c8, hc.win8, hc.win250, hc.qu1, hc.qu600, hc.p1, hc.p9⟩ w).mono (by
    rintro e w' ⟨hb, ⟨_, g, rfl, hg⟩ | ⟨⟨i, hi, hf⟩, _⟩⟩
    · exact ⟨g, rfl, hg, hb⟩
    · rw [weight_ok hc hi] at hf
      cases hf)
theorem rnew_none (c0 c1 c2 c3 c4 c5 c6 c7 c8 c9 : Int) (h : cfgB c0 c1 c2 c3 c4 c5 c6 c7 c8 c9 = false) (w : World) : Calls Try.prog 44 #[.agg #[.int .i64 c0, .int .i64 c1, .int .i64 c2, .int .i64 c3, .int .i64 c4, .int .i64 c5, .int .i64 c6, .int .i64 c7, .int .i64 c8, .int .i64 c9]] w fun e w' =>
    e = .returned (.tuple #[.pointer none, .int .i64 1]) ∧ Below w.heap.size w w' := by
  cases hh : (inB c0 1 4 && inB c5 1 8 && inB c6 1 8 && inB c7 8 250 && inB c8 1 600 && inB c9 1 9)
  · exact rnew_no c0 c1 c2 c3 c4 c5 c6 c7 c8 c9 w hh
  · have hh2 := hh
    simp only [Bool.and_eq_true, inB_iff] at hh2
    obtain ⟨⟨⟨⟨⟨h0, h5⟩, h6⟩, h7⟩, h8⟩, h9⟩ := hh2
    have hcells : #[Value.int .i64 c0, .int .i64 c1, .int .i64 c2, .int .i64 c3, .int .i64 c4, .int .i64 c5, .int .i64 c6, .int .i64 c7, .int .i64 c8, .int .i64 c9] = cfgCells (mkCfg c0 c1 c2 c3 c4 c5 c6 c7 c8 c9) := by
      unfold cfgCells mkCfg
      simp only
      rw [Int.toNat_of_nonneg (by omega), Int.toNat_of_nonneg (by omega), Int.toNat_of_nonneg (by omega), Int.toNat_of_nonneg (by omega), Int.toNat_of_nonneg (by omega), Int.toNat_of_nonneg (by omega)]
    rw [hcells]
    refine (rnew_part (mkCfg c0 c1 c2 c3 c4 c5 c6 c7 c8 c9) ?_ w).mono ?_
    · refine ⟨?_, ?_, ?_, ?_, ?_, ?_, ?_, ?_, ?_, ?_, ?_, ?_⟩
      all_goals simp only [mkCfg]
      all_goals omega
    · rintro e w' ⟨hb, ⟨hall, _⟩ | ⟨_, rfl⟩⟩
      · exfalso
        have : cfgB c0 c1 c2 c3 c4 c5 c6 c7 c8 c9 = true := by
          unfold cfgB
          rw [hh]
          have g1 := hall 0 (by simp only [mkCfg]; omega)
          have e1 : (mkCfg c0 c1 c2 c3 c4 c5 c6 c7 c8 c9).raw 0 = c1 := rfl
          have e2 : (mkCfg c0 c1 c2 c3 c4 c5 c6 c7 c8 c9).raw 1 = c2 := rfl
          have e3 : (mkCfg c0 c1 c2 c3 c4 c5 c6 c7 c8 c9).raw 2 = c3 := rfl
          have e4 : (mkCfg c0 c1 c2 c3 c4 c5 c6 c7 c8 c9).raw 3 = c4 := rfl
          rw [e1] at g1
          rw [g1]
          simp only [Bool.true_and, Bool.and_eq_true, Bool.or_eq_true, decide_eq_true_eq]
          refine ⟨⟨?_, ?_⟩, ?_⟩
          · rcases Int.lt_or_le c0 2 with x | x
            · exact .inl x
            · exact .inr (by rw [← e2]; exact hall 1 (by simp only [mkCfg]; omega))
          · rcases Int.lt_or_le c0 3 with x | x
            · exact .inl x
            · exact .inr (by rw [← e3]; exact hall 2 (by simp only [mkCfg]; omega))
          · rcases Int.lt_or_le c0 4 with x | x
            · exact .inl x
            · exact .inr (by rw [← e4]; exact hall 3 (by simp only [mkCfg]; omega))
        rw [this] at h
        cases h
      · exact ⟨rfl, hb⟩
theorem valid_cfgB (c0 c1 c2 c3 c4 c5 c6 c7 c8 c9 : Int) : (Raw.mk c0 c1 c2 c3 c4 c5 c6 c7 c8 c9).valid = cfgB c0 c1 c2 c3 c4 c5 c6 c7 c8 c9 := by
  cases h0 : inB c0 1 4
  · unfold Raw.valid cfgB
    simp only [h0]
    simp
  · obtain ⟨hx, hy⟩ := inB_iff.1 h0
    have : c0 = 1 ∨ c0 = 2 ∨ c0 = 3 ∨ c0 = 4 := by omega
    have e0 : ∀ k : Nat, (Raw.mk c0 c1 c2 c3 c4 c5 c6 c7 c8 c9).w k = match k with | 0 => c1 | 1 => c2 | 2 => c3 | _ => c4 := fun _ => rfl
    rcases this with rfl | rfl | rfl | rfl
    all_goals unfold Raw.valid cfgB Raw.weighted
    all_goals simp only [h0]
    all_goals simp [List.range_succ, Raw.w]
    all_goals rw [Bool.eq_iff_iff]
    all_goals simp only [Bool.and_eq_true]
    all_goals constructor
    all_goals intro h
    all_goals simp_all
theorem pnew_none (c0 c1 c2 c3 c4 c5 c6 c7 c8 c9 : Int) (h : cfgB c0 c1 c2 c3 c4 c5 c6 c7 c8 c9 = false) (w : World) : Calls Try.prog 18 #[.agg #[.int .i64 c0, .int .i64 c1, .int .i64 c2, .int .i64 c3, .int .i64 c4, .int .i64 c5, .int .i64 c6, .int .i64 c7, .int .i64 c8, .int .i64 c9]] w fun e w' =>
    e = .returned (.tuple #[.pointer none, .int .i64 1]) ∧ Below w.heap.size w w' := pnew_no ⟨c0, c1, c2, c3, c4, c5, c6, c7, c8, c9⟩ (by rw [valid_cfgB]; exact h) w
end Go.Proofs.Ytnclmbolfpojoaa
