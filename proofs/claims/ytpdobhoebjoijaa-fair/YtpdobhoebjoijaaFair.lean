/-
  The statement Fair holds for every input: of two streams that both have something to send and credit all the time, the bytes of each by its weight differ, in any stretch of what is written, by at most 2 Quantum + 2 Chunk. No condition.
-/
import Derived.Test.YtpdobhoebjoijaaRows
import Derived.Test.YtpdobhoebjoijaaFairC
import Derived.Test.YtpdobhoebjoijaaFairW
import Derived.ProofKit
import Derived.OpenShut
import Derived.ChangeOld
import Derived.Below
namespace Go.Proofs.Ytpdobhoebjoijaa
open Go.ChangeShapes Go.WideShapes Go.ChangeAt Go.RowKit
set_option linter.unusedVariables false
theorem fhead_of {l : List Value} {o m : Nat} {v : Value} (h : (l.drop o).take m = [v]) : l[o]? = some v := by
  have h1 : ((l.drop o).take m)[0]? = some v := by rw [h]; rfl
  rw [List.getElem?_take] at h1
  split at h1
  · rw [List.getElem?_drop] at h1
    simpa using h1
  · cases h1
theorem fhead_in {l : List Value} {o m j : Nat} {v : Value} (h : ((l.drop o).take m)[j]? = some v) : l[o + j]? = some v := by
  rw [List.getElem?_take] at h
  split at h
  · rw [List.getElem?_drop] at h
    exact h
  · cases h
/-- the numbers of a Set -/
theorem set_trod {H : Type} {enc : TypeId × Value → H} {w : World} {spare : Nat → Bool} {held : Bool} {fuel : Nat} {cs : List Value} {y : DataW H × List MemPlace} (ht : DataW.trod enc Try.prog w 0 spare held fuel 38 cs = some y) :
    ∃ c0 c1 c2 c3 c4 c5 c6 c7 c8 c9 : Int, cs.length = 10 ∧ (cs[0]? = some (.int .i64 c0) ∧ cs[1]? = some (.int .i64 c1) ∧ cs[2]? = some (.int .i64 c2) ∧ cs[3]? = some (.int .i64 c3) ∧ cs[4]? = some (.int .i64 c4) ∧
      cs[5]? = some (.int .i64 c5) ∧ cs[6]? = some (.int .i64 c6) ∧ cs[7]? = some (.int .i64 c7) ∧ cs[8]? = some (.int .i64 c8) ∧ cs[9]? = some (.int .i64 c9)) ∧
      (In64 c0 ∧ In64 c1 ∧ In64 c2 ∧ In64 c3 ∧ In64 c4 ∧ In64 c5 ∧ In64 c6 ∧ In64 c7 ∧ In64 c8 ∧ In64 c9) := by
  obtain ⟨xs, n, _, _, hlen, hxl, hf⟩ := DataW.trod_struct Try.underlying38 ht
  have hsome : ∀ i, i < 7 → ∃ z, xs[i]? = some z := fun i hi => ⟨xs[i]'(by rw [hxl]; exact hi), List.getElem?_eq_getElem _⟩
  have hint : ∀ {fu : Nat} {l : List Value} {x : DataW H × List MemPlace}, DataW.trod enc Try.prog w 0 spare held fu 3 l = some x → ∃ c, l = [.int .i64 c] ∧ In64 c := by
    intro fu l x hx
    obtain ⟨c, h1, _, h3⟩ := DataW.trod_int Try.underlying3 hx
    exact ⟨c, h1, bounds_i64 h3⟩
  obtain ⟨z0, e0⟩ := hsome 0 (by omega)
  have h0 := hf 0 _ rfl
  rw [e0] at h0
  obtain ⟨c0, g0, i0⟩ := hint h0
  obtain ⟨z1, e1⟩ := hsome 1 (by omega)
  have h1 := hf 1 _ rfl
  rw [e1] at h1
  obtain ⟨c1, g1, i1⟩ := hint h1
  obtain ⟨z2, e2⟩ := hsome 2 (by omega)
  have h2 := hf 2 _ rfl
  rw [e2] at h2
  obtain ⟨c2, g2, i2⟩ := hint h2
  obtain ⟨z3, e3⟩ := hsome 3 (by omega)
  have h3 := hf 3 _ rfl
  rw [e3] at h3
  obtain ⟨c3, g3, i3⟩ := hint h3
  obtain ⟨z4, e4⟩ := hsome 4 (by omega)
  have h4 := hf 4 _ rfl
  rw [e4] at h4
  obtain ⟨c4, g4, i4⟩ := hint h4
  obtain ⟨z5, e5⟩ := hsome 5 (by omega)
  have h5 := hf 5 _ rfl
  rw [e5] at h5
  obtain ⟨c5, g5, i5⟩ := hint h5
  obtain ⟨z6, e6⟩ := hsome 6 (by omega)
  have h6 := hf 6 _ rfl
  rw [e6] at h6
  obtain ⟨ys, m, _, _, _, hyl, hg⟩ := DataW.trod_array Try.underlying36 h6
  have hsome2 : ∀ i, i < 4 → ∃ z, ys[i]? = some z := fun i hi => ⟨ys[i]'(by rw [hyl]; exact hi), List.getElem?_eq_getElem _⟩
  have hone : Try.prog.cellsOf 3 = 1 := by kernel_rfl
  have hw : ∀ i, i < 4 → ∃ c, cs[6 + i]? = some (.int .i64 c) ∧ In64 c := by
    intro i hi
    obtain ⟨v, u⟩ := hsome2 i hi
    have q := hg i hi
    rw [u, hone, Nat.mul_one] at q
    obtain ⟨c, r, ic⟩ := hint q
    exact ⟨c, fhead_in (fhead_of r), ic⟩
  obtain ⟨c6, k6, i6⟩ := hw 0 (by omega)
  obtain ⟨c7, k7, i7⟩ := hw 1 (by omega)
  obtain ⟨c8, k8, i8⟩ := hw 2 (by omega)
  obtain ⟨c9, k9, i9⟩ := hw 3 (by omega)
  have hl : cs.length = 10 := by rw [hlen]; kernel_rfl
  exact ⟨c0, c1, c2, c3, c4, c5, c6, c7, c8, c9, hl, ⟨fhead_of g0, fhead_of g1, fhead_of g2, fhead_of g3, fhead_of g4, fhead_of g5, k6, k7, k8, k9⟩, i0, i1, i2, i3, i4, i5, i6, i7, i8, i9⟩
theorem ten_of {cs : List Value} {v0 v1 v2 v3 v4 v5 v6 v7 v8 v9 : Value} (hl : cs.length = 10) (h : cs[0]? = some v0 ∧ cs[1]? = some v1 ∧ cs[2]? = some v2 ∧ cs[3]? = some v3 ∧ cs[4]? = some v4 ∧ cs[5]? = some v5 ∧ cs[6]? = some v6 ∧ cs[7]? = some v7 ∧ cs[8]? = some v8 ∧ cs[9]? = some v9) :
    cs = [v0, v1, v2, v3, v4, v5, v6, v7, v8, v9] := by
  match cs, hl with
  | [a0, a1, a2, a3, a4, a5, a6, a7, a8, a9], _ =>
    simp at h
    obtain ⟨rfl, rfl, rfl, rfl, rfl, rfl, rfl, rfl, rfl, rfl⟩ := h
    rfl
theorem fair_own : ownKnob Try.prog.godebug = none := by kernel_rfl
theorem fair_laidOut : laidOutB Try.prog = true := by kernel_rfl
set_option maxRecDepth 100000 in
theorem fair_lifted (os : Os) (started : os.Started) (H : Type) (enc : TypeId × Value → H) :
    ReturnsInHanded {} Try.checked os 5 .any (Rows.fairSpec.pre6 enc Try.prog Try.f5 Rows.fairRow.domain false) (Rows.fairSpec.post enc Try.prog Try.f5 false true false false) := by
  refine returnsInHanded_of_change (C := Try.checked) fair_own started (by kernel_rfl) Try.func5
    (ChangeSpec.witness6 (enc := enc) (C := Try.checked) false ⟨#[], #[.agg #[.int .i64 0, .int .i64 0, .int .i64 0, .int .i64 0, .int .i64 0, .int .i64 0, .int .i64 0, .int .i64 0, .int .i64 0, .int .i64 0], .int .i64 0, .int .i64 0], []⟩ 8 (by kernel_rfl) (by kernel_rfl) (by kernel_rfl) (by kernel_rfl)) ?_
  intro W base args ds gs before hval0 hW hcnd _
  have hval : ∀ (j : Nat) t v, Try.f5.params[j]? = some t → args[j]? = some v → Value.okWide Try.prog W .any base t v := hval0
  have hW' := hW
  obtain ⟨p, q, hA0, hV, rfl, hfz, hnd⟩ := hW
  have hA : DataW.TrodAll enc Try.prog W 0 (fun _ => true) true Try.f5.params.toList args.toList ds p := hA0
  rw [Try.params5] at hA hval
  obtain ⟨v0, vs0, d0, ds0, p0, q0, hargs, rfl, rfl, h0, r0⟩ := trodAll_cons hA
  obtain ⟨v1, vs1, d1, ds1, p1, q1, rfl, rfl, rfl, h1, r1⟩ := trodAll_cons r0
  obtain ⟨v2, vs2, d2, ds2, p2, q2, rfl, rfl, rfl, h2, r2⟩ := trodAll_cons r1
  obtain ⟨rfl, rfl, rfl⟩ := trodAll_nil r2
  obtain rfl : args = #[v0, v1, v2] := by cases args; simp_all
  obtain ⟨rfl, rfl⟩ := trodVars_none hV
  obtain ⟨cs, rfl, hcs⟩ := okWide_struct Try.underlying38 (hval 0 38 v0 rfl rfl)
  have k0 := h0
  have lt0 : ∀ x ∈ p0, x.block < W.heap.size := by obtain ⟨m, hm⟩ := k0; exact DataW.trod_lt m _ _ _ hm
  obtain ⟨a1, rfl, rfl, rfl, w1⟩ := open_int Try.underlying3 (hval 1 3 v1 rfl rfl) h1
  obtain ⟨a2, rfl, rfl, rfl, w2⟩ := open_int Try.underlying3 (hval 2 3 v2 rfl rfl) h2
  clear hA0 hval0
  obtain ⟨fuel, hf⟩ := h0
  obtain ⟨c0, c1, c2, c3, c4, c5, c6, c7, c8, c9, hl, hk, i0, i1, i2, i3, i4, i5, i6, i7, i8, i9⟩ := set_trod hf
  have hten : cs = #[.int .i64 c0, .int .i64 c1, .int .i64 c2, .int .i64 c3, .int .i64 c4, .int .i64 c5, .int .i64 c6, .int .i64 c7, .int .i64 c8, .int .i64 c9] := by
    have := ten_of hl hk
    cases cs
    simpa [Value.cells] using this
  obtain ⟨c, hok, hw, hcfg⟩ := config_calls c0 c1 c2 c3 c4 c5 c6 c7 c8 c9 i0 i1 i2 i3 i4 i5 i6 i7 i8 i9
  obtain ⟨x, hx, px⟩ := pick_nat a1 15 (bounds_i64 w1).1 (bounds_i64 w1).2 (by omega) (by omega)
  obtain ⟨z, hz, pz⟩ := pick_nat a2 15 (bounds_i64 w2).1 (bounds_i64 w2).2 (by omega) (by omega)
  have hwalk := fair_walk c0 c1 c2 c3 c4 c5 c6 c7 c8 c9 a1 a2 c hok hw x z hx hz hcfg px pz W
  rw [← hten] at hwalk
  refine hwalk.mono fun e W' ⟨he, bel⟩ => ?_
  subst he
  exact ⟨_, rfl, _, _, _, [], _, [], hW', trodAll_mk1 (shut_bool Try.underlying4 _), (trodAll_cons_mk (Below.trod fair_laidOut (by kernel_rfl) (of_decide_eq_true (by kernel_rfl)) k0 bel lt0) (trodAll_cons_mk (shut_int Try.underlying3 w1) (trodAll_cons_mk (shut_int Try.underlying3 w2) trodAll_mk0))), rfl, bel.frame _, fun h => by cases h⟩

theorem fair_over : Rows.fairRow.holds Try.pinned (OpenSpec.ofChange Rows.fairSpec) :=
  OpenClaim.holds_of_wide 5 Try.f5 rfl rfl rfl rfl rfl rfl rfl ⟨rfl, rfl, rfl, rfl, rfl⟩ rfl rfl rfl rfl rfl (by kernel_rfl) Try.func5 (by kernel_rfl)
    (of_decide_eq_true (by kernel_rfl)) (by unfold Func.isWrapper; first | (rw [if_pos (by decide +kernel)]; kernel_rfl) | (rw [if_neg (by decide +kernel)]; exact ⟨rfl, rfl⟩))
    (fun os started H enc _ => fair_lifted os started H enc)

/-- the statement -/
theorem fair_holds : Rows.FairSaid := fair_over
#print axioms fair_holds
end Go.Proofs.Ytpdobhoebjoijaa
