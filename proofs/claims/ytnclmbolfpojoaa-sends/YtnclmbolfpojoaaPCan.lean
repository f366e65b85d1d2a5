/-
  The program's Cancel, State, Flow (at 11fde81).
-/
import Derived.Test.YtnclmbolfpojoaaPSub
namespace Go.Proofs.Ytnclmbolfpojoaa
open Go.RowKit
set_option maxHeartbeats 1000000 in
set_option maxRecDepth 100000 in
/-- CloseSending -/
theorem pclose_calls {w : World} {F G : Nat → Prop} {b : Nat} {s : Stm} (h : PStm w F G b s) : Calls Try.prog 92 #[ptrV b] w fun e w' => StmPost w F G b s.silent (.tuple #[]) e w' := by
  obtain ⟨vq, vw, ws, co, h⟩ := h
  have H := hid h
  have c2 := (ps_cells h.obj).2.2.1
  have c3 := (ps_cells h.obj).2.2.2.1
  have c5 := (ps_cells h.obj).2.2.2.2.2.1
  have hz := unfrozen h.obj
  obtain ⟨a, c, rfl⟩ := h.rowQ.slice
  clear h
  unfold ptrV
  go_enter Try.func92, Try.ntmps92
  go_wp2
  go_end0
  have hcs : Chg (fun k => k = b) w (((w.setCell ⟨b, 5, none⟩ (.slice none 0 0)).setCell ⟨b, 3, none⟩ (.bool true)).setCell ⟨b, 2, none⟩ (.int .i64 0)) := ((Chg.setCell (F := fun k => k = b) w ⟨b, 5, none⟩ _ rfl).trans' (Chg.setCell _ ⟨b, 3, none⟩ _ rfl)).trans' (Chg.setCell _ ⟨b, 2, none⟩ _ rfl)
  refine ⟨rfl, ⟨.slice none 0 0, vw, ws, co, H.out.own, ?_, QRow.nil _ _ _, row_stm H.out.rowW H.out.obj hcs, H.out.came⟩, hcs.mono (by rintro k _ rfl; exact H.out.own)⟩
  simp [World.setCell, Array.getElem?_modify, H.out.obj, psCells, Stm.silent]
set_option maxHeartbeats 1000000 in
set_option maxRecDepth 100000 in
/-- Add of the outbox -/
theorem poadd_calls {w : World} {F : Nat → Prop} {g : Nat} {m : Mod} {lab : Nat → Nat} {gm : Nat} {vW vC : Value} {bs : List Nat} (h : PEndWith w F g m lab gm vW vC bs) (x : ByteArray) (hl : m.control.length ≤ 5000000000000) :
    Calls Try.prog 93 #[.pointer (some ⟨g, 13, none⟩), .string x] w fun e w' => e = .returned (.tuple #[]) ∧ PEnd w' (Up F w.heap.size) g (m.put x) ∧ Chg F w w' := by
  have H := hid h
  have c14 := (pe_cells h.obj).2.2.2.2.2.2.2.2.2.2.2.2.2.2.1
  have hg := heap_some h.obj
  obtain ⟨i0, hi, hz0⟩ := Option.map_eq_some_iff.1 info_str
  simp only [Prod.mk.injEq] at hz0
  obtain ⟨a, c, rfl⟩ := h.rowW.slice
  rw [List.length_map] at c14 H
  clear h
  go_enter Try.func93, Try.ntmps93
  go_wp2_with (at_builtin; refine wpList_append_r _ rfl _ _ 27 rfl (Lab F lab 1) 9 i0 (.string ⟨#[]⟩) 16 Try.underlying27 hi hz0.1 hz0.2.1 hz0.2.2 rfl _ _ rfl (H.out.rowW.alloc _) ⟨w.heap.size, 0, none⟩ 1 (.string x) rfl (cell_one _ _ _) rfl ?c3 ?c4 ?_)
  case c3 => rw [List.length_map]; unfold maxLen; omega
  case c4 => rw [List.length_map]; omega
  intro v' w1 hq1 hc1
  have hob1 : w1.heap[g]? = some (.cells (peCells m (.map (some gm)) (.slice a m.control.length c) vC) 72 (0, 0)) := hc1.rowKind ((Below.heap_alloc w _ g hg).trans H.out.obj) (by decide)
  have hz1 := unfrozen hob1
  have hlt1 := heap_some hob1
  have c14' := (pe_cells hob1).2.2.2.2.2.2.2.2.2.2.2.2.2.2.1
  obtain ⟨a1, c1', rfl⟩ := hq1.slice
  rw [List.length_append, List.length_map, List.length_singleton] at hq1
  have HQ1 := hid hq1
  have HC1 := hid hc1
  have HOB1 := hid hob1
  clear hq1 hc1 hob1 c14
  go_wp2
  go_end0
  have hcs : ∀ v, Chg (fun k => k = g) w1 (w1.setCell ⟨g, 14, none⟩ v) := fun v => Chg.setCell w1 ⟨g, 14, none⟩ v rfl
  have hch0 : Chg (Lab F lab 1) w w1 := (Chg.alloc w _).trans' (HC1.out.mono (fun k _ e => e.1))
  have hch : Chg (fun k => k = g ∨ Lab F lab 1 k) w (w1.setCell ⟨g, 14, none⟩ (.slice a1 (m.control.length + 1) c1')) := (hch0.mono (fun _ _ e => .inr e)).trans' ((hcs _).mono (fun _ _ e => .inl e))
  have h1 := (H.out.relab 1).setCtl (v' := .slice a1 (m.control.length + 1) c1') (m.put x) (hch.mono (fun k hk e => e.elim .inl (fun e => .inr (lab_old hk e)))) (by simp [World.setCell, Array.getElem?_modify, HOB1.out, peCells, Mod.put])
    (by
      have hq2 := row_end HQ1.out HOB1.out (by decide) (hcs (.slice a1 (m.control.length + 1) c1'))
      rw [show (m.put x).control.map Value.string = m.control.map Value.string ++ [Value.string x] by simp [Mod.put]]
      exact hq2.mono (fun k _ e => lab_new (e.elim .inl (fun e => .inr (Nat.le_trans (by simp) e))))) rfl rfl rfl rfl
  exact ⟨rfl, ⟨_, _, _, _, _, h1⟩, hch.mono (fun k _ e => e.elim (fun e => e ▸ H.out.own.1) (fun e => e.1))⟩
set_option maxHeartbeats 2000000 in
set_option maxRecDepth 100000 in
/-- Cancel -/
theorem pcancel' {w : World} {F : Nat → Prop} {g : Nat} {m : Mod} (h : PEnd w F g m) (hi : m.Inv) (hF : ∀ k, F k → k < w.heap.size) (hc : m.control.length ≤ 5000000000000) (i : Int) :
    Calls Try.prog 64 #[ptrV g, .int .i64 i] w fun e w' => ErrPost w F g (m.cancel i) (m.cancelE i) e w' := by
  obtain ⟨lab, gm, vW, vC, bs, h⟩ := h
  have H := hid h
  have HF := hid hF
  have HERR : Hid (∀ e, m.cancelE i = e → e ≠ 0 → ErrPost w F g (m.cancel i) (m.cancelE i) (.returned (.int .i64 e)) w) := by
    rintro e rfl he
    have hM : m.cancel i = m := by unfold Mod.cancel; rw [if_neg he]
    rw [hM]
    exact ⟨rfl, PEnd.mono ⟨_, _, _, _, _, h⟩ (fun _ _ e => Or.inl e), Chg.refl _ _⟩
  by_cases hd : m.died = 0
  · by_cases his : 0 ≤ i ∧ i < bs.length
    · obtain ⟨j, rfl⟩ : ∃ j : Nat, i = j := ⟨i.toNat, by omega⟩
      have hj : j < bs.length := by omega
      have hjs : j < m.ss.length := by rw [← h.len]; exact hj
      have hj4 : j < 4 := by have := hi.c.n4; rw [← hi.len] at this; omega
      have hism : m.is j = true := by unfold Mod.is; rw [← h.len]; simp; omega
      have HLV := hid (pliving_ok h hd j hj)
      have hs := h.stmAt hd hjs
      obtain ⟨b, hb⟩ : ∃ b, bs.getD j 0 = b := ⟨_, rfl⟩
      rw [hb] at HLV hs
      have HB := hid hb
      have HCL := hid (pclose_calls hs)
      obtain ⟨vq, vw, ws, co, hs⟩ := hs
      have s3 := (ps_cells hs.obj).2.2.2.1
      have HMK := hid (fun W => pmake_calls 3 j ⟨#[]⟩ W (by omega) (by omega) (show 0 < 256 by omega))
      clear h hi hF his hb hs
      unfold ptrV at HLV HCL ⊢
      cases hns : (m.at j).noSend
      · rw [hns] at s3
        have HE : Hid (m.cancelE j = 0) := by show _ = _; unfold Mod.cancelE; rw [if_neg (by simpa using hd), if_neg (by simpa using hism), Int.toNat_natCast, if_neg (by simp [hns])]
        go_enter Try.func64, Try.ntmps64
        go_wp2_with fail
        refine HLV.out.mono ?_
        rintro e w0 ⟨rfl, hw⟩
        replace hw := hw.symm
        subst hw
        go_wp2_with fail
        refine HCL.out.mono ?_
        rintro e w1 ⟨rfl, hp1, hc1⟩
        have h1 := H.out.setStm j hj _ hd hc1 (by rw [HB.out]; exact hp1) (fun _ => rfl)
        have H1 := hid h1
        have HC1 := hid hc1
        have HAD : Hid (∀ W, Below w1.heap.size w1 W → Calls Try.prog 93 #[.pointer (some ⟨g, 13, none⟩), .string (frameB 3 j ⟨#[]⟩)] W fun e w' => e = .returned (.tuple #[]) ∧ PEnd w' (Up F W.heap.size) g ((m.upd j (m.at j).silent).put (frameB 3 j ⟨#[]⟩)) ∧ Chg F W w') := fun W hW => poadd_calls (H1.out.below hW) (frameB 3 j ⟨#[]⟩) hc
        clear h1 hp1 hc1 s3
        go_wp2
        go_region_held3 (fun _ => True)
          (trivial)
          (first
            | (go_at_call 54
               refine (HMK.out _).mono ?_
               rintro e w2 ⟨rfl, hb2⟩)
            | (go_at_call 93
               refine (HAD.out _ ((Below.refl _ w1).drew.trans hb2)).mono ?_
               rintro e w3 ⟨rfl, hp3, hc3⟩))
        have HP3 := hid hp3
        have HC3 := hid hc3
        have HB2 := hid hb2
        clear hp3 hc3 hb2
        go_wp2_with fail
        go_ret
        have hM : m.cancel j = (m.upd j (m.at j).silent).put (frameB 3 j ⟨#[]⟩) := by unfold Mod.cancel; rw [HE.out, if_pos rfl]; rfl
        rw [HE.out, hM]
        have hsz : w.heap.size ≤ w2.heap.size := Nat.le_trans HC1.out.size HB2.out.size
        exact ⟨rfl, HP3.out.mono (fun k _ e => e.elim Or.inl (fun e => Or.inr (Nat.le_trans hsz e))), (HC1.out.mono (fun _ _ e => e.1)).trans (((Chg.of_below ((Below.refl _ w1).drew.trans HB2.out)).trans' HC3.out).mono (fun _ _ e => Or.inl e))⟩
      · rw [hns] at s3
        go_enter Try.func64, Try.ntmps64
        go_wp2_with fail
        refine HLV.out.mono ?_
        rintro e w0 ⟨rfl, hw⟩
        replace hw := hw.symm
        subst hw
        go_wp2_with fail
        go_ret
        exact HERR.out 5 (by unfold Mod.cancelE; rw [if_neg (by simpa using hd), if_neg (by simpa using hism), Int.toNat_natCast, if_pos hns]) (by decide)
    · have HLV := hid (pliving_no h hd i his)
      have hism : m.is i = false := by
        unfold Mod.is
        rw [← h.len, Bool.and_eq_false_iff, decide_eq_false_iff_not, decide_eq_false_iff_not]
        omega
      clear h hi hF
      unfold ptrV at HLV ⊢
      go_enter Try.func64, Try.ntmps64
      go_wp2_with fail
      refine HLV.out.mono ?_
      rintro e w0 ⟨rfl, hw⟩
      replace hw := hw.symm
      subst hw
      go_wp2_with fail
      go_ret
      exact HERR.out 2 (by unfold Mod.cancelE; rw [if_neg (by simpa using hd), if_pos hism]) (by decide)
  · have HLV := hid (pliving_dead h hd i)
    clear h hi hF
    unfold ptrV at HLV ⊢
    go_enter Try.func64, Try.ntmps64
    go_wp2_with fail
    refine HLV.out.mono ?_
    rintro e w0 ⟨rfl, hw⟩
    replace hw := hw.symm
    subst hw
    go_wp2_with fail
    go_ret
    exact HERR.out 7 (by unfold Mod.cancelE; rw [if_pos hd]) (by decide)
theorem pcancel_calls {w : World} {F : Nat → Prop} {g : Nat} {m : Mod} (h : PEnd w F g m) (hi : m.Inv) (hc : m.control.length ≤ 5000000000000) (i : Int) :
    Calls Try.prog 64 #[ptrV g, .int .i64 i] w fun e w' => ErrPost w F g (m.cancel i) (m.cancelE i) e w' := by
  refine (pcancel' h.old hi (fun k hk => hk.2) hc i).mono ?_
  rintro e w' ⟨rfl, hp, hc⟩
  exact ⟨rfl, hp.mono (fun _ _ e => e.elim (fun e => Or.inl e.1) Or.inr), hc.mono (fun _ _ e => e.1)⟩
set_option maxHeartbeats 2000000 in
set_option maxRecDepth 100000 in
/-- State, of an end that holds nothing -/
theorem pstate_calls {w : World} {F : Nat → Prop} {g : Nat} {m : Mod} (h : PEnd w F g m) (hi : m.Inv) (hl : m.died = 0) :
    Calls Try.prog 67 #[ptrV g] w fun e w' => e = .returned (.agg #[.int .i64 m.queued, .int .i64 0, .int .i64 0]) ∧ Below w.heap.size w w' := by
  have HE := hid h
  have hq6 : m.queued ≤ 600 := by have := hi.q; have := hi.c.qu600; omega
  obtain ⟨lab, gm, vW, vC, bs, h⟩ := h
  have c15 := (pe_cells h.obj).2.2.2.2.2.2.2.2.2.2.2.2.2.2.2.2
  rw [hl] at c15
  have hg := heap_some h.obj
  obtain ⟨W, hW⟩ : ∃ W, w.alloc (.cells #[.int .i64 0, .int .i64 0, .int .i64 0] 123) = W := ⟨_, rfl⟩
  have hbW : Below w.heap.size w W := by rw [← hW]; exact below_alloc1 w _
  have hoW : W.heap[w.heap.size]? = some (.cells #[.int .i64 0, .int .i64 0, .int .i64 0] 123 (0, 0)) := by rw [← hW]; exact heap_alloc_new w _
  have HEW : Hid (PEnd W.drew F g m) := (HE.out.keeps (G := fun _ => False) (.of_below hbW) (fun _ _ => id)).keeps (G := fun _ => False) ((Chg.refl _ W).drew) (fun _ _ => id)
  have HQ := hid (pqueued_calls HEW.out hi hl)
  have d15 : W.cell? ⟨g, 15, none⟩ = some (.int .i64 0) := (hbW.cell (p := ⟨g, 15, none⟩) hg).trans c15
  have z0 : W.cell? ⟨w.heap.size, 0, none⟩ = some (.int .i64 0) := Lib.cell_of_heap hoW 0
  have z1 : W.cell? ⟨w.heap.size, 1, none⟩ = some (.int .i64 0) := Lib.cell_of_heap hoW 1
  have z2 : W.cell? ⟨w.heap.size, 2, none⟩ = some (.int .i64 0) := Lib.cell_of_heap hoW 2
  have zf := unfrozen hoW
  have HBW := hid hbW
  have HOW := hid hoW
  have hlt := heap_some hoW
  have hgW : g < W.heap.size := Nat.lt_of_lt_of_le hg hbW.size
  generalize m.queued = q at *
  clear h hi hl hbW hoW c15
  unfold ptrV at HQ ⊢
  go_enter Try.func67, Try.ntmps67
  go_wp2
  try rw [hW]
  go_region_held3 (fun w' => w'.cell? ⟨g, 15, none⟩ = some (.int .i64 0))
    (first
      | (go_keep; done)
      | exact y15
      | exact y15s _ _ _)
    (first
      | (go_at_call 49
         refine HQ.out.mono ?_
         rintro e w2 ⟨rfl, hb2⟩
         have y15 : w2.cell? ⟨g, 15, none⟩ = some (.int .i64 0) := (hb2.cell (p := ⟨g, 15, none⟩) hgW).trans d15
         have y0 : w2.cell? ⟨w.heap.size, 0, none⟩ = some (.int .i64 0) := (hb2.cell (p := ⟨w.heap.size, 0, none⟩) hlt).trans z0
         have y1 : w2.cell? ⟨w.heap.size, 1, none⟩ = some (.int .i64 0) := (hb2.cell (p := ⟨w.heap.size, 1, none⟩) hlt).trans z1
         have y2 : w2.cell? ⟨w.heap.size, 2, none⟩ = some (.int .i64 0) := (hb2.cell (p := ⟨w.heap.size, 2, none⟩) hlt).trans z2
         have y15s : ∀ a b c, (((w2.setCell ⟨w.heap.size, 0, none⟩ a).setCell ⟨w.heap.size, 1, none⟩ b).setCell ⟨w.heap.size, 2, none⟩ c).cell? ⟨g, 15, none⟩ = some (.int .i64 0) := fun a b c => (((Chg.setCell (F := fun k => k = w.heap.size) w2 _ _ rfl).trans' (Chg.setCell _ _ _ rfl)).trans' (Chg.setCell _ _ _ rfl)).cell (a := ⟨g, 15, none⟩) (Nat.ne_of_lt hg) y15
         have yf : ∀ j, w2.frozen? ⟨w.heap.size, j, none⟩ = false := unfrozen ((hb2.block _ hlt).trans HOW.out)))
  have hbf : Below w.heap.size w (((w2.setCell ⟨w.heap.size, 0, none⟩ (.int .i64 q)).setCell ⟨w.heap.size, 1, none⟩ (.int .i64 0)).setCell ⟨w.heap.size, 2, none⟩ (.int .i64 0)) :=
    (((HBW.out.trans (((Below.refl _ W).drew.trans hb2).mono HBW.out.size)).setCell (p := ⟨w.heap.size, 0, none⟩) (Nat.le_refl _) _).setCell (p := ⟨w.heap.size, 1, none⟩) (Nat.le_refl _) _).setCell (p := ⟨w.heap.size, 2, none⟩) (Nat.le_refl _) _
  have hf : (((w2.setCell ⟨w.heap.size, 0, none⟩ (.int .i64 q)).setCell ⟨w.heap.size, 1, none⟩ (.int .i64 0)).setCell ⟨w.heap.size, 2, none⟩ (.int .i64 0)).heap[w.heap.size]? = some (.cells #[.int .i64 q, .int .i64 0, .int .i64 0] 123 (0, 0)) := by
    have e := (hb2.block w.heap.size hlt).trans HOW.out
    simp [World.setCell, Array.getElem?_modify, e]
  generalize ((w2.setCell ⟨w.heap.size, 0, none⟩ (.int .i64 q)).setCell ⟨w.heap.size, 1, none⟩ (.int .i64 0)).setCell ⟨w.heap.size, 2, none⟩ (.int .i64 0) = Wf at *
  have f0 : Wf.cell? ⟨w.heap.size, 0, none⟩ = some (.int .i64 q) := Lib.cell_of_heap hf 0
  have f1 : Wf.cell? ⟨w.heap.size, 1, none⟩ = some (.int .i64 0) := Lib.cell_of_heap hf 1
  have f2 : Wf.cell? ⟨w.heap.size, 2, none⟩ = some (.int .i64 0) := Lib.cell_of_heap hf 2
  go_wp2_with fail
  refine ⟨rfl, .agg #[.int .i64 q, .int .i64 0, .int .i64 0], ?_, rfl, hbf⟩
  simp [results, Try.f67, go_sem, f0, f1, f2]
def flowA (s : Stm) : Array Value := #[.int .i64 s.credit, .int .i64 s.owed, .int .i64 s.deficit, .bool s.noSend, .bool s.noRecv]
set_option maxHeartbeats 2000000 in
set_option maxRecDepth 100000 in
/-- Flow, of an end that lives -/
theorem pflow_calls {w : World} {F : Nat → Prop} {g : Nat} {m : Mod} (h : PEnd w F g m) (hl : m.died = 0) (i : Int) :
    Calls Try.prog 69 #[ptrV g, .int .i64 i] w fun e w' => e = .returned (.tuple #[.agg (flowA (m.flowS i)), .int .i64 (m.flowE i)]) ∧ Below w.heap.size w w' := by
  obtain ⟨lab, gm, vW, vC, bs, h⟩ := h
  have c15 := (pe_cells h.obj).2.2.2.2.2.2.2.2.2.2.2.2.2.2.2.2
  have c10 := (pe_cells h.obj).2.2.2.2.2.2.2.2.2.2.1
  rw [hl] at c15
  have hg := heap_some h.obj
  obtain ⟨W, hW⟩ : ∃ W, w.alloc (.cells #[.int .i64 0, .int .i64 0, .int .i64 0, .bool false, .bool false] 98) = W := ⟨_, rfl⟩
  have hbW : Below w.heap.size w W := by rw [← hW]; exact below_alloc1 w _
  have hoW : W.heap[w.heap.size]? = some (.cells #[.int .i64 0, .int .i64 0, .int .i64 0, .bool false, .bool false] 98 (0, 0)) := by rw [← hW]; exact heap_alloc_new w _
  have d15 : W.cell? ⟨g, 15, none⟩ = some (.int .i64 0) := (hbW.cell (p := ⟨g, 15, none⟩) hg).trans c15
  have d10 : W.cell? ⟨g, 10, none⟩ = some (.map (some gm)) := (hbW.cell (p := ⟨g, 10, none⟩) hg).trans c10
  have z0 : W.cell? ⟨w.heap.size, 0, none⟩ = some (.int .i64 0) := Lib.cell_of_heap hoW 0
  have z1 : W.cell? ⟨w.heap.size, 1, none⟩ = some (.int .i64 0) := Lib.cell_of_heap hoW 1
  have z2 : W.cell? ⟨w.heap.size, 2, none⟩ = some (.int .i64 0) := Lib.cell_of_heap hoW 2
  have z3 : W.cell? ⟨w.heap.size, 3, none⟩ = some (.bool false) := Lib.cell_of_heap hoW 3
  have z4 : W.cell? ⟨w.heap.size, 4, none⟩ = some (.bool false) := Lib.cell_of_heap hoW 4
  have zf := unfrozen hoW
  have HBW := hid hbW
  have HOW := hid hoW
  have hlk := run_lookup_stm ((hbW.block _ (heap_some h.map)).trans h.map) i true
  rw [if_pos rfl] at hlk
  have hfin : ∀ s : Stm, Hid (∀ e : Nat, m.flowS i = s → m.flowE i = e → ∀ (Wf : World), Wf = ((((W.setCell ⟨w.heap.size, 0, none⟩ (.int .i64 s.credit)).setCell ⟨w.heap.size, 1, none⟩ (.int .i64 s.owed)).setCell ⟨w.heap.size, 2, none⟩ (.int .i64 s.deficit)).setCell ⟨w.heap.size, 3, none⟩ (.bool s.noSend)).setCell ⟨w.heap.size, 4, none⟩ (.bool s.noRecv) →
      Below w.heap.size w Wf ∧ Wf.cell? ⟨w.heap.size, 0, none⟩ = some (.int .i64 s.credit) ∧ Wf.cell? ⟨w.heap.size, 1, none⟩ = some (.int .i64 s.owed) ∧ Wf.cell? ⟨w.heap.size, 2, none⟩ = some (.int .i64 s.deficit) ∧ Wf.cell? ⟨w.heap.size, 3, none⟩ = some (.bool s.noSend) ∧ Wf.cell? ⟨w.heap.size, 4, none⟩ = some (.bool s.noRecv)) := by
    intro s e _ _ Wf hWf
    have hf : Wf.heap[w.heap.size]? = some (.cells (flowA s) 98 (0, 0)) := by
      rw [hWf]
      simp [World.setCell, Array.getElem?_modify, HOW.out, flowA]
    refine ⟨?_, Lib.cell_of_heap hf 0, Lib.cell_of_heap hf 1, Lib.cell_of_heap hf 2, Lib.cell_of_heap hf 3, Lib.cell_of_heap hf 4⟩
    rw [hWf]
    exact ((((HBW.out.setCell (p := ⟨w.heap.size, 0, none⟩) (Nat.le_refl _) _).setCell (p := ⟨w.heap.size, 1, none⟩) (Nat.le_refl _) _).setCell (p := ⟨w.heap.size, 2, none⟩) (Nat.le_refl _) _).setCell (p := ⟨w.heap.size, 3, none⟩) (Nat.le_refl _) _).setCell (p := ⟨w.heap.size, 4, none⟩) (Nat.le_refl _) _
  by_cases his : 0 ≤ i ∧ i < bs.length
  · obtain ⟨j, rfl⟩ : ∃ j : Nat, i = j := ⟨i.toNat, by omega⟩
    have hjs : j < m.ss.length := by rw [← h.len]; omega
    have hism : m.is j = true := by unfold Mod.is; rw [← h.len]; simp; omega
    have HS : Hid (m.flowS j = m.at j) := by show _ = _; unfold Mod.flowS Mod.flow; rw [if_pos hism, if_neg (by simpa using hl), Int.toNat_natCast]
    have HE : Hid (m.flowE j = 0) := by show _ = _; unfold Mod.flowE; rw [if_pos hism]
    rw [if_pos his, decide_eq_true his, Int.toNat_natCast] at hlk
    have hs := (h.below hbW).stmAt hl hjs
    obtain ⟨b, hb⟩ : ∃ b, bs.getD j 0 = b := ⟨_, rfl⟩
    rw [hb] at hs hlk
    obtain ⟨vq, vw, ws, co, hs⟩ := hs
    obtain ⟨t0, t1, t2, t3, t4, _⟩ := ps_cells hs.obj
    have hblt := heap_some hs.obj
    have hbne : b ≠ w.heap.size := by
      rintro rfl
      have := hs.obj
      rw [HOW.out] at this
      simp at this
    have HF := hfin (m.at j)
    clear hfin h hbW hoW hs c15 c10
    generalize m.at j = s at *
    unfold ptrV at hlk ⊢
    go_enter Try.func69, Try.ntmps69
    go_wp2
    try rw [hW]
    obtain ⟨Wf, hWf⟩ : ∃ Wf, ((((W.setCell ⟨w.heap.size, 0, none⟩ (.int .i64 s.credit)).setCell ⟨w.heap.size, 1, none⟩ (.int .i64 s.owed)).setCell ⟨w.heap.size, 2, none⟩ (.int .i64 s.deficit)).setCell ⟨w.heap.size, 3, none⟩ (.bool s.noSend)).setCell ⟨w.heap.size, 4, none⟩ (.bool s.noRecv) = Wf := ⟨_, rfl⟩
    obtain ⟨hbf, f0, f1, f2, f3, f4⟩ := HF.out 0 HS.out HE.out Wf hWf.symm
    rw [hWf, HS.out, HE.out]
    refine ⟨rfl, .tuple #[.agg (flowA s), .int .i64 0], ?_, rfl, hbf⟩
    unfold flowA
    simp [results, Try.f69, go_sem, f0, f1, f2, f3, f4]
  · have hism : m.is i = false := by
      unfold Mod.is
      rw [← h.len, Bool.and_eq_false_iff, decide_eq_false_iff_not, decide_eq_false_iff_not]
      omega
    have HS : Hid (m.flowS i = Stm.zero) := by show _ = _; unfold Mod.flowS; rw [if_neg (by rw [hism]; simp)]
    have HE : Hid (m.flowE i = 2) := by show _ = _; unfold Mod.flowE; rw [if_neg (by rw [hism]; simp)]
    rw [if_neg his, decide_eq_false his] at hlk
    have HF := hfin Stm.zero
    clear hfin h hbW hoW c15 c10 his
    unfold ptrV
    go_enter Try.func69, Try.ntmps69
    go_wp2
    try rw [hW]
    obtain ⟨Wf, hWf⟩ : ∃ Wf, ((((W.setCell ⟨w.heap.size, 0, none⟩ (.int .i64 0)).setCell ⟨w.heap.size, 1, none⟩ (.int .i64 0)).setCell ⟨w.heap.size, 2, none⟩ (.int .i64 0)).setCell ⟨w.heap.size, 3, none⟩ (.bool false)).setCell ⟨w.heap.size, 4, none⟩ (.bool false) = Wf := ⟨_, rfl⟩
    obtain ⟨hbf, f0, f1, f2, f3, f4⟩ := HF.out 2 HS.out HE.out Wf hWf.symm
    rw [hWf, HS.out, HE.out]
    refine ⟨rfl, .tuple #[.agg (flowA Stm.zero), .int .i64 2], ?_, rfl, hbf⟩
    unfold flowA
    simp [results, Try.f69, go_sem, f0, f1, f2, f3, f4]
end Go.Proofs.Ytnclmbolfpojoaa
