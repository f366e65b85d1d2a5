/-
  The program's Submit.
-/
import Derived.Test.YtnclmbolfpojoaaPRange
namespace Go.Proofs.Ytnclmbolfpojoaa
open Go.RowKit
theorem PEndWith.relab {w : World} {F : Nat → Prop} {g : Nat} {m : Mod} {lab : Nat → Nat} {gm : Nat} {vW vC : Value} {bs : List Nat} (h : PEndWith w F g m lab gm vW vC bs) (L : Nat) : PEndWith w (Up F w.heap.size) g m (relab lab w.heap.size L) gm vW vC bs :=
  ⟨lab_old (heap_some h.obj) h.own, lab_old (heap_some h.map) h.ownM, h.obj, h.map, h.rowW.mono (fun _ hk e => lab_old hk e), h.rowC.mono (fun _ hk e => lab_old hk e), h.len, h.n, fun i hi => (h.stm i hi).mono (fun _ hk e => lab_old hk e) (fun _ hk e => lab_old hk e), h.zero⟩
def ErrPost (w : World) (F : Nat → Prop) (g : Nat) (m1 : Mod) (n : Nat) (e : Ending) (w' : World) : Prop := e = .returned (.int .i64 n) ∧ PEnd w' (Up F w.heap.size) g m1 ∧ Chg F w w'
theorem sum_lefts (l : List Stm) : sumL ((List.range l.length).map fun k => (l.getD k Stm.dead).left) = sumL (l.map Stm.left) := by
  congr 1
  apply List.ext_getElem
  · simp
  · intro i h1 h2
    simp only [List.length_map, List.length_range] at h1 h2
    simp [List.getD_eq_getElem?_getD, List.getElem?_eq_getElem h1]
theorem sum_lefts_le (l : List Stm) (k : Nat) (hk : k ≤ l.length) : sumL ((List.range k).map fun k => (l.getD k Stm.dead).left) ≤ sumL (l.map Stm.left) := by
  have h1 := sumL_take_le ((List.range l.length).map fun k => (l.getD k Stm.dead).left) k
  rw [sum_lefts, ← List.map_take, List.take_range, Nat.min_eq_left hk] at h1
  exact h1
/-- queued -/
theorem pqueued_calls {w : World} {F : Nat → Prop} {g : Nat} {m : Mod} (h : PEnd w F g m) (hi : m.Inv) (hl : m.died = 0) : Calls Try.prog 49 #[ptrV g] w fun e w' => e = .returned (.int .i64 m.queued) ∧ Below w.heap.size w w' := by
  obtain ⟨lab, gm, vW, vC, bs, h⟩ := h
  obtain ⟨k0, _, _, _, _, _, _, _, _, _, k10, _⟩ := pe_cells h.obj
  have hq : m.queued ≤ 1000000 := by have := hi.q; have := hi.c.qu600; omega
  have hs := psumq_calls (N := bs.length) rfl (by rw [h.len, hi.len]; exact hi.c.n4) (by rw [h.n, ← h.len] at k0; exact k0) k10 h.map (fun k => (m.ss.getD k Stm.dead).left)
    (fun k W hk hW => pqueued1_calls (((h.below hW).stmAt hl (by rw [← h.len]; exact hk))) (hi.fit.left (by rw [← h.len]; exact hk))) (fun k hk => Nat.le_trans (sum_lefts_le m.ss k (by rw [← h.len]; exact hk)) hq)
  rw [h.len, sum_lefts] at hs
  exact hs
/-- living -/
theorem pliving_ok {w : World} {F : Nat → Prop} {g : Nat} {m : Mod} {lab : Nat → Nat} {gm : Nat} {vW vC : Value} {bs : List Nat} (h : PEndWith w F g m lab gm vW vC bs) (hl : m.died = 0) (j : Nat) (hj : j < bs.length) :
    Calls Try.prog 48 #[ptrV g, .int .i64 j] w fun e w' => e = .returned (.tuple #[ptrV (bs.getD j 0), .int .i64 0]) ∧ w' = w := by
  have c10 := (pe_cells h.obj).2.2.2.2.2.2.2.2.2.2.1
  have c16 := (pe_cells h.obj).2.2.2.2.2.2.2.2.2.2.2.2.2.2.2.2
  rw [hl] at c16
  have hlk := run_lookup_stm h.map j true
  rw [if_pos rfl, if_pos (by omega), decide_eq_true (by omega), Int.toNat_natCast] at hlk
  generalize bs.getD j 0 = b at *
  clear h hl
  unfold ptrV at hlk ⊢
  go_enter Try.func48, Try.ntmps48
  go_wp2
  go_ret2
  exact ⟨rfl, rfl⟩
theorem pliving_no {w : World} {F : Nat → Prop} {g : Nat} {m : Mod} {lab : Nat → Nat} {gm : Nat} {vW vC : Value} {bs : List Nat} (h : PEndWith w F g m lab gm vW vC bs) (hl : m.died = 0) (j : Int) (hj : ¬ (0 ≤ j ∧ j < bs.length)) :
    Calls Try.prog 48 #[ptrV g, .int .i64 j] w fun e w' => e = .returned (.tuple #[.pointer none, .int .i64 2]) ∧ w' = w := by
  have c10 := (pe_cells h.obj).2.2.2.2.2.2.2.2.2.2.1
  have c16 := (pe_cells h.obj).2.2.2.2.2.2.2.2.2.2.2.2.2.2.2.2
  rw [hl] at c16
  have hlk := run_lookup_stm h.map j true
  rw [if_pos rfl, if_neg hj, decide_eq_false hj] at hlk
  clear h hl hj
  unfold ptrV
  go_enter Try.func48, Try.ntmps48
  go_wp2
  go_ret2
  exact ⟨rfl, rfl⟩
theorem pliving_dead {w : World} {F : Nat → Prop} {g : Nat} {m : Mod} {lab : Nat → Nat} {gm : Nat} {vW vC : Value} {bs : List Nat} (h : PEndWith w F g m lab gm vW vC bs) (hl : m.died ≠ 0) (j : Int) :
    Calls Try.prog 48 #[ptrV g, .int .i64 j] w fun e w' => e = .returned (.tuple #[.pointer none, .int .i64 7]) ∧ w' = w := by
  have c16 := (pe_cells h.obj).2.2.2.2.2.2.2.2.2.2.2.2.2.2.2.2
  have hd : ((m.died : Int) != 0) = true := by rw [bne_iff_ne]; omega
  generalize (m.died : Int) = d at *
  clear h hl
  unfold ptrV
  go_enter Try.func48, Try.ntmps48
  go_wp2
  go_ret2
  exact ⟨rfl, rfl⟩
theorem ppack_any (a : Option Addr) (n cap : Nat) (ss : List ByteArray) (w : World) (h : StrsAt w a n ss) :
    Calls Try.prog 24 #[.slice a n cap] w fun e w' => e = .returned (.tuple #[.string (if properB ss = true then packed ss else ⟨#[]⟩), .int .i64 (if properB ss = true then 0 else 3)]) ∧ Below w.heap.size w w' := by
  cases hp : properB ss
  · refine (pack_no a n cap ss w h hp).mono ?_
    rintro e w' ⟨rfl, rfl⟩
    exact ⟨rfl, Below.refl _ _⟩
  · exact pack_yes a n cap ss w h hp
/-- a message more is in a stream's queue -/
theorem pend_put {w w2 w3 : World} {F : Nat → Prop} {g : Nat} {m : Mod} {lab : Nat → Nat} {gm : Nat} {vW vC : Value} {bs : List Nat} {j : Nat} {x : ByteArray} (h : PEndWith w2 F g m lab gm vW vC bs) (hl : m.died = 0) (hb : Below w.heap.size w w2) (hF : ∀ k, F k → k < w.heap.size) (hj : j < bs.length)
    (hs : PStm w3 (Up (Lab F lab (2 * j + 3)) w2.heap.size) (Lab F lab (2 * j + 4)) (bs.getD j 0) { m.at j with queue := (m.at j).queue ++ [x] }) (hc : Chg (Lab F lab (2 * j + 3)) w2 w3) :
    PEnd w3 (Up F w.heap.size) g (m.upd j { m.at j with queue := (m.at j).queue ++ [x] }) ∧ Chg F w w3 := by
  have h1 := (h.relab (2 * j + 3)).setStm j hj _ hl (hc.mono (fun k hk e => lab_old hk e)) (hs.mono (fun k _ e => lab_new e) (fun k _ e => lab_old (Nat.lt_of_lt_of_le (hF k e.1) hb.size) e)) (by simp)
  exact ⟨PEnd.mono ⟨_, _, _, _, _, h1⟩ (fun k _ e => e.elim Or.inl (fun e => Or.inr (Nat.le_trans hb.size e))), (Chg.of_below hb).trans (hc.mono (fun k _ e => Or.inl e.1))⟩
theorem queue_short {m : Mod} (h : m.Inv) {j : Nat} (hj : j < m.ss.length) : (m.at j).queue.length ≤ 1000000 := by
  have h1 : ∀ q : List ByteArray, (∀ x ∈ q, 0 < x.size) → q.length ≤ sizes q := by
    intro q
    induction q with
    | nil => simp
    | cons x r ih =>
      intro hx
      have := ih (fun y hy => hx y (by simp [hy]))
      have := hx x (by simp)
      simp only [List.length_cons, sizes]
      omega
  have h2 := h1 (m.at j).queue (fun x hx => ((h.s j (by rw [← h.len]; exact hj)).msgs x hx).1)
  have h3 := h.fit.left hj
  unfold Stm.left at h3
  omega
set_option maxHeartbeats 4000000 in
set_option maxRecDepth 100000 in
/-- Submit -/
theorem psubmit' {w : World} {F : Nat → Prop} {g : Nat} {m : Mod} (h : PEnd w F g m) (hi : m.Inv) (hF : ∀ k, F k → k < w.heap.size) (i : Int) (a : Option Addr) (n cap : Nat) (ss : List ByteArray) (hst : StrsAt w a n ss) :
    Calls Try.prog 29 #[ptrV g, .int .i64 i, .slice a n cap] w fun e w' => ErrPost w F g (m.submit i ss) (m.submitE i ss) e w' := by
  obtain ⟨lab, gm, vW, vC, bs, h⟩ := h
  have H := hid h
  have HI := hid hi
  have HF := hid hF
  have SAME : Hid (∀ w', Below w.heap.size w w' → PEnd w' (Up F w.heap.size) g m ∧ Chg F w w') := fun w' hb => ⟨PEnd.mono ⟨_, _, _, _, _, h.below hb⟩ (fun _ _ e => Or.inl e), .of_below hb⟩
  have HERR : Hid (∀ e, m.submitE i ss = e → e ≠ 0 → ∀ w', Below w.heap.size w w' → ErrPost w F g (m.submit i ss) (m.submitE i ss) (.returned (.int .i64 e)) w') := by
    rintro e rfl he w' hb
    have hM : m.submit i ss = m := by unfold Mod.submit; rw [if_neg he]
    rw [hM]
    exact ⟨rfl, SAME.out w' hb⟩
  clear SAME
  by_cases hd : m.died = 0
  · by_cases his : 0 ≤ i ∧ i < bs.length
    · obtain ⟨j, rfl⟩ : ∃ j : Nat, i = j := ⟨i.toNat, by omega⟩
      have hj : j < bs.length := by omega
      have hjs : j < m.ss.length := by rw [← h.len]; exact hj
      have hism : m.is j = true := by unfold Mod.is; rw [← h.len]; simp; omega
      have HLV := hid (pliving_ok h hd j hj)
      have HPK := hid (ppack_any a n cap ss w hst)
      clear h hi hF hst his
      obtain ⟨b, hb⟩ : ∃ b, bs.getD j 0 = b := ⟨_, rfl⟩
      rw [hb] at HLV
      have HB := hid hb
      clear hb
      unfold ptrV at HLV ⊢
      go_enter Try.func29, Try.ntmps29
      go_wp2_with fail
      refine HLV.out.mono ?_
      rintro e w0 ⟨rfl, hw⟩
      replace hw := hw.symm
      subst hw
      go_wp2_with fail
      refine HPK.out.mono ?_
      rintro e w1 ⟨rfl, hb1⟩
      have HB1 := hid hb1
      have H1 := hid (H.out.below hb1)
      have c7 := (pe_cells H1.out.obj).2.2.2.2.2.2.2.1
      have c8 := (pe_cells H1.out.obj).2.2.2.2.2.2.2.2.1
      have hs := H1.out.stmAt hd hjs
      rw [HB.out] at hs
      have HS := hid hs
      obtain ⟨vq, vw, ws, co, hs⟩ := hs
      have s3 := (ps_cells hs.obj).2.2.2.1
      clear hb1 hs HLV HPK
      cases hp : properB ss
      · go_wp2
        go_ret
        exact HERR.out 3 (by unfold Mod.submitE; rw [if_neg (by simpa using hd), if_neg (by simpa using hism), if_pos (.inl hp)]) (by decide) _ HB1.out
      · rw [if_pos rfl, if_pos rfl]
        obtain ⟨pS, hpS⟩ : ∃ x, packed ss = x := ⟨_, rfl⟩
        have hps := packed_size hp
        rw [hpS] at hps
        rw [hpS]
        have HPS := hid hpS
        clear hpS
        by_cases hw : (m.c.window : Int) < (pS.size : Int)
        · go_wp2
          go_ret
          exact HERR.out 3 (by unfold Mod.submitE; rw [if_neg (by simpa using hd), if_neg (by simpa using hism), if_pos (.inr (by rw [HPS.out]; omega))]) (by decide) _ HB1.out
        · have HNW : Hid (¬ (properB ss = false ∨ m.c.window < (packed ss).size)) := by show ¬ _; rw [hp, HPS.out]; simp; omega
          cases hns : (m.at j).noSend
          · rw [hns] at s3
            have hqm : m.queued ≤ 600 := by have := HI.out.q; have := HI.out.c.qu600; omega
            have H1D : Hid (PEnd w1.drew F g m) := (⟨_, _, _, _, _, H1.out.keeps (G := fun _ => False) ((Chg.refl _ w1).drew) (fun _ _ => id)⟩ : PEnd w1.drew F g m)
            have HQ := hid (pqueued_calls H1D.out HI.out hd)
            unfold ptrV at HQ
            obtain ⟨q, hq⟩ : ∃ q, m.queued = q := ⟨_, rfl⟩
            rw [hq] at HQ hqm
            have HQE := hid hq
            clear hq
            have hg1 := heap_some H1.out.obj
            have HG := hid (Lib.cell_of_heap H1.out.obj 8)
            go_wp2
            go_region_held3 (fun w' => w'.cell? ⟨g, 8, none⟩ = some (.int .i64 m.c.queue))
              (first
                | (go_keep; done)
                | exact c82)
              (first
                | (go_at_call 49
                   refine HQ.out.mono ?_
                   rintro e w2 ⟨rfl, hb2⟩
                   have c82 : w2.cell? ⟨g, 8, none⟩ = some (.int .i64 m.c.queue) := (hb2.cell (p := ⟨g, 8, none⟩) hg1).trans c8))
            have hbw2 : Below w.heap.size w w2 := HB1.out.trans (((Below.refl _ w1).drew.trans hb2).mono HB1.out.size)
            have H2 := hid ((H1.out.keeps (G := fun _ => False) ((Chg.refl _ w1).drew) (fun _ _ => id)).below hb2)
            have HBW := hid hbw2
            have hs2 := H2.out.stmAt hd hjs
            rw [HB.out] at hs2
            have HAD := hid (padd_calls hs2 (lab_apart (by omega)) pS (queue_short HI.out hjs))
            unfold ptrV at HAD
            have hwr : IntKind.i64.wrap ((q : Int) + (pS.size : Int)) = (q : Int) + (pS.size : Int) := by simp [IntKind.wrap, IntKind.bits, IntKind.signed]; omega
            rw [hwr]
            clear hwr hs2 hbw2 hb2 c82 s3 c7 c8 HG H1D HQ HS
            by_cases hfull : (m.c.queue : Int) < (q : Int) + (pS.size : Int)
            · go_wp2
              go_ret
              exact HERR.out 4 (by unfold Mod.submitE; rw [if_neg (by simpa using hd), if_neg (by simpa using hism), if_neg HNW.out, Int.toNat_natCast, if_neg (by simp [hns]), if_pos (by rw [HPS.out, HQE.out]; omega)]) (by decide) _ HBW.out
            · have HE : Hid (m.submitE j ss = 0) := by show _ = _; unfold Mod.submitE; rw [if_neg (by simpa using hd), if_neg (by simpa using hism), if_neg HNW.out, Int.toNat_natCast, if_neg (by simp [hns]), if_neg (by rw [HPS.out, HQE.out]; omega)]
              go_wp2_with fail
              refine HAD.out.mono ?_
              rintro e w3 ⟨rfl, hp3, hc3⟩
              have hput := hid (pend_put H2.out hd HBW.out HF.out hj (by rw [HB.out]; exact hp3) hc3)
              clear hp3 hc3
              go_wp2_with fail
              go_ret
              have hM : m.submit j ss = m.upd j { m.at j with queue := (m.at j).queue ++ [pS] } := by unfold Mod.submit; rw [HE.out, if_pos rfl, HPS.out]; rfl
              rw [HE.out, hM]
              exact ⟨rfl, hput.out⟩
          · rw [hns] at s3
            go_wp2
            go_ret
            exact HERR.out 5 (by unfold Mod.submitE; rw [if_neg (by simpa using hd), if_neg (by simpa using hism), if_neg HNW.out, Int.toNat_natCast, if_pos hns]) (by decide) _ HB1.out
    · have HLV := hid (pliving_no h hd i his)
      have hism : m.is i = false := by
        unfold Mod.is
        rw [← h.len, Bool.and_eq_false_iff, decide_eq_false_iff_not, decide_eq_false_iff_not]
        omega
      clear h hi hF hst
      unfold ptrV at HLV ⊢
      go_enter Try.func29, Try.ntmps29
      go_wp2_with fail
      refine HLV.out.mono ?_
      rintro e w0 ⟨rfl, hw⟩
      replace hw := hw.symm
      subst hw
      go_wp2_with fail
      go_ret
      exact HERR.out 2 (by unfold Mod.submitE; rw [if_neg (by simpa using hd), if_pos hism]) (by decide) _ (Below.refl _ _)
  · have HLV := hid (pliving_dead h hd i)
    clear h hi hF hst
    unfold ptrV at HLV ⊢
    go_enter Try.func29, Try.ntmps29
    go_wp2_with fail
    refine HLV.out.mono ?_
    rintro e w0 ⟨rfl, hw⟩
    replace hw := hw.symm
    subst hw
    go_wp2_with fail
    go_ret
    exact HERR.out 7 (by unfold Mod.submitE; rw [if_pos hd]) (by decide) _ (Below.refl _ _)
theorem psubmit_calls {w : World} {F : Nat → Prop} {g : Nat} {m : Mod} (h : PEnd w F g m) (hi : m.Inv) (i : Int) (a : Option Addr) (n cap : Nat) (ss : List ByteArray) (hst : StrsAt w a n ss) :
    Calls Try.prog 29 #[ptrV g, .int .i64 i, .slice a n cap] w fun e w' => ErrPost w F g (m.submit i ss) (m.submitE i ss) e w' := by
  refine (psubmit' h.old hi (fun k hk => hk.2) i a n cap ss hst).mono ?_
  rintro e w' ⟨rfl, hp, hc⟩
  exact ⟨rfl, hp.mono (fun _ _ e => e.elim (fun e => Or.inl e.1) Or.inr), hc.mono (fun _ _ e => e.1)⟩
end Go.Proofs.Ytnclmbolfpojoaa
