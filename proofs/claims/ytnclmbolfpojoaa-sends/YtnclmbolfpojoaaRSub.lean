/-
  The reference's Submit.
-/
import Derived.Test.YtnclmbolfpojoaaRTurn
namespace Go.Proofs.Ytnclmbolfpojoaa
open Go.RowKit
attribute [local go_sem ↓] Go.wp_at_zero Go.wp_at_succ
/-- a message more is in a stream's queue -/
theorem stm_put {w2 w3 : World} {F : Nat → Prop} {b wt : Nat} {s : Stm} {vm v3 : Value} {msgs : List ByteArray} {fr : Nat} {x : ByteArray} (h : RStmWith w2 F b wt s vm msgs fr)
    (hq3 : QRow w3 (Up F w2.heap.size) 9 v3 (msgs.map Value.string ++ [.string x])) (hc3 : Chg (fun k => F k ∧ ∃ cur fz, w2.heap[k]? = some (.cells cur 9 fz)) w2 w3) (h0 : 0 < x.size) (h1 : x.size ≤ 1000) :
    RStm (w3.setCell ⟨b, 1, none⟩ v3) (Up F w2.heap.size) b wt { s with queue := s.queue ++ [x] } ∧ Chg F w2 (w3.setCell ⟨b, 1, none⟩ v3) := by
  obtain ⟨e1, e2, e3, e4⟩ := h
  have hb3 := hc3.kind e2 (by decide)
  have hcs : Chg (fun k => k = b) w3 (w3.setCell ⟨b, 1, none⟩ v3) := Chg.setCell w3 ⟨b, 1, none⟩ v3 rfl
  refine ⟨⟨v3, msgs ++ [x], fr, .inl e1, ?_, ?_, framed_snoc e4 h0 h1⟩, (hc3.mono (fun _ _ e => e.1)).trans' (Chg.setCell w3 _ v3 e1)⟩
  · simp [World.setCell, Array.getElem?_modify, hb3, rsCells]
  · rw [List.map_append]
    exact hq3.keeps hcs (by rintro k cur fz _ hk rfl; rw [hb3] at hk; simp at hk)
/-- .. and so of an end -/
theorem end_put {w1 w2 w3 : World} {F : Nat → Prop} {g : Nat} {m : Mod} {lab : Nat → Nat} {vS vC v3 vm : Value} {bs : List Nat} {j b : Nat} {msgs : List ByteArray} {fr : Nat} {x : ByteArray} (h : REndWith w1 F g m lab vS vC bs) (hb : Below w1.heap.size w1 w2)
    (hj : j < bs.length) (hbj : bs.getD j 0 = b) (hs : RStmWith w2 (Lab F lab (j + 2)) b (m.c.weight j) (m.at j) vm msgs fr)
    (hq3 : QRow w3 (Up (Lab F lab (j + 2)) w2.heap.size) 9 v3 (msgs.map Value.string ++ [.string x])) (hc3 : Chg (fun k => Lab F lab (j + 2) k ∧ ∃ cur fz, w2.heap[k]? = some (.cells cur 9 fz)) w2 w3) (h0 : 0 < x.size) (h1 : x.size ≤ 1000) :
    REnd (w3.setCell ⟨b, 1, none⟩ v3) (Up F w1.heap.size) g (m.upd j { m.at j with queue := (m.at j).queue ++ [x] }) ∧ Chg F w1 (w3.setCell ⟨b, 1, none⟩ v3) := by
  have h2 := h.bel hb
  obtain ⟨k1, k2⟩ := stm_put hs hq3 hc3 h0 h1
  have h4 := (h2.relab (j + 2)).setStm j hj _ (k2.mono (fun k hk e => lab_old hk e)) (by rw [hbj]; exact k1.mono (fun k _ e => lab_new e))
  exact ⟨REnd.mono ⟨_, _, _, _, h4⟩ (fun k _ e => e.elim Or.inl (fun e => Or.inr (Nat.le_trans hb.size e))), (Chg.of_below hb).trans (k2.mono (fun k _ e => Or.inl e.1))⟩
theorem rpack_any (a : Option Addr) (n cap : Nat) (ss : List ByteArray) (w : World) (h : StrsAt w a n ss) :
    Calls Try.prog 57 #[.slice a n cap] w fun e w' => e = .returned (.tuple #[.string (if properB ss = true then packed ss else ⟨#[]⟩), .int .i64 (if properB ss = true then 0 else 3)]) ∧ Below w.heap.size w w' := by
  cases hp : properB ss
  · exact rpack_no a n cap ss w h hp
  · exact rpack_yes a n cap ss w h hp
theorem REndWith.rowObj {w : World} {F : Nat → Prop} {g : Nat} {m : Mod} {lab : Nat → Nat} {vC : Value} {bs : List Nat} {gr off n cap : Nat} (h : REndWith w F g m lab (.slice (some ⟨gr, off, none⟩) n cap) vC bs) :
    ∃ cur, w.heap[gr]? = some (.cells cur 137 (0, 0)) := by
  rcases h.rowS with ⟨e, _⟩ | ⟨g', off', cap', cur, e, _, hg, _⟩
  · simp at e
  · simp only [Value.slice.injEq, Option.some.injEq, Addr.mk.injEq] at e
    obtain ⟨⟨rfl, rfl, _⟩, rfl, rfl⟩ := e
    exact ⟨cur, hg⟩
set_option maxHeartbeats 4000000 in
set_option maxRecDepth 100000 in
/-- Submit -/
theorem rsubmit_calls {w : World} {F : Nat → Prop} {g : Nat} {m : Mod} (h : REnd w F g m) (i : Int) (a : Option Addr) (n cap : Nat) (ss : List ByteArray) (hst : StrsAt w a n ss)
    (hn : m.ss.length ≤ 4) (hq : m.queued ≤ 1000000) (hwin : m.c.window ≤ 1000) :
    Calls Try.prog 63 #[ptrV g, .int .i64 i, .slice a n cap] w fun e w' => RErr w F g (m.submit i ss) (m.submitE i ss) e w' := by
  have H0 : Hid (REnd w F g m) := h
  have HST : Hid (StrsAt w a n ss) := hst
  clear h hst
  unfold ptrV
  go_enter Try.func63, Try.ntmps63
  go_wp2_with fail
  refine (rpack_any a n cap ss _ HST.out).mono ?_
  rintro e w1 ⟨rfl, hb1⟩
  have HB1 : Hid (Below w.heap.size w w1) := hb1
  have H1 : Hid (REnd w1 F g m) := H0.out.keeps (G := fun _ => False) (.of_below hb1) (fun _ _ => id)
  clear hb1
  obtain ⟨pS, hpS⟩ : ∃ x, (if properB ss = true then packed ss else ⟨#[]⟩) = x := ⟨_, rfl⟩
  obtain ⟨pE, hpE⟩ : ∃ x : Int, (if properB ss = true then 0 else 3) = x := ⟨_, rfl⟩
  rw [hpS, hpE]
  have HPS : Hid ((if properB ss = true then packed ss else ⟨#[]⟩) = pS) := hpS
  have HPE : Hid ((if properB ss = true then 0 else 3) = pE) := hpE
  clear hpS hpE
  go_wp2_with fail
  refine (ris_calls H1.out i).mono ?_
  rintro e w2 ⟨rfl, rfl⟩
  go_wp2_with fail
  refine (rqueued_calls H1.out hn hq).mono ?_
  rintro e w3 ⟨rfl, q, rfl⟩
  have H2 : Hid (REnd (w2.drewN q) F g m) := H1.out.keeps (G := fun _ => False) ((Chg.refl _ w2).drewN q) (fun _ _ => id)
  have HB2 : Hid (Below w.heap.size w (w2.drewN q)) := below_draws' HB1.out q
  clear H1 HB1
  generalize w2.drewN q = w3 at *
  obtain ⟨lab, vS, vC, bs, h⟩ := H2.out
  have H : Hid (REndWith w3 F g m lab vS vC bs) := h
  have c10 := (re_cells h.obj).2.2.2.2.2.1
  have c7 := (re_cells h.obj).2.2.1
  have c8 := (re_cells h.obj).2.2.2.1
  have c17 := (re_cells h.obj).2.2.2.2.2.2.2.2.2.2.2.2
  clear h
  have same : RPost w F g m w3 := ⟨H2.out.mono (fun _ _ e => Or.inl e), .of_below HB2.out⟩
  have SAME : Hid (RPost w F g m w3) := same
  clear same
  by_cases hd : m.died = 0
  · rw [hd] at c17
    by_cases hi : m.is i = true
    · obtain ⟨j, rfl, hj⟩ : ∃ j : Nat, i = j ∧ j < m.ss.length := by
        unfold Mod.is at hi
        simp at hi
        exact ⟨i.toNat, by omega, by omega⟩
      have hj0 : (0 : Int) ≤ (j : Int) := by omega
      have hj1 : (j : Int) < (m.ss.length : Int) := by omega
      have hss : ∀ e, m.submitE j ss = e → e ≠ 0 → ∀ w', w' = w3 → RErr w F g (m.submit j ss) (m.submitE j ss) (.returned (.int .i64 e)) w' := by
        rintro e rfl he w' rfl
        have hM : m.submit j ss = m := by unfold Mod.submit; rw [if_neg he]
        rw [hM]
        exact ⟨rfl, SAME.out⟩
      have HSS : Hid (∀ e, m.submitE j ss = e → e ≠ 0 → ∀ w', w' = w3 → RErr w F g (m.submit j ss) (m.submitE j ss) (.returned (.int .i64 e)) w') := hss
      clear hss
      cases hp : properB ss
      · have e1 : pE = 3 := by rw [← HPE.out, hp]; rfl
        subst e1
        go_wp2
        go_ret
        exact HSS.out 3 (by unfold Mod.submitE; rw [if_neg (by simpa using hd), if_neg (by simpa using hi), if_pos (.inl hp)]) (by decide) _ rfl
      · have e1 : pE = 0 := by rw [← HPE.out, hp]; rfl
        have e2 : pS = packed ss := by rw [← HPS.out, hp]; rfl
        subst e1
        have HE2 : Hid (pS = packed ss) := e2
        clear e2
        by_cases hw : (m.c.window : Int) < (pS.size : Int)
        · go_wp2
          go_ret
          exact HSS.out 3 (by unfold Mod.submitE; rw [if_neg (by simpa using hd), if_neg (by simpa using hi), if_pos (.inr (by rw [← HE2.out]; omega))]) (by decide) _ rfl
        · have hnw : ¬ (properB ss = false ∨ m.c.window < (packed ss).size) := by rw [hp, ← HE2.out]; simp; omega
          have HNW : Hid (¬ (properB ss = false ∨ m.c.window < (packed ss).size)) := hnw
          have hw' : pS.size ≤ 1000 := by omega
          obtain ⟨gr, off, capS, b, rfl, hcp, hb, hgr, _⟩ := H.out.ptr hj
          have hjb : j < bs.length := by rw [H.out.len]; exact hj
          obtain ⟨vm, msgs, fr, hs⟩ := H.out.stm j hjb
          rw [hb] at hs
          have HS : Hid (RStmWith w3 (Lab F lab (j + 2)) b (m.c.weight j) (m.at j) vm msgs fr) := hs
          have HB : Hid (bs.getD j 0 = b) := hb
          have s6 := (rs_cells hs.2.1).2.2.2.2.2.2.1
          have s1 := (rs_cells hs.2.1).2.1
          have fz := unfrozen hs.2.1 1
          clear hb hs hnw
          cases hns : (m.at j).noSend
          · rw [hns] at s6
            by_cases hfull : (m.c.queue : Int) < (m.queued : Int) + (pS.size : Int)
            · go_wp2
              go_ret
              exact HSS.out 4 (by unfold Mod.submitE; rw [if_neg (by simpa using hd), if_neg (by simpa using hi), if_neg HNW.out, Int.toNat_natCast, if_neg (by simp [hns]), if_pos (by rw [← HE2.out]; omega)]) (by decide) _ rfl
            · have hE : m.submitE j ss = 0 := by unfold Mod.submitE; rw [if_neg (by simpa using hd), if_neg (by simpa using hi), if_neg HNW.out, Int.toNat_natCast, if_neg (by simp [hns]), if_neg (by rw [← HE2.out]; omega)]
              have HE : Hid (m.submitE j ss = 0) := hE
              clear hE
              go_wp2_with fail
              obtain ⟨i9, hi9, hz9, hs9, hb9⟩ := info_parts info_str
              have hqr := HS.out.2.2.1
              have hfl : (msgs.map Value.string).length ≤ 1000000 := by
                rw [List.length_map]
                have := framed_len HS.out.2.2.2
                have h2 : (m.at j).left ≤ m.queued := by
                  have e1 := sumL_take_succ (m.ss.map Stm.left) j (by rw [List.length_map]; exact hj)
                  have e2 := sumL_take_le (m.ss.map Stm.left) (j + 1)
                  rw [map_getD _ _ _ hj] at e1
                  unfold Mod.queued Mod.at
                  omega
                unfold Stm.left at h2
                omega
              obtain ⟨am, cm, rfl⟩ := hqr.slice
              rw [List.length_map] at s1 hqr hfl
              have HS2 : Hid (RStmWith w3 (Lab F lab (j + 2)) b (m.c.weight j) (m.at j) (.slice am msgs.length cm) msgs fr) := by
                have := HS.out
                rw [List.length_map] at this
                exact this
              have HQ : Hid (QRow w3 (Lab F lab (j + 2)) 9 (.slice am msgs.length cm) (msgs.map Value.string)) := hqr
              have hobj := HS.out.2.1
              rw [List.length_map] at hobj
              have HOB : Hid (w3.heap[b]? = some (.cells (rsCells (m.c.weight j) (.slice am msgs.length cm) fr (m.at j)) 139 (0, 0))) := hobj
              obtain ⟨cur, hcur⟩ := H.out.rowObj
              have HOR : Hid (w3.heap[gr]? = some (.cells cur 137 (0, 0))) := hcur
              have hbd : Below w3.heap.size w3 w3.drew := (Below.refl _ _).drew
              clear hcur
              clear hqr hobj c7 c8 c17 s6
              have gg := World.block_lt_of_cell? _ _ c10
              have gb := World.block_lt_of_cell? _ _ s1
              go_region_law
                (refine step_append_q _ (by rfl) _ _ _ (by rfl) (Lab F lab (j + 2)) 9 i9 _ 16 Try.underlying27 hi9 hz9 hs9 hb9 rfl _ (msgs.map Value.string) (by rfl) (HQ.out.drew.alloc _) ⟨w3.heap.size, 0, none⟩ 1 _ (by rfl) (Lib.cell_of_heap (heap_alloc_new w3 _) 0) (by rfl) (by rw [List.length_map]; unfold maxLen; omega) (by rw [List.length_map]; omega) ?_
                 intro a5 c5 w5 hq5 hc5
                 obtain ⟨x1, x2⟩ := Chg.kindAlloc HOB.out hbd hc5 (by decide) 1
                 have x3 := (Chg.kindAlloc H.out.obj hbd hc5 (by decide) 10).2
                 have x4 := ((Chg.kindAlloc HOR.out hbd hc5 (by decide) (off + j)).2.trans (Lib.cell_of_heap HOR.out (off + j)).symm).trans hcp
                 replace x2 : w5.cell? ⟨b, 1, none⟩ = some (.slice am msgs.length cm) := x2
                 replace x3 : w5.cell? ⟨g, 10, none⟩ = some (.slice (some ⟨gr, off, none⟩) m.ss.length capS) := x3)
              all_goals go_wp2
              all_goals go_ret
              all_goals have hp := end_put (x := pS) H.out (hbd.alloc hbd.size _) hjb HB.out (HS2.out.keeps (G := fun _ => False) (.of_below (hbd.alloc hbd.size _)) (fun _ _ => id)) hq5 hc5 (by rw [HE2.out]; exact packed_pos ss) hw'
              all_goals rw [List.length_map] at hp
              all_goals have hM : m.submit j ss = m.upd j { m.at j with queue := (m.at j).queue ++ [pS] } := by unfold Mod.submit; rw [HE.out, if_pos rfl, HE2.out]; rfl
              all_goals rw [HE.out, hM]
              all_goals exact ⟨rfl, RPost.trans (.of_below HB2.out) hp⟩
          · rw [hns] at s6
            go_wp2
            go_ret
            exact HSS.out 5 (by unfold Mod.submitE; rw [if_neg (by simpa using hd), if_neg (by simpa using hi), if_neg HNW.out, Int.toNat_natCast, if_pos hns]) (by decide) _ rfl
    · have hi' : m.is i = false := by simpa using hi
      go_wp2
      go_ret
      have hE : m.submitE i ss = 2 := by unfold Mod.submitE; rw [if_neg (by simpa using hd), if_pos (by simpa using hi)]
      have hM : m.submit i ss = m := by unfold Mod.submit; rw [hE]; rfl
      rw [hE, hM]
      exact ⟨rfl, SAME.out⟩
  · have hd' : ((m.died : Int) != 0) = true := by rw [bne_iff_ne]; omega
    go_wp2
    go_ret
    have hE : m.submitE i ss = 7 := by unfold Mod.submitE; rw [if_pos hd]
    have hM : m.submit i ss = m := by unfold Mod.submit; rw [hE]; rfl
    rw [hE, hM]
    exact ⟨rfl, SAME.out⟩
end Go.Proofs.Ytnclmbolfpojoaa
