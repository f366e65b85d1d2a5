/-
  The reference's turns, and its Write.
-/
import Derived.Test.YtnclmbolfpojoaaRTurn
namespace Go.Proofs.Ytnclmbolfpojoaa
open Go.RowKit
attribute [local go_sem ↓] Go.wp_at_zero Go.wp_at_succ
def TurnsPost (w : World) (F : Nat → Prop) (g : Nat) (m : Mod) (e : Ending) (w' : World) : Prop := e = .returned (.tuple #[]) ∧ RPost w F g m.turns w'
set_option maxHeartbeats 4000000 in
set_option maxRecDepth 100000 in
/-- turns -/
theorem rturns_calls {w : World} {F : Nat → Prop} {g : Nat} {m : Mod} (h : REnd w F g m) (hf : m.Fit) :
    Calls Try.prog 108 #[ptrV g] w fun e w' => TurnsPost w F g m e w' := by
  have H0 : Hid (REnd w (Up F w.heap.size) g m) := h.mono (fun _ _ e => Or.inl e)
  have HF0 : Hid m.Fit := hf
  obtain ⟨N, hN⟩ : ∃ N, m.ss.length = N := ⟨_, rfl⟩
  have hN4 : N ≤ 4 := by rw [← hN]; exact hf.n4
  have HN : Hid (m.ss.length = N) := hN
  have HFin : Hid (∀ w', REnd w' (Up F w.heap.size) g m.turns → Chg F w w' → TurnsPost w F g m (.returned (.tuple #[])) w') := fun w' a b => ⟨rfl, a, b⟩
  clear h hf hN
  unfold ptrV
  go_enter Try.func108, Try.ntmps108
  go_wp2
  go_loopw [2, 3, 4] (fun j _ _ wr => ∃ (i : Nat) (m' : Mod), i ≤ N ∧ j = .int .i64 i ∧ m'.looks (N - i) = m.turns ∧ m'.Fit ∧ m'.ss.length = N ∧ REnd wr (Up F w.heap.size) g m' ∧ Chg F w wr) (fun j _ _ _ => N - (intOf j).toNat)
  case atStart => exact ⟨0, m, Nat.zero_le _, rfl, by rw [← HN.out]; rfl, HF0.out, HN.out, H0.out, Chg.refl _ _⟩
  case round =>
    obtain ⟨i, m', hi, rfl, hlook, hfit, hlen, hend, hch⟩ := hrel
    have HLOOK : Hid (m'.looks (N - i) = m.turns) := hlook
    have HLEN : Hid (m'.ss.length = N) := hlen
    have HFIT : Hid m'.Fit := hfit
    have HEND : Hid (REnd wr (Up F w.heap.size) g m') := hend
    have HCH : Hid (Chg F w wr) := hch
    obtain ⟨lab, vS, vC, bs, hw⟩ := hend
    have HW : Hid (REndWith wr (Up F w.heap.size) g m' lab vS vC bs) := hw
    have ht := hfit.turn
    obtain ⟨gr, off, cap, b, rfl, hcp, hb, hgr, _⟩ := hw.ptr ht
    have c10 := (re_cells hw.obj).2.2.2.2.2.1
    have c12 := (re_cells hw.obj).2.2.2.2.2.2.2.1
    have c13 := (re_cells hw.obj).2.2.2.2.2.2.2.2.1
    have c5 := (re_cells hw.obj).1
    have hzg := unfrozen hw.obj
    have hjb : m'.turn < bs.length := by rw [hw.len]; exact ht
    obtain ⟨vm, msgs, fr, hs⟩ := hw.stm m'.turn hjb
    rw [hb] at hs
    have HB : Hid (bs.getD m'.turn 0 = b) := hb
    have HS : Hid (RStmWith wr (Lab (Up F w.heap.size) lab (m'.turn + 2)) b (m'.c.weight m'.turn) (m'.at m'.turn) vm msgs fr) := hs
    have s0 := (rs_cells hs.2.1).1
    have s3 := (rs_cells hs.2.1).2.2.2.1
    have s4 := (rs_cells hs.2.1).2.2.2.2.1
    have hzb := unfrozen hs.2.1
    have hleft := hfit.left ht
    have hsm := hfit.s _ ht
    have ht4 : m'.turn ≤ 4 := by omega
    have hqn := framed_nil hs.2.2.2
    have HQN : Hid ((m'.at m'.turn).queue = [] ↔ sizes (m'.at m'.turn).queue = 0) := hqn
    clear hlook hfit hw hs hb hqn hch
    have hlen0 : (m'.ss.length : Int) = (N : Int) := by omega
    rw [hlen] at c10 ht
    clear hlen hlen0
    have hb1 : (0 : Int) ≤ (m'.turn : Int) := by omega
    have hb2 : (m'.turn : Int) < (N : Int) := by omega
    by_cases hlt : i < N
    · go_wp2
      go_quiet (fail)
      go_wp2_with fail
      refine (rleft_calls (w := wr.drewN _) (show RStm (wr.drewN _) _ b _ (m'.at m'.turn) from ⟨_, _, _, HS.out⟩) hleft).mono ?_
      rintro e w2 ⟨rfl, q2, rfl⟩
      obtain ⟨k, hk⟩ : ∃ k, N - i = k + 1 := ⟨N - i - 1, by omega⟩
      have HK : Hid (N - (i + 1) = k) := by show N - (i + 1) = k; omega
      have hlk := HLOOK.out
      rw [hk] at hlk
      have HLK : Hid (m'.looks (k + 1) = m.turns) := hlk
      have hwd : REndWith (wr.drewN (nq + q2)) (Up F w.heap.size) g m' lab (.slice (some ⟨gr, off, none⟩) m'.ss.length cap) vC bs := HW.out.bel ⟨rfl, rfl, rfl, Nat.le_refl _, fun _ _ => rfl⟩
      have HWD : Hid (REndWith (wr.drewN (nq + q2)) (Up F w.heap.size) g m' lab (.slice (some ⟨gr, off, none⟩) m'.ss.length cap) vC bs) := hwd
      have HSD : Hid (RStmWith (wr.drewN (nq + q2)) (Lab (Up F w.heap.size) lab (m'.turn + 2)) b (m'.c.weight m'.turn) (m'.at m'.turn) vm msgs fr) := HS.out
      have HCD : Hid (Chg F w (wr.drewN (nq + q2))) := HCH.out.drewN _
      clear hlk hk hwd
      by_cases hq : (m'.at m'.turn).queue = []
      · have hz : (m'.at m'.turn).left = 0 := HQN.out.1 hq
        have lz : (((m'.at m'.turn).left : Int) == 0) = true := by rw [hz]; rfl
        have HQ : Hid ((m'.at m'.turn).queue = []) := hq
        clear hq hz
        go_wp2_with fail
        have hch5 : Chg (fun k => k = b) (wr.drewN (nq + q2)) ((wr.drewN (nq + q2)).setCell ⟨b, 4, none⟩ (.int .i64 0)) := Chg.setCell _ ⟨b, 4, none⟩ _ rfl
        have h5 : REndWith ((wr.drewN (nq + q2)).setCell ⟨b, 4, none⟩ (.int .i64 0)) (Up F w.heap.size) g (m'.upd m'.turn (m'.at m'.turn).idle) lab (.slice (some ⟨gr, off, none⟩) m'.ss.length cap) vC bs := by
          refine HWD.out.setStm m'.turn hjb _ (hch5.mono (by rintro k _ rfl; exact HSD.out.1)) ?_
          rw [HB.out]
          refine ⟨vm, msgs, fr, HSD.out.turned hch5 ?_ HSD.out.2.2.1 ?_⟩
          · simp [World.setCell, World.drewN, Array.getElem?_modify, HS.out.2.1, rsCells, Stm.idle, HQ.out]
          · rw [show (m'.at m'.turn).idle.queue = (m'.at m'.turn).queue from by simp [Stm.idle, HQ.out]]
            exact HSD.out.2.2.2
        refine (rpasses_calls ⟨_, _, _, _, h5⟩ (by simpa [Mod.upd] using ht4)).mono ?_
        rintro e w6 ⟨rfl, h6, hc6⟩
        have H6 : Hid (REnd w6 (Up F w.heap.size) g (m'.upd m'.turn (m'.at m'.turn).idle).passes) := h6
        have HC6 : Hid (Chg F w w6) := (HCD.out.trans (hch5.mono (by rintro k _ rfl; exact HSD.out.1.1))).trans (hc6.mono (by rintro k _ rfl; exact HWD.out.own.1))
        clear h6 hc6 h5 hch5
        go_wp2_with fail
        go_roundw
        case rel =>
          refine ⟨i + 1, (m'.upd m'.turn (m'.at m'.turn).idle).passes, by omega, by go_num, ?_, ?_, ?_, H6.out, HC6.out⟩
          · rw [HK.out, ← HLK.out, looks_stuck (by simp [Stm.stuck, HQ.out])]
          · refine (HFIT.out.upd HFIT.out.turn ?_ ?_).passes
            · simp [Stm.idle, HQ.out]; omega
            · simp [Stm.idle, HQ.out, Stm.left]
          · show (m'.upd m'.turn _).ss.length = N
            rw [len_upd]
            exact HLEN.out
        case measure => simp [intOf]; omega
      · have hz : (m'.at m'.turn).left ≠ 0 := fun e => hq (HQN.out.2 e)
        have lz : (((m'.at m'.turn).left : Int) == 0) = false := by rw [beq_eq_false_iff_ne]; omega
        have HQ : Hid ((m'.at m'.turn).queue ≠ []) := hq
        clear hq hz
        by_cases hc0 : (m'.at m'.turn).credit = 0
        · have HC0 : Hid ((m'.at m'.turn).credit = 0) := hc0
          rw [hc0] at s3
          clear hc0
          go_wp2_with fail
          refine (rpasses_calls ⟨_, _, _, _, HWD.out⟩ ht4).mono ?_
          rintro e w6 ⟨rfl, h6, hc6⟩
          have H6 : Hid (REnd w6 (Up F w.heap.size) g m'.passes) := h6
          have HC6 : Hid (Chg F w w6) := HCD.out.trans (hc6.mono (by rintro k _ rfl; exact HWD.out.own.1))
          clear h6 hc6
          go_wp2_with fail
          go_roundw
          case rel =>
            refine ⟨i + 1, m'.passes, by omega, by go_num, ?_, HFIT.out.passes, HLEN.out, H6.out, HC6.out⟩
            rw [HK.out, ← HLK.out, looks_stuck (by simp [Stm.stuck, HC0.out])]
            rw [show (m'.at m'.turn).idle = m'.at m'.turn from by unfold Stm.idle; rw [if_neg HQ.out], upd_self]
          case measure => simp [intOf]; omega
        · have cz : (((m'.at m'.turn).credit : Int) == 0) = false := by rw [beq_eq_false_iff_ne]; omega
          have HST : Hid ((m'.at m'.turn).stuck = false) := by
            show (m'.at m'.turn).stuck = false
            unfold Stm.stuck
            have := HQ.out
            cases hqq : (m'.at m'.turn).queue with
            | nil => exact absurd hqq this
            | cons a r => simp [hc0]
          clear hc0
          obtain ⟨sh, hshe⟩ : ∃ sh, m'.c.quantum * m'.c.weight m'.turn = sh := ⟨_, rfl⟩
          have hmul : (m'.c.quantum : Int) * (m'.c.weight m'.turn : Int) = (sh : Int) := by rw [← hshe]; simp
          have hsh32 : sh ≤ 32 := by rw [← hshe]; exact Nat.mul_le_mul HFIT.out.q8 (HFIT.out.w _ HFIT.out.turn).2
          have HSHE : Hid (m'.share = sh) := hshe
          clear hshe
          cases hbg : m'.begun
          · rw [hbg] at c13
            go_wp2_with fail
            have hcall := rframed_calls HWD.out HFIT.out.n4 HFIT.out.turn ⟨by omega, by omega, by omega, hleft⟩ HQ.out HFIT.out.chunk HFIT.out.q8 (HFIT.out.w _ HFIT.out.turn).2 HFIT.out.q1 (HFIT.out.w _ HFIT.out.turn).1
            rw [HB.out] at hcall
            refine hcall.mono ?_
            rintro e w6 ⟨rfl, h6, hc6⟩
            go_wp2_with fail
            go_end0
            refine HFin.out w6 ?_ (HCD.out.trans hc6)
            rw [← HLK.out, looks_goes HST.out, begin_no hbg]
            exact h6.mono (fun k _ e => Up.le HCD.out.size e)
          · rw [hbg] at c13
            go_wp2_with fail
            go_big_region
            go_wp2_with fail
            have hch5 : Chg (fun k => k = b) wr ((wr.drewN (nq + q2 + 1)).setCell ⟨b, 4, none⟩ (.int .i64 ((m'.at m'.turn).deficit + sh))) := ⟨rfl, rfl, rfl, by simp [World.setCell, World.drewN], fun k _ hk => by simp [World.setCell, World.drewN, Array.getElem?_modify, Ne.symm hk]⟩
            have h5 : REndWith ((wr.drewN (nq + q2 + 1)).setCell ⟨b, 4, none⟩ (.int .i64 ((m'.at m'.turn).deficit + sh))) (Up F w.heap.size) g (m'.upd m'.turn { m'.at m'.turn with deficit := (m'.at m'.turn).deficit + m'.share }) lab (.slice (some ⟨gr, off, none⟩) m'.ss.length cap) vC bs := by
              refine HW.out.setStm m'.turn hjb _ (hch5.mono (by rintro k _ rfl; exact HS.out.1)) ?_
              rw [HB.out]
              refine ⟨vm, msgs, fr, HS.out.turned hch5 ?_ HS.out.2.2.1 HS.out.2.2.2⟩
              simp [World.setCell, World.drewN, Array.getElem?_modify, HS.out.2.1, rsCells, HSHE.out]
            have hch6 : Chg (fun k => k = g) ((wr.drewN (nq + q2 + 1)).setCell ⟨b, 4, none⟩ (.int .i64 ((m'.at m'.turn).deficit + sh))) (((wr.drewN (nq + q2 + 1)).setCell ⟨b, 4, none⟩ (.int .i64 ((m'.at m'.turn).deficit + sh))).setCell ⟨g, 13, none⟩ (.bool false)) := Chg.setCell _ ⟨g, 13, none⟩ _ rfl
            have h6 : REndWith (((wr.drewN (nq + q2 + 1)).setCell ⟨b, 4, none⟩ (.int .i64 ((m'.at m'.turn).deficit + sh))).setCell ⟨g, 13, none⟩ (.bool false)) (Up F w.heap.size) g (begun1 m') lab (.slice (some ⟨gr, off, none⟩) m'.ss.length cap) vC bs := by
              refine h5.setObj (begun1 m') hch6 ?_ rfl rfl rfl
              have ho5 := h5.obj
              generalize (wr.drewN (nq + q2 + 1)).setCell ⟨b, 4, none⟩ (.int .i64 ((m'.at m'.turn).deficit + sh)) = W at ho5
              simp [World.setCell, Array.getElem?_modify, ho5, reCells, begun1]
            have hat := begun1_at HFIT.out.turn
            have hcall := rframed_calls (m := begun1 m') h6 (by show (m'.upd m'.turn _).ss.length ≤ 4; rw [len_upd]; exact HFIT.out.n4) (by show m'.turn < (m'.upd m'.turn _).ss.length; rw [len_upd]; exact HFIT.out.turn) (by show ((begun1 m').at m'.turn).Small; rw [hat]; exact ⟨by show (m'.at m'.turn).credit ≤ 1000; omega, by show (m'.at m'.turn).deficit + m'.share ≤ 1000; rw [HSHE.out]; omega, by show (m'.at m'.turn).owed ≤ 1000; omega, hleft⟩)
              (by show ((begun1 m').at m'.turn).queue ≠ []; rw [hat]; exact HQ.out) HFIT.out.chunk HFIT.out.q8 (HFIT.out.w _ HFIT.out.turn).2 HFIT.out.q1 (HFIT.out.w _ HFIT.out.turn).1
            rw [show bs.getD (begun1 m').turn 0 = b from HB.out] at hcall
            refine hcall.mono ?_
            rintro e w6 ⟨rfl, k6, hc6⟩
            have hcc : Chg F w (((wr.drewN (nq + q2 + 1)).setCell ⟨b, 4, none⟩ (.int .i64 ((m'.at m'.turn).deficit + sh))).setCell ⟨g, 13, none⟩ (.bool false)) := (HCH.out.trans (hch5.mono (by rintro k _ rfl; exact HS.out.1.1))).trans (hch6.mono (by rintro k _ rfl; exact HW.out.own.1))
            have K6 : Hid (REnd w6 (Up F w.heap.size) g (begun1 m').framed) := k6.mono (fun k _ e => Up.le hcc.size e)
            have C6 : Hid (Chg F w w6) := hcc.trans hc6
            clear k6 hc6 hcc h6 hch6 h5 hch5 hcall hat
            go_wp2_with fail
            go_end0
            refine HFin.out w6 ?_ C6.out
            rw [← HLK.out, looks_goes HST.out, begin_yes hbg]
            exact K6.out
    · go_wp2
      go_end0
      have : i = N := by omega
      subst this
      have hl := HLOOK.out
      rw [Nat.sub_self] at hl
      exact HFin.out wr (by rw [← hl]; exact HEND.out) HCH.out
def ChosenPost (w : World) (F : Nat → Prop) (g : Nat) (m : Mod) (e : Ending) (w' : World) : Prop := e = .returned (.tuple #[]) ∧ RPost w F g m.chosen w'
set_option maxHeartbeats 4000000 in
set_option maxRecDepth 100000 in
/-- chosen -/
theorem rchosen_calls {w : World} {F : Nat → Prop} {g : Nat} {m : Mod} (h : REnd w F g m) (hf : m.Fit) :
    Calls Try.prog 96 #[ptrV g] w fun e w' => ChosenPost w F g m e w' := by
  have H0 : Hid (REnd w F g m) := h
  have HF : Hid m.Fit := hf
  obtain ⟨lab, vS, vC, bs, hw⟩ := h
  have HW : Hid (REndWith w F g m lab vS vC bs) := hw
  have c14 := (re_cells hw.obj).2.2.2.2.2.2.2.2.2.1
  have c15 := (re_cells hw.obj).2.2.2.2.2.2.2.2.2.2.1
  have c17 := (re_cells hw.obj).2.2.2.2.2.2.2.2.2.2.2.2
  have hz := unfrozen hw.obj
  have hmx := hw.rowC.len
  unfold maxLen at hmx
  have HOBJ : Hid (w.heap[g]? = some (.cells (reCells m vS vC) 136 (0, 0))) := hw.obj
  unfold ptrV
  cases hc : m.control with
  | nil =>
    have hC := hw.rowC
    rw [hc] at hC
    obtain ⟨a, c, rfl⟩ := hC.slice
    have HM : Hid (m.chosen = if m.died = 0 then m.turns else m) := by show m.chosen = _; unfold Mod.chosen; rw [hc]
    clear hf hw hC hmx
    simp only [List.map_nil, List.length_nil] at c14
    by_cases hd : m.died = 0
    · have HD : Hid (m.died = 0) := hd
      rw [hd] at c17
      clear hd hc
      go_enter Try.func96, Try.ntmps96
      go_wp2_with fail
      refine (rturns_calls H0.out HF.out).mono ?_
      rintro e w2 ⟨rfl, hp⟩
      have HP : Hid (RPost w F g m.turns w2) := hp
      clear hp
      go_wp2_with fail
      go_end0
      refine ⟨rfl, ?_⟩
      rw [HM.out, if_pos HD.out]
      exact HP.out
    · have HD : Hid (m.died ≠ 0) := hd
      have hd' : ((m.died : Int) == 0) = false := by rw [beq_eq_false_iff_ne]; omega
      clear hd hc
      go_enter Try.func96, Try.ntmps96
      go_wp2_with fail
      go_end0
      refine ⟨rfl, ?_⟩
      rw [HM.out, if_neg HD.out]
      exact RPost.same H0.out 0
  | cons f r =>
    have hC := hw.rowC
    rw [hc] at hC hmx
    obtain ⟨gc, oc, cc, rfl, hFc, hgc, hcc, hcm, ⟨cur, hcur⟩, hcell⟩ := hC.at (by simp)
    have f0 := hcell 0 (.string f) rfl
    have HM : Hid (m.chosen = { m with now := f, control := r }) := by show m.chosen = _; unfold Mod.chosen; rw [hc]
    have htl := hC.tail'
    simp only [List.map_cons, List.length_cons, List.length_map, Nat.add_zero] at c14 f0 hcc hmx htl
    unfold maxLen at hcm
    have HTL : Hid (QRow w (Lab F lab 0) 9 (.slice (if cc = 1 then some ⟨gc, oc, none⟩ else some ⟨gc, oc + 1, none⟩) r.length (cc - 1)) (r.map Value.string)) := htl
    have hgcg : gc ≠ g := by rintro rfl; rw [hw.obj] at hcur; simp at hcur
    clear hf hw hC hc htl hcell hcur
    by_cases hc1 : cc = 1
    · subst hc1
      obtain rfl : r = [] := List.eq_nil_of_length_eq_zero (by omega)
      go_enter Try.func96, Try.ntmps96
      go_wp2_with fail
      go_end0
      refine ⟨rfl, ?_⟩
      rw [HM.out]
      have hch : Chg (fun k => k = g) w ((w.setCell ⟨g, 15, none⟩ (.string f)).setCell ⟨g, 14, none⟩ (.slice (some ⟨gc, oc, none⟩) 0 0)) := ⟨rfl, rfl, rfl, by simp [World.setCell], fun k _ hk => by simp [World.setCell, Array.getElem?_modify, Ne.symm hk]⟩
      have h5 := HW.out.setCtl (v' := .slice (some ⟨gc, oc, none⟩) 0 0) { m with now := f, control := [] } (hch.mono (fun k _ e => Or.inl e)) (by simp [World.setCell, Array.getElem?_modify, HOBJ.out, reCells]) (HTL.out.keeps hch (by rintro k cur fz _ hk rfl; rw [HOBJ.out] at hk; simp at hk)) rfl rfl
      exact ⟨REnd.mono ⟨_, _, _, _, h5⟩ (fun _ _ e => Or.inl e), hch.mono (by rintro k _ rfl; exact HW.out.own.1)⟩
    · have htl := HTL.out
      rw [if_neg hc1] at htl
      have HTL2 : Hid (QRow w (Lab F lab 0) 9 (.slice (some ⟨gc, oc + 1, none⟩) r.length (cc - 1)) (r.map Value.string)) := htl
      clear htl
      go_enter Try.func96, Try.ntmps96
      go_wp2_with fail
      go_end0
      refine ⟨rfl, ?_⟩
      rw [HM.out]
      have hch : Chg (fun k => k = g) w ((w.setCell ⟨g, 15, none⟩ (.string f)).setCell ⟨g, 14, none⟩ (.slice (some ⟨gc, oc + 1, none⟩) r.length (cc - 1))) := ⟨rfl, rfl, rfl, by simp [World.setCell], fun k _ hk => by simp [World.setCell, Array.getElem?_modify, Ne.symm hk]⟩
      have h5 := HW.out.setCtl (v' := .slice (some ⟨gc, oc + 1, none⟩) r.length (cc - 1)) { m with now := f, control := r } (hch.mono (fun k _ e => Or.inl e)) (by simp [World.setCell, Array.getElem?_modify, HOBJ.out, reCells]) (HTL2.out.keeps hch (by rintro k cur fz _ hk rfl; rw [HOBJ.out] at hk; simp at hk)) rfl rfl
      exact ⟨REnd.mono ⟨_, _, _, _, h5⟩ (fun _ _ e => Or.inl e), hch.mono (by rintro k _ rfl; exact HW.out.own.1)⟩
end Go.Proofs.Ytnclmbolfpojoaa
