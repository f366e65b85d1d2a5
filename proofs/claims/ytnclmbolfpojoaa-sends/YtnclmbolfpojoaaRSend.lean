/-
  The reference's calls that send: what each answers, and what it leaves of an end.
-/
import Derived.Test.YtnclmbolfpojoaaRep
import Derived.Test.YtnclmbolfpojoaaRef
import Derived.WalkKit
import Derived.WalkSpells
import Derived.BigRegion
import Derived.BigQuiet
import Derived.Deep.QuietTactic
import Derived.OwnWalk
import Derived.Deep.RegionHeld3
import Derived.Deep.RegionLaw
import Derived.Deep.DrawnRows
namespace Go.Proofs.Ytnclmbolfpojoaa
open Go.RowKit
attribute [local go_sem ↓] Go.wp_at_zero Go.wp_at_succ
set_option maxHeartbeats 400000 in
set_option maxRecDepth 100000 in
/-- frame -/
theorem rframe_calls (k i : Nat) (p : ByteArray) (w : World) (hk : k < 256) (hi : i < 256) (hp : p.size < 256) :
    Calls Try.prog 95 #[.int .i64 k, .int .i64 i, .string p] w fun e w' => e = .returned (.string (frameB k i p)) ∧ Below w.heap.size w w' := by
  have c3 := conv_three
  have c1 := conv_one'
  have wk := wrap_u8 k hk
  have wi := wrap_u8 i hi
  have wp := wrap_u8 p.size hp
  go_enter Try.func95, Try.ntmps95
  go_wp2_with fail
  refine (rcheck_three k i p.size _ hk hi hp).mono ?_
  rintro e w'' ⟨rfl, rfl⟩
  have jb : Skein.crc3 k i p.size < 256 := Skein.sh8_lt _
  have wj := wrap_u8 _ jb
  go_wp2_with fail
  go_ret
  exact ⟨rfl, ((Below.refl _ _).alloc (Nat.le_refl _) _).alloc (by simp) _⟩
theorem REndWith.bel {w w1 : World} {F : Nat → Prop} {g : Nat} {m : Mod} {lab : Nat → Nat} {vS vC : Value} {bs : List Nat} (h : REndWith w F g m lab vS vC bs) (hb : Below w.heap.size w w1) : REndWith w1 F g m lab vS vC bs where
  own := h.own
  obj := (hb.block g (heap_some h.obj)).trans h.obj
  rowS := h.rowS.keeps (G := fun _ => False) (.of_below hb) (fun _ _ _ _ _ => id)
  rowC := h.rowC.keeps (G := fun _ => False) (.of_below hb) (fun _ _ _ _ _ => id)
  len := h.len
  stm := fun i hi => (h.stm i hi).keeps (G := fun _ => False) (.of_below hb) (fun _ _ => id)
/-- the stream of a number, as it lies -/
theorem REndWith.ptr {w : World} {F : Nat → Prop} {g : Nat} {m : Mod} {lab : Nat → Nat} {vS vC : Value} {bs : List Nat} (h : REndWith w F g m lab vS vC bs) {i : Nat} (hi : i < m.ss.length) :
    ∃ gr off cap b, vS = .slice (some ⟨gr, off, none⟩) m.ss.length cap ∧ w.cell? ⟨gr, off + i, none⟩ = some (.pointer (some ⟨b, 0, none⟩)) ∧ bs.getD i 0 = b ∧ gr < w.heap.size ∧ gr ≠ g := by
  have hi' : i < bs.length := by rw [h.len]; exact hi
  obtain ⟨gr, off, cap, e, hF, hg, hcap, hcm, ⟨cur, hcur⟩, hc⟩ := h.rowS.at (by rw [List.length_map]; omega)
  have := hc i _ (map_get ptrV bs i 0 hi')
  rw [List.length_map, h.len] at e
  refine ⟨gr, off, cap, _, e, this, rfl, hg, ?_⟩
  rintro rfl
  rw [h.obj] at hcur
  simp at hcur
/-- a frame more is to be sent -/
theorem ctl_put {w1 w2 w3 : World} {F : Nat → Prop} {g : Nat} {m : Mod} {lab : Nat → Nat} {vS vC v3 : Value} {bs : List Nat} {f : ByteArray} (h : REndWith w1 F g m lab vS vC bs) (hb : Below w1.heap.size w1 w2)
    (hq3 : QRow w3 (Up (Lab F lab 0) w2.heap.size) 9 v3 (m.control.map Value.string ++ [.string f])) (hc3 : Chg (fun k => Lab F lab 0 k ∧ ∃ cur fz, w2.heap[k]? = some (.cells cur 9 fz)) w2 w3) :
    REnd (w3.setCell ⟨g, 14, none⟩ v3) (Up F w1.heap.size) g (m.put f) ∧ Chg F w1 (w3.setCell ⟨g, 14, none⟩ v3) := by
  have h2 := h.bel hb
  have hg3 : w3.heap[g]? = some (.cells (reCells m vS vC) 136 (0, 0)) := hc3.keeps h2.obj (by rintro ⟨_, cur, fz, e⟩; rw [h2.obj] at e; simp at e)
  have hcs : Chg (fun k => k = g) w3 (w3.setCell ⟨g, 14, none⟩ v3) := Chg.setCell w3 ⟨g, 14, none⟩ v3 rfl
  have hc4 : Chg (fun k => k = g ∨ Lab (Up F w2.heap.size) (relab lab w2.heap.size 0) 0 k) w2 (w3.setCell ⟨g, 14, none⟩ v3) :=
    (hc3.mono (fun k hk e => .inr (lab_old hk e.1))).trans' (hcs.mono (fun k _ e => .inl e))
  have hq4 : QRow (w3.setCell ⟨g, 14, none⟩ v3) (Lab (Up F w2.heap.size) (relab lab w2.heap.size 0) 0) 9 v3 ((m.put f).control.map Value.string) := by
    have := (hq3.mono (G := Lab (Up F w2.heap.size) (relab lab w2.heap.size 0) 0) (fun k _ e => lab_new e)).keeps hcs (by rintro k cur fz _ hk rfl; rw [hg3] at hk; simp at hk)
    rw [show (m.put f).control = m.control ++ [f] from rfl, List.map_append]
    exact this
  have ho4 : (w3.setCell ⟨g, 14, none⟩ v3).heap[g]? = some (.cells (reCells (m.put f) vS v3) 136 (0, 0)) := by
    simp [World.setCell, Array.getElem?_modify, hg3, reCells, Mod.put]
  have h4 := (h2.relab 0).setCtl (m.put f) hc4 ho4 hq4 rfl rfl
  refine ⟨REnd.mono ⟨_, _, _, _, h4⟩ (fun k _ e => e.elim .inl (fun e => .inr (Nat.le_trans hb.size e))), ?_⟩
  refine (Chg.of_below hb).trans ((hc3.mono (fun k _ e => .inl e.1.1)).trans' (Chg.setCell w3 _ v3 (.inl h.own.1)))
def RErr (w : World) (F : Nat → Prop) (g : Nat) (m1 : Mod) (n : Nat) (e : Ending) (w1 : World) : Prop := e = .returned (.int .i64 n) ∧ RPost w F g m1 w1
theorem RPost.trans {w w1 w2 : World} {F : Nat → Prop} {g : Nat} {m : Mod} (hc : Chg F w w1) (hp : REnd w2 (Up F w1.heap.size) g m ∧ Chg F w1 w2) : RPost w F g m w2 :=
  ⟨hp.1.mono (fun _ _ e => e.elim Or.inl (fun e => Or.inr (Nat.le_trans hc.size e))), hc.trans' hp.2⟩
theorem RPost.same {w : World} {F : Nat → Prop} {g : Nat} {m : Mod} (h : REnd w F g m) (q : Nat) : RPost w F g m (w.drewN q) :=
  ⟨(h.keeps (G := fun _ => False) ((Chg.refl _ w).drewN q) (fun _ _ => id)).mono (fun _ _ e => .inl e), (Chg.refl F w).drewN q⟩
theorem info_str : (Try.prog.info? 9).map (fun i => (i.zero, i.size, i.bytes)) = some (some (.string ⟨#[]⟩), 1, 16) := by kernel_rfl
set_option maxHeartbeats 1000000 in
set_option maxRecDepth 100000 in
/-- Cancel -/
theorem rcancel_calls {w : World} {F : Nat → Prop} {g : Nat} {m : Mod} (h : REnd w F g m) (i : Int) (hn : m.ss.length ≤ 4) (hc : m.control.length ≤ 8000000000000) :
    Calls Try.prog 65 #[ptrV g, .int .i64 i] w fun e w' => RErr w F g (m.cancel i) (m.cancelE i) e w' := by
  have H0 : Hid (REnd w F g m) := h
  obtain ⟨lab, vS, vC, bs, h⟩ := h
  have H : Hid (REndWith w F g m lab vS vC bs) := h
  obtain ⟨_, _, _, _, _, c10, _, _, _, c14, _, _, c17⟩ := re_cells h.obj
  clear h
  unfold ptrV
  by_cases hd : m.died = 0
  · by_cases hi : m.is i = true
    · obtain ⟨j, rfl, hj⟩ : ∃ j : Nat, i = j ∧ j < m.ss.length := by
        unfold Mod.is at hi
        simp at hi
        exact ⟨i.toNat, by omega, by omega⟩
      obtain ⟨gr, off, cap, b, rfl, hcp, hb, hgr, _⟩ := H.out.ptr hj
      have hjb : j < bs.length := by rw [H.out.len]; exact hj
      have hst := H.out.stm j hjb
      rw [hb] at hst
      have HST : Hid (RStm w (Lab F lab (j + 2)) b (m.c.weight j) (m.at j)) := hst
      have HB : Hid (bs.getD j 0 = b) := hb
      obtain ⟨vm, msgs, fr, hsb, hsobj, _⟩ := hst
      obtain ⟨_, _, _, _, _, _, s6, _⟩ := rs_cells hsobj
      clear hb
      have hj0 : (0 : Int) ≤ (j : Int) := by omega
      have hj1 : (j : Int) < (m.ss.length : Int) := by omega
      have hd17 := c17
      rw [hd] at c17
      by_cases hns : (m.at j).noSend = true
      · have hE : m.cancelE j = 5 := by unfold Mod.cancelE; rw [if_neg (by simpa using hd), if_neg (by simpa using hi), if_pos (by simpa using hns)]
        have hM : m.cancel j = m := by unfold Mod.cancel; rw [hE]; rfl
        rw [hE, hM]
        rw [hns] at s6
        go_enter Try.func65, Try.ntmps65
        go_wp2_with fail
        refine (ris_calls H0.out j).mono ?_
        rintro e w' ⟨rfl, rfl⟩
        go_wp2
        go_ret
        exact ⟨rfl, RPost.same H0.out 0⟩
      · have hE : m.cancelE j = 0 := by unfold Mod.cancelE; rw [if_neg (by simpa using hd), if_neg (by simpa using hi), if_neg (by simpa using hns)]
        have hM : m.cancel j = (m.upd j (m.at j).silent).put (frameB 3 j noB) := by unfold Mod.cancel; rw [hE, if_pos rfl]; rfl
        rw [hE, hM]
        have hns' : (m.at j).noSend = false := by simpa using hns
        rw [hns'] at s6
        obtain ⟨i9, hi9, hz9, hs9, hb9⟩ := info_parts info_str
        go_enter Try.func65, Try.ntmps65
        go_wp2_with fail
        refine (ris_calls H0.out j).mono ?_
        rintro e w' ⟨rfl, rfl⟩
        go_wp2_with fail
        refine (rsilent_calls HST.out).mono ?_
        rintro e w1 ⟨rfl, hst1, hch1⟩
        have hch1' : Chg (Lab F lab (j + 2)) w' w1 := hch1.mono (fun k _ e => by rw [e]; exact hsb)
        have h1 : REndWith w1 F g (m.upd j (m.at j).silent) lab _ vC bs := H.out.setStm j hjb _ hch1' (by rw [HB.out]; exact hst1)
        have H1 : Hid (REndWith w1 F g (m.upd j (m.at j).silent) lab (.slice (some ⟨gr, off, none⟩) m.ss.length cap) vC bs) := h1
        have hq1 : QRow w1 (Lab F lab 0) 9 vC (m.control.map Value.string) := h1.rowC
        have HCH : Hid (Chg F w' w1) := hch1'.mono (fun k _ e => e.1)
        have HQ1 : Hid (QRow w1 (Lab F lab 0) 9 vC (m.control.map Value.string)) := hq1
        obtain ⟨aC, cC, rfl⟩ := hq1.slice
        have hglt : g < w1.heap.size := heap_some h1.obj
        have hfz := unfrozen h1.obj 14
        have d14 := (re_cells h1.obj).2.2.2.2.2.2.2.2.2.1
        rw [List.length_map] at d14 hq1
        have HQ2 : Hid (QRow w1 (Lab F lab 0) 9 (.slice aC m.control.length cC) (m.control.map Value.string)) := hq1
        have hobj := h1.obj
        rw [List.length_map] at hobj
        have HOBJ : Hid (w1.heap[g]? = some (.cells (reCells (m.upd j (m.at j).silent) (.slice (some ⟨gr, off, none⟩) m.ss.length cap) (.slice aC m.control.length cC)) 136 (0, 0))) := hobj
        clear hobj
        clear hst1 hch1 hch1' h1 hq1 hsobj hsb c10 c14 s6 hcp c17 hd17 HQ1
        have hj256 : j < 256 := by omega
        go_wp2_with fail
        go_region_law
          (first
            | (go_simp
               go_at_call 95
               refine (rframe_calls 3 j _ _ (by omega) hj256 (by simp [ByteArray.size])).mono ?_
               rintro e w2 ⟨rfl, hb2⟩
               replace hb2 : Below w1.heap.size w1 w2 := ⟨hb2.os, hb2.tape, hb2.output, hb2.size, hb2.block⟩
               have d14b : w2.cell? ⟨g, 14, none⟩ = some (.slice aC m.control.length cC) := (hb2.cell (p := ⟨g, 14, none⟩) hglt).trans d14
               have hfz2 : w2.frozen? ⟨g, 14, none⟩ = false := (World.frozen?_of_block (a := ⟨g, 14, none⟩) (hb2.block g hglt)).trans hfz
               have d14c : ∀ o, (w2.alloc o).cell? ⟨g, 14, none⟩ = some (.slice aC m.control.length cC) := fun o => (World.cell?_alloc_lt _ _ _ (Nat.lt_of_lt_of_le hglt hb2.size)).trans d14b
               dsimp only)
            | (refine step_append_q _ (by rfl) _ _ _ (by rfl) (Lab F lab 0) 9 i9 _ 16 Try.underlying27 hi9 hz9 hs9 hb9 rfl _ (m.control.map Value.string) (by rfl) ((HQ2.out.keeps (G := fun _ => False) (Chg.of_below hb2) (fun _ _ _ _ _ => id)).alloc _) ⟨w2.heap.size, 0, none⟩ 1 _ (by rfl) (Lib.cell_of_heap (heap_alloc_new w2 _) 0) (by rfl) (by rw [List.length_map]; unfold maxLen; omega) (by rw [List.length_map]; omega) ?_
               intro a3 c3 w3 hq3 hc3
               obtain ⟨hfz3, hcl3⟩ := Chg.kindAlloc HOBJ.out hb2 hc3 (by decide) 14
               replace hcl3 : w3.cell? ⟨g, 14, none⟩ = some (.slice aC m.control.length cC) := hcl3))
        all_goals go_wp2
        all_goals go_ret
        all_goals have hp := ctl_put (f := frameB 3 j noB) H1.out (hb2.alloc hb2.size _) hq3 hc3
        all_goals rw [List.length_map] at hp
        all_goals exact ⟨rfl, RPost.trans HCH.out hp⟩
    · have hE : m.cancelE i = 2 := by unfold Mod.cancelE; rw [if_neg (by simpa using hd), if_pos (by simpa using hi)]
      have hM : m.cancel i = m := by unfold Mod.cancel; rw [hE]; rfl
      rw [hE, hM]
      have hi' : m.is i = false := by simpa using hi
      rw [hd] at c17
      go_enter Try.func65, Try.ntmps65
      go_wp2_with fail
      refine (ris_calls H0.out i).mono ?_
      rintro e w' ⟨rfl, rfl⟩
      go_wp2
      go_ret
      exact ⟨rfl, RPost.same H0.out 0⟩
  · have hE : m.cancelE i = 7 := by unfold Mod.cancelE; rw [if_pos hd]
    have hM : m.cancel i = m := by unfold Mod.cancel; rw [hE]; rfl
    rw [hE, hM]
    have hd' : ((m.died : Int) != 0) = true := by rw [bne_iff_ne]; omega
    go_enter Try.func65, Try.ntmps65
    go_wp2_with fail
    refine (ris_calls H0.out i).mono ?_
    rintro e w' ⟨rfl, rfl⟩
    go_wp2
    go_ret
    exact ⟨rfl, RPost.same H0.out 0⟩
end Go.Proofs.Ytnclmbolfpojoaa
