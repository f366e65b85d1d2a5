/-
  The reference's State and Flow.
-/
import Derived.Test.YtnclmbolfpojoaaRWrt
import Derived.Handy
namespace Go.Proofs.Ytnclmbolfpojoaa
open Go.RowKit
attribute [local go_sem ↓] Go.wp_at_zero Go.wp_at_succ
def flowV (s : Stm) : Value := .agg #[.int .i64 s.credit, .int .i64 s.owed, .int .i64 s.deficit, .bool s.noSend, .bool s.noRecv]
theorem below_alloc' (w : World) (o : Obj) : Below w.heap.size w (w.alloc o) := (Below.refl _ _).alloc (Nat.le_refl _) _
set_option maxHeartbeats 2000000 in
set_option maxRecDepth 100000 in
theorem rflow_calls {w : World} {F : Nat → Prop} {g : Nat} {m : Mod} (h : REnd w F g m) (i : Int) :
    Calls Try.prog 70 #[ptrV g, .int .i64 i] w fun e w' => e = .returned (.tuple #[flowV (m.flowS i), .int .i64 (m.flowE i)]) ∧ Below w.heap.size w w' := by
  have H0 : Hid (REnd w F g m) := h
  obtain ⟨lab, vS, vC, bs, hw⟩ := h
  have HW : Hid (REndWith w F g m lab vS vC bs) := hw
  have c10 := (re_cells hw.obj).2.2.2.2.2.1
  have c17 := (re_cells hw.obj).2.2.2.2.2.2.2.2.2.2.2.2
  have hg := heap_some hw.obj
  clear hw
  unfold ptrV
  by_cases hi : m.is i = true
  · have hF : m.flowS i = m.flow i.toNat := by unfold Mod.flowS; rw [if_pos hi]
    have hE : m.flowE i = 0 := by unfold Mod.flowE; rw [if_pos hi]
    rw [hF, hE]
    clear hF hE
    by_cases hd : m.died = 0
    · obtain ⟨j, rfl, hj⟩ : ∃ j : Nat, i = j ∧ j < m.ss.length := by
        unfold Mod.is at hi
        simp at hi
        exact ⟨i.toNat, by omega, by omega⟩
      obtain ⟨gr, off, cap, b, rfl, hcp, hb, hgr, _⟩ := HW.out.ptr hj
      have hjb : j < bs.length := by rw [HW.out.len]; exact hj
      obtain ⟨vm, msgs, fr, hs⟩ := HW.out.stm j hjb
      rw [hb] at hs
      obtain ⟨-, -, -, s3, s4, s5, s6, s7, -⟩ := rs_cells hs.2.1
      have hbl := heap_some hs.2.1
      have hj0 : (0 : Int) ≤ (j : Int) := by omega
      have hj1 : (j : Int) < (m.ss.length : Int) := by omega
      have hfl : m.flow j = m.at j := by unfold Mod.flow; rw [if_neg (by simpa using hd)]
      rw [hd] at c17
      rw [Int.toNat_natCast, hfl]
      clear hs hb hd hfl
      unfold flowV
      go_enter Try.func70, Try.ntmps70
      go_wp2_with fail
      refine (ris_calls (w := w.alloc _) (H0.out.keeps (G := fun _ => False) (.alloc _ _) (fun _ _ => id)) j).mono ?_
      rintro e w2 ⟨rfl, rfl⟩
      go_wp2_with fail
      go_big_region
      go_wp2_with fail
      go_returns
      exact ⟨rfl, (below_alloc' w _).drew⟩
    · have hd' : ((m.died : Int) != 0) = true := by rw [bne_iff_ne]; omega
      have hfl : m.flow i.toNat = Stm.dead := by unfold Mod.flow; rw [if_pos hd]
      rw [hfl]
      clear hfl
      go_enter Try.func70, Try.ntmps70
      go_wp2_with fail
      refine (ris_calls (w := w.alloc _) (H0.out.keeps (G := fun _ => False) (.alloc _ _) (fun _ _ => id)) i).mono ?_
      rintro e w2 ⟨rfl, rfl⟩
      go_wp2_with fail
      go_returns
      exact ⟨rfl, below_alloc' w _⟩
  · have hF : m.flowS i = Stm.zero := by unfold Mod.flowS; rw [if_neg hi]
    have hE : m.flowE i = 2 := by unfold Mod.flowE; rw [if_neg hi]
    have hi' : m.is i = false := by simpa using hi
    rw [hF, hE]
    clear hF hE
    go_enter Try.func70, Try.ntmps70
    go_wp2_with fail
    refine (ris_calls (w := w.alloc _) (H0.out.keeps (G := fun _ => False) (.alloc _ _) (fun _ _ => id)) i).mono ?_
    rintro e w2 ⟨rfl, rfl⟩
    go_wp2_with fail
    go_returns
    exact ⟨rfl, below_alloc' w _⟩
def stateV (q h d : Nat) : Value := .agg #[.int .i64 q, .int .i64 h, .int .i64 d]
def StatePost (w : World) (m : Mod) (e : Ending) (w' : World) : Prop := e = .returned (stateV m.queued m.held m.died) ∧ Below w.heap.size w w'
set_option maxHeartbeats 2000000 in
set_option maxRecDepth 100000 in
theorem rstate_calls {w : World} {F : Nat → Prop} {g : Nat} {m : Mod} (h : REnd w F g m) (hn : m.ss.length ≤ 4) (hq : m.queued ≤ 1000000) (hh : m.held ≤ 1000000) :
    Calls Try.prog 68 #[ptrV g] w fun e w' => StatePost w m e w' := by
  have HFin : Hid (∀ w', Below w.heap.size w w' → StatePost w m (.returned (stateV m.queued m.held m.died)) w') := fun w' b => ⟨rfl, b⟩
  have H0 : Hid (REnd w F g m) := h
  obtain ⟨lab, vS, vC, bs, hw⟩ := h
  have HS : Hid (∀ i, i < bs.length → RStm w (Lab F lab (i + 2)) (bs.getD i 0) (m.c.weight i) (m.at i)) := hw.stm
  have HQ : Hid (QRow w (Lab F lab 1) 137 vS (bs.map ptrV)) := hw.rowS
  obtain ⟨a, c, rfl⟩ := hw.rowS.slice
  have c10 := (re_cells hw.obj).2.2.2.2.2.1
  have c17 := (re_cells hw.obj).2.2.2.2.2.2.2.2.2.2.2.2
  have HL : Hid (bs.length = m.ss.length) := hw.len
  have hb4 : bs.length ≤ 4 := by rw [hw.len]; exact hn
  have hg := heap_some hw.obj
  rw [List.length_map] at c10
  clear hw
  unfold ptrV
  go_enter Try.func68, Try.ntmps68
  go_wp2
  go_loopw [3, 4] (fun n j wr => ∃ i q : Nat, i ≤ bs.length ∧ j = .int .i64 i ∧ n = .int .i64 (sumL ((m.ss.map fun s => s.came.size).take i) : Nat) ∧ wr = (w.alloc (.cells #[.int .i64 0, .int .i64 0, .int .i64 0] 123)).drewN q) (fun _ j _ => bs.length - (intOf j).toNat)
  case atStart => exact ⟨0, 0, Nat.zero_le _, rfl, int_val (by simp [sumL]), rfl⟩
  case round =>
    obtain ⟨i, q, hi, rfl, rfl, rfl⟩ := hrel
    have hs1 : sumL ((m.ss.map fun s => s.came.size).take i) ≤ m.held := sumL_take_le _ i
    by_cases hlt : i < bs.length
    · obtain ⟨gr, off, cap, e, hF, hgr, hcap, hcm, _, hc⟩ := HQ.out.at (by rw [List.length_map]; omega)
      injection e with e1 e2 e3
      subst e1 e3
      have hci := hc i _ (map_get ptrV bs i 0 hlt)
      unfold ptrV at hci
      obtain ⟨b, hbe⟩ : ∃ b, bs.getD i 0 = b := ⟨_, rfl⟩
      have hst := HS.out i hlt
      rw [hbe] at hci hst
      obtain ⟨vm, msgs, fr, hst⟩ := hst
      have s8 := (rs_cells hst.2.1).2.2.2.2.2.2.2.2.1
      have hbl := heap_some hst.2.1
      have hi' : i < m.ss.length := by rw [← HL.out]; exact hlt
      have hsn := sumL_take_succ (m.ss.map fun s => s.came.size) i (by rw [List.length_map]; exact hi')
      rw [map_getD _ _ _ hi'] at hsn
      have hs2 : sumL ((m.ss.map fun s => s.came.size).take (i + 1)) ≤ m.held := sumL_take_le _ _
      obtain ⟨cs, hcs⟩ : ∃ cs, (m.at i).came = cs := ⟨_, rfl⟩
      rw [hcs] at s8
      have hsn' : sumL ((m.ss.map fun s => s.came.size).take (i + 1)) = sumL ((m.ss.map fun s => s.came.size).take i) + cs.size := by rw [hsn, ← hcs]; rfl
      have hle : cs.size ≤ 1000000 := by omega
      have HSN : Hid (sumL ((m.ss.map fun s => s.came.size).take (i + 1)) = sumL ((m.ss.map fun s => s.came.size).take i) + cs.size) := hsn'
      clear hc hsn hsn' hst hbe hcs hs2
      go_wp2
      go_roundw
      case rel => exact ⟨i + 1, _, by omega, by go_num, int_val (by rw [HSN.out]; omega), rfl⟩
      case measure => simp [intOf]; omega
    · have hall : (m.ss.map fun s => s.came.size).take i = m.ss.map fun s => s.came.size := List.take_of_length_le (by rw [List.length_map, ← HL.out]; omega)
      have hheld : sumL ((m.ss.map fun s => s.came.size).take i) = m.held := by rw [hall]; rfl
      rw [hheld]
      have HB : Hid (∀ q, Below w.heap.size w ((w.alloc (.cells #[.int .i64 0, .int .i64 0, .int .i64 0] 123)).drewN q)) := fun q => below_draws' (below_alloc' w _) q
      clear hall hheld hs1
      go_wp2
      go_region_held3 (fun w' => w'.cell? ⟨g, 17, none⟩ = some (.int .i64 m.died))
        (first
          | (go_keep; done)
          | exact (World.cell?_setCell_other _ _ _ _ (by simp)).trans ((World.cell?_setCell_other _ _ _ _ (by simp)).trans ((World.cell?_setCell_other _ _ _ _ (by simp)).trans ((World.cell?_alloc_lt _ _ _ hg).trans c17))))
        (first
          | (go_at_call 91
             refine (rqueued_calls (F := F) (m := m) ?_ hn hq).mono ?_
             · exact H0.out.keeps (G := fun _ => False) (.of_below (below_draws' (HB.out q) 1)) (fun _ _ => id)
             rintro e w2 ⟨rfl, q2, rfl⟩))
      go_wp2
      go_returns
      exact HFin.out _ ((((HB.out _).setCell (p := ⟨w.heap.size, 0, none⟩) (Nat.le_refl _) _).setCell (p := ⟨w.heap.size, 1, none⟩) (Nat.le_refl _) _).setCell (p := ⟨w.heap.size, 2, none⟩) (Nat.le_refl _) _)
end Go.Proofs.Ytnclmbolfpojoaa
