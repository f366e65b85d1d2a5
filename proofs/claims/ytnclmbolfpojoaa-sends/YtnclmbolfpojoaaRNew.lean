/-
  The reference's New.
-/
import Derived.Test.YtnclmbolfpojoaaRFlow
namespace Go.Proofs.Ytnclmbolfpojoaa
open Go.RowKit
attribute [local go_sem ↓] Go.wp_at_zero Go.wp_at_succ
theorem rin_calls (n lo hi : Int) (w : World) : Calls Try.prog 81 #[.int .i64 n, .int .i64 lo, .int .i64 hi] w fun e w' => e = .returned (.bool (inB n lo hi)) ∧ w' = w := by
  unfold inB
  by_cases h : lo ≤ n
  · go_enter Try.func81, Try.ntmps81
    go_wp2
    go_ret
    exact ⟨ret_bool (by simp [h]), rfl⟩
  · go_enter Try.func81, Try.ntmps81
    go_wp2
    go_ret
    exact ⟨ret_bool (by rw [decide_eq_false (show ¬ lo ≤ n by omega)]; rfl), rfl⟩
/-- a stream more -/
theorem new_put {w w2 w3 : World} {F : Nat → Prop} {g b : Nat} {c : Cfg} {i : Nat} {lab : Nat → Nat} {vS vC v3 : Value} {bs : List Nat} (h : REndWith w F g (newTo c i) lab vS vC bs) (hF : ∀ k, F k → k < w.heap.size) (hb : Below w.heap.size w w2) (hbn : w.heap.size ≤ b)
    (hob : w2.heap[b]? = some (.cells (rsCells (c.weight i) (.slice none 0 0) 0 (Stm.fresh c.window)) 139 (0, 0)))
    (hq3 : QRow w3 (Up (Lab F lab 1) w2.heap.size) 137 v3 (bs.map ptrV ++ [ptrV b])) (hc3 : Chg (fun k => Lab F lab 1 k ∧ ∃ cur fz, w2.heap[k]? = some (.cells cur 137 fz)) w2 w3) :
    REnd (w3.setCell ⟨g, 10, none⟩ v3) (Up F w.heap.size) g (newTo c (i + 1)) := by
  have hblt := heap_some hob
  have h2 := (h.bel hb).relab 1
  have hg2 : w2.heap[g]? = some (.cells (reCells (newTo c i) vS vC) 136 (0, 0)) := h2.obj
  have hg3 := hc3.kind hg2 (by decide)
  have hb3 := hc3.kind hob (by decide)
  have hbg : b ≠ g := by rintro rfl; rw [hg2] at hob; simp at hob
  obtain ⟨L, hL⟩ : ∃ L : Nat → Nat, L = fun k => if k < w.heap.size then lab k else if k < w2.heap.size then i + 2 else 1 := ⟨_, rfl⟩
  have hLo : ∀ {j k}, k < w.heap.size → Lab F lab j k → Lab (Up F w.heap.size) L j k := by
    intro j k hk e
    exact ⟨.inl e.1, by rw [hL]; simp only; rw [if_pos hk]; exact e.2⟩
  have hcs : Chg (fun k => k = g) w3 (w3.setCell ⟨g, 10, none⟩ v3) := Chg.setCell w3 ⟨g, 10, none⟩ v3 rfl
  have hbl : bs.length = i := by rw [h.len]; simp [newTo]
  -- what was there below w
  have keepB : ∀ {k o}, w.heap[k]? = some o → (∀ cur fz, o ≠ .cells cur 137 fz) → k ≠ g → (w3.setCell ⟨g, 10, none⟩ v3).heap[k]? = some o := by
    intro k o hk hne hkg
    have e2 : w2.heap[k]? = some o := (hb.block k (heap_some hk)).trans hk
    exact hcs.keeps (hc3.keeps e2 (by rintro ⟨_, cur, fz, e⟩; rw [e2] at e; injection e with e; exact hne cur fz e)) hkg
  have keepS : ∀ j, j < i → RStm (w3.setCell ⟨g, 10, none⟩ v3) (Lab (Up F w.heap.size) L (j + 2)) (bs.getD j 0) (c.weight j) (Stm.fresh c.window) := by
    intro j hj
    have := h.stm j (by omega)
    rw [newTo_at c hj] at this
    obtain ⟨vm, msgs, fr, q1, q2, q3, q4⟩ := this
    refine ⟨vm, msgs, fr, hLo (heap_some q2) q1, keepB q2 (by intro cur fz e; injection e with _ e; exact absurd e (by decide)) (by intro e; exact h.own.ne (by omega) (e ▸ q1)), ?_, q4⟩
    refine q3.imp id ?_
    rintro ⟨g', off, cap, cur, e1, e2, e3, e4⟩
    exact ⟨g', off, cap, cur, e1, hLo (heap_some e3) e2, keepB e3 (by intro cur fz e; injection e with _ e; exact absurd e (by decide)) (by intro e; exact h.own.ne (by omega) (e ▸ e2)), e4⟩
  refine ⟨L, v3, vC, bs ++ [b], ?_, ?_, ?_, ?_, ?_, ?_⟩
  · exact hLo (heap_some h.obj) h.own
  · simp [World.setCell, Array.getElem?_modify, hg3, reCells, newTo]
  · rw [List.map_append]
    refine (hq3.mono (G := Lab (Up F w.heap.size) L 1) ?_).keeps hcs (by rintro k cur fz _ hk rfl; rw [hg3] at hk; simp at hk)
    intro k _ e
    rcases e with e | e
    · refine ⟨.inl e.1, ?_⟩
      rw [hL]
      simp only
      rw [if_pos (hF k e.1)]
      exact e.2
    · refine ⟨.inr (Nat.le_trans hb.size e), ?_⟩
      rw [hL]
      simp only
      rw [if_neg (by have := hb.size; omega), if_neg (by omega)]
  · have : QRow w (Lab F lab 0) 9 vC [] := h.rowC
    rcases this with ⟨e1, _⟩ | ⟨g', off, cap, cur, e1, e2, e3, e4⟩
    · exact .inl ⟨e1, rfl⟩
    · exact .inr ⟨g', off, cap, cur, e1, hLo (heap_some e3) e2, keepB e3 (by intro cur fz e; injection e with _ e; exact absurd e (by decide)) (by intro e; exact h.own.ne (by omega) (e ▸ e2)), e4⟩
  · simp [newTo, hbl]
  · intro j hj
    rw [List.length_append, List.length_singleton] at hj
    by_cases e : j < i
    · rw [newTo_at c (by omega), List.getD_eq_getElem?_getD, List.getElem?_append_left (by omega), ← List.getD_eq_getElem?_getD]
      exact keepS j e
    · have ej : j = i := by omega
      subst ej
      rw [newTo_at c (by omega), List.getD_eq_getElem?_getD, List.getElem?_append_right (by omega), hbl, Nat.sub_self]
      show RStm _ _ b (c.weight j) _
      refine ⟨.slice none 0 0, [], 0, ⟨.inr hbn, ?_⟩, hcs.keeps hb3 hbg, QRow.nil _ _ _, rfl, rfl⟩
      rw [hL]
      simp only
      rw [if_neg (by omega), if_pos hblt]
theorem cfg_raw (c : Cfg) {i : Nat} (hi : i < 4) : (cfgCells c)[1 + i]? = some (.int .i64 (c.raw i)) := by
  have : i = 0 ∨ i = 1 ∨ i = 2 ∨ i = 3 := by omega
  rcases this with rfl | rfl | rfl | rfl <;> rfl
theorem two_cell (w : World) (o : Obj) (cs : Array Value) (T : TypeId) : ((w.alloc o).alloc (.cells cs T)).cell? ⟨w.heap.size + 1, 0, none⟩ = cs[0]? := by
  have h := Lib.cell_of_heap (heap_alloc_new (w.alloc o) (.cells cs T)) 0
  rw [World.size_alloc] at h
  exact h
theorem two_below (w : World) (o o2 : Obj) : Below w.heap.size w ((w.alloc o).alloc o2) := (below_alloc' w o).alloc (by simp) _
theorem two_first (w : World) (o o2 : Obj) : ((w.alloc o).alloc o2).heap[w.heap.size]? = some o := by
  rw [Below.heap_alloc _ _ _ (by simp)]
  exact heap_alloc_new w _
theorem two_below' (w : World) (o o2 : Obj) : Below w.heap.size w ((w.drew.alloc o).alloc o2) := let h := two_below w.drew o o2; ⟨h.os, h.tape, h.output, h.size, h.block⟩
theorem two_first' (w : World) (o o2 : Obj) : ((w.drew.alloc o).alloc o2).heap[w.heap.size]? = some o := two_first w.drew o o2
def NewPost (w : World) (c : Cfg) (e : Ending) (w' : World) : Prop :=
  Below w.heap.size w w' ∧ (((∀ i, i < c.n → inB (c.raw i) 1 4 = true) ∧ ∃ g, e = .returned (.tuple #[ptrV g, .int .i64 0]) ∧ REnd w' (fun k => w.heap.size ≤ k) g (Mod.fresh c)) ∨
    ((∃ i, i < c.n ∧ inB (c.raw i) 1 4 = false) ∧ e = .returned (.tuple #[.pointer none, .int .i64 1])))
theorem info_ptr : (Try.prog.info? 137).map (fun i => (i.zero, i.size, i.bytes)) = some (some (.pointer none), 1, 8) := by kernel_rfl
set_option maxHeartbeats 4000000 in
set_option maxRecDepth 100000 in
theorem rnew_part (c : Cfg) (hc : c.Part) (w : World) : Calls Try.prog 44 #[.agg (cfgCells c)] w fun e w' => NewPost w c e w' := by
  have b1 : inB c.n 1 4 = true := by unfold inB; simp; have := hc.n1; have := hc.n4; omega
  have b2 : inB c.quantum 1 8 = true := by unfold inB; simp; have := hc.q1; have := hc.q8; omega
  have b3 : inB c.chunk 1 8 = true := by unfold inB; simp; have := hc.c1; have := hc.c8; omega
  have b4 : inB c.window 8 250 = true := by unfold inB; simp; have := hc.win8; have := hc.win250; omega
  have b5 : inB c.queue 1 600 = true := by unfold inB; simp; have := hc.qu1; have := hc.qu600; omega
  have b6 : inB c.patience 1 9 = true := by unfold inB; simp; have := hc.p1; have := hc.p9; omega
  have hn4 := hc.n4
  clear hc
  unfold cfgCells
  go_enter Try.func44, Try.ntmps44
  go_wp2_with (go_at_call 81; refine (rin_calls _ _ _ _).mono ?_; rintro e w' ⟨rfl, rfl⟩)
  have hbw : Below w.heap.size w ((w.alloc (.cells (cfgCells c) 47)).alloc (.cells (reCells (newTo c 0) (.slice none 0 0) (.slice none 0 0)) 136)) := (below_alloc' w _).alloc (by simp) _
  have hcb : ((w.alloc (.cells (cfgCells c) 47)).alloc (.cells (reCells (newTo c 0) (.slice none 0 0) (.slice none 0 0)) 136)).heap[w.heap.size]? = some (.cells (cfgCells c) 47 (0, 0)) := by
    rw [Below.heap_alloc _ _ _ (by simp)]
    exact heap_alloc_new w _
  have hgo : ((w.alloc (.cells (cfgCells c) 47)).alloc (.cells (reCells (newTo c 0) (.slice none 0 0) (.slice none 0 0)) 136)).heap[w.heap.size + 1]? = some (.cells (reCells (newTo c 0) (.slice none 0 0) (.slice none 0 0)) 136 (0, 0)) := by
    have := heap_alloc_new (w.alloc (.cells (cfgCells c) 47)) (.cells (reCells (newTo c 0) (.slice none 0 0) (.slice none 0 0)) 136)
    simpa using this
  have HS : Hid (REnd ((w.alloc (.cells (cfgCells c) 47)).alloc (.cells (reCells (newTo c 0) (.slice none 0 0) (.slice none 0 0)) 136)) (fun k => w.heap.size + 1 ≤ k) (w.heap.size + 1) (newTo c 0)) :=
    ⟨fun _ => 1, .slice none 0 0, .slice none 0 0, [], ⟨Nat.le_refl _, rfl⟩, hgo, QRow.nil _ _ _, QRow.nil _ _ _, rfl, fun i hi => absurd hi (by simp)⟩
  have HB : Hid (Below w.heap.size w ((w.alloc (.cells (cfgCells c) 47)).alloc (.cells (reCells (newTo c 0) (.slice none 0 0) (.slice none 0 0)) 136))) := hbw
  have HCB : Hid (((w.alloc (.cells (cfgCells c) 47)).alloc (.cells (reCells (newTo c 0) (.slice none 0 0) (.slice none 0 0)) 136)).heap[w.heap.size]? = some (.cells (cfgCells c) 47 (0, 0))) := hcb
  clear hbw hcb hgo b1 b2 b3 b4 b5 b6
  go_loopw [11, 12] (fun j _ wr => ∃ i : Nat, i ≤ c.n ∧ j = .int .i64 i ∧ (∀ k, k < i → inB (c.raw k) 1 4 = true) ∧ REnd wr (fun k => w.heap.size + 1 ≤ k) (w.heap.size + 1) (newTo c i) ∧ wr.heap[w.heap.size]? = some (.cells (cfgCells c) 47 (0, 0)) ∧ Below w.heap.size w wr) (fun j _ _ => c.n - (intOf j).toNat)
  case atStart => exact ⟨0, Nat.zero_le _, rfl, fun k hk => absurd hk (by omega), HS.out, HCB.out, HB.out⟩
  case round =>
    obtain ⟨i, hi, rfl, hall, hend, hcc, hbel⟩ := hrel
    have HALL : Hid (∀ k, k < i → inB (c.raw k) 1 4 = true) := hall
    clear hall
    have HEND : Hid (REnd wr (fun k => w.heap.size + 1 ≤ k) (w.heap.size + 1) (newTo c i)) := hend
    have HCC : Hid (wr.heap[w.heap.size]? = some (.cells (cfgCells c) 47 (0, 0))) := hcc
    have HBEL : Hid (Below w.heap.size w wr) := hbel
    have k0 : wr.cell? ⟨w.heap.size, 0, none⟩ = some (.int .i64 c.n) := Lib.cell_of_heap hcc 0
    have k7 : wr.cell? ⟨w.heap.size, 7, none⟩ = some (.int .i64 c.window) := Lib.cell_of_heap hcc 7
    by_cases hlt : i < c.n
    · have kw0 : wr.cell? ⟨w.heap.size, 1 + i, none⟩ = some (.int .i64 (c.raw i)) := (Lib.cell_of_heap hcc (1 + i)).trans (cfg_raw c (by omega))
      have hj0 : (0 : Int) ≤ (i : Int) := by omega
      have hj1 : (i : Int) < 4 := by omega
      cases bw0 : inB (c.raw i) 1 4
      · have HBW : Hid (inB (c.raw i) 1 4 = false) := bw0
        clear hend hcc hbel
        go_wp2_with (go_at_call 81; refine (rin_calls _ _ _ _).mono ?_; rintro e wz ⟨rfl, hz⟩; replace hz := hz.symm; subst hz)
        go_ret2
        exact ⟨HBEL.out, .inr ⟨⟨i, hlt, HBW.out⟩, rfl⟩⟩
      · have hraw : c.raw i = (c.weight i : Nat) := raw_weight c i (by unfold inB at bw0; simp at bw0; omega)
        have HBW : Hid (inB (c.raw i) 1 4 = true) := bw0
        have kw := kw0
        rw [hraw] at kw
        have bw := bw0
        rw [hraw] at bw
        clear kw0 bw0 hraw
        clear hend hcc hbel
        go_wp2_with (go_at_call 81; refine (rin_calls _ _ _ _).mono ?_; rintro e wz ⟨rfl, hz⟩; replace hz := hz.symm; subst hz)
        obtain ⟨lab, vS, vC, bs, hw⟩ := HEND.out.mono (G := fun k => w.heap.size + 1 ≤ k ∧ k < wr.heap.size) (fun k hk e => ⟨e, hk⟩)
        have HW : Hid (REndWith wr (fun k => w.heap.size + 1 ≤ k ∧ k < wr.heap.size) (w.heap.size + 1) (newTo c i) lab vS vC bs) := hw
        have hbl : bs.length = i := by rw [hw.len]; simp [newTo]
        have hq := hw.rowS
        obtain ⟨aS, cS, rfl⟩ := hq.slice
        rw [List.length_map, hbl] at hq
        have c10 := (re_cells hw.obj).2.2.2.2.2.1
        rw [List.length_map, hbl] at c10
        have hgl := heap_some hw.obj
        have hfz := unfrozen hw.obj 10
        have HQ : Hid (QRow wr (Lab (fun k => w.heap.size + 1 ≤ k ∧ k < wr.heap.size) lab 1) 137 (.slice aS i cS) (bs.map ptrV)) := hq
        have HOBJ := (show Hid _ from hw.obj)
        have d10a : ∀ o, (wr.alloc o).cell? ⟨w.heap.size + 1, 10, none⟩ = some (.slice aS i cS) := fun o => (World.cell?_alloc_lt _ _ _ hgl).trans c10
        have d10b : ∀ o o2, ((wr.alloc o).alloc o2).cell? ⟨w.heap.size + 1, 10, none⟩ = some (.slice aS i cS) := fun o o2 => (World.cell?_alloc_lt _ _ _ (by simp; omega)).trans (d10a o)
        have HBS : Hid (bs.length = i) := hbl
        obtain ⟨ip, hip, hzp, hsp, hbp⟩ := info_parts info_ptr
        clear hq hw hbl
        go_region_law
          (refine step_append_q _ (by rfl) _ _ _ (by rfl) (Lab (fun k => w.heap.size + 1 ≤ k ∧ k < wr.heap.size) lab 1) 137 ip _ 8 Try.underlying134 hip hzp hsp hbp rfl _ (bs.map ptrV) (by rfl) ((HQ.out.drew.alloc _).alloc _) ⟨wr.heap.size + 1, 0, none⟩ 1 _ (by rfl) (two_cell wr.drew _ _ _) (by rfl) (by rw [List.length_map, HBS.out]; unfold maxLen; omega) (by rw [List.length_map, HBS.out]; omega) ?_
           intro a5 c5 w5 hq5 hc5
           obtain ⟨x1, x2⟩ := hc5.kindAt ((two_below wr.drew _ _).block _ hgl |>.trans HOBJ.out) (by decide) 10
           replace x2 : w5.cell? ⟨w.heap.size + 1, 10, none⟩ = some (.slice aS (bs.map ptrV).length cS) := x2
           rw [List.length_map, HBS.out] at x2)
        all_goals go_wp2
        all_goals have hp := new_put HW.out (fun k e => e.2) (two_below' wr _ _) (Nat.le_refl _) (two_first' wr _ _) hq5 hc5
        all_goals rw [List.length_map] at hp
        all_goals have hcb5 := hc5.kind (((two_below' wr _ _).block w.heap.size (heap_some HCC.out)).trans HCC.out) (by decide)
        all_goals have hbb := HBEL.out.trans (((two_below' wr _ _).mono HBEL.out.size).trans (hc5.below (Nat.le_trans HBEL.out.size (two_below' wr _ _).size) (fun k e => Nat.le_of_succ_le e.1.1.1)))
        all_goals refine ⟨⟨i + 1, by omega, by go_num, fun k hk => ?_, ?_, ?_, ?_⟩, by simp [intOf]; omega⟩
        all_goals first
          | exact (if e : k = i then e ▸ HBW.out else HALL.out k (by omega))
          | exact hp.mono (fun k _ e => e.elim (fun e => e.1) (fun e => Nat.le_trans (Nat.le_of_lt hgl) e))
          | exact (Chg.setCell (F := fun k => k = w.heap.size + 1) w5 ⟨w.heap.size + 1, 10, none⟩ _ rfl).keeps hcb5 (by omega)
          | exact hbb.setCell (p := ⟨w.heap.size + 1, 10, none⟩) (Nat.le_succ _) _
    · clear hcc hend hbel
      go_wp2
      go_ret2
      have : i = c.n := by omega
      subst this
      exact ⟨HBEL.out, .inl ⟨HALL.out, w.heap.size + 1, rfl, HEND.out.mono (fun k _ e => Nat.le_of_succ_le e)⟩⟩
end Go.Proofs.Ytnclmbolfpojoaa
