/-
  The program's New.
-/
import Derived.Test.YtnclmbolfpojoaaPSub
namespace Go.Proofs.Ytnclmbolfpojoaa
open Go.RowKit
/-- from -/
theorem pfrom_calls (lo n hi : Int) (w : World) : Calls Try.prog 46 #[.int .i64 lo, .int .i64 n, .int .i64 hi] w fun e w' => e = .returned (.bool (inB n lo hi)) ∧ w' = w := by
  unfold inB
  by_cases h : lo ≤ n
  · go_enter Try.func46, Try.ntmps46
    go_wp2
    go_ret
    exact ⟨ret_bool (by simp [h]), rfl⟩
  · go_enter Try.func46, Try.ntmps46
    go_wp2
    go_ret
    exact ⟨ret_bool (by rw [decide_eq_false (show ¬ lo ≤ n by omega)]; rfl), rfl⟩
/-- a configuration as it is handed in -/
structure Raw where
  n : Int
  w0 : Int
  w1 : Int
  w2 : Int
  w3 : Int
  quantum : Int
  chunk : Int
  window : Int
  queue : Int
  patience : Int
def Raw.w (c : Raw) (i : Nat) : Int := match i with | 0 => c.w0 | 1 => c.w1 | 2 => c.w2 | _ => c.w3
def Raw.cells (c : Raw) : Array Value := #[.int .i64 c.n, .int .i64 c.w0, .int .i64 c.w1, .int .i64 c.w2, .int .i64 c.w3, .int .i64 c.quantum, .int .i64 c.chunk, .int .i64 c.window, .int .i64 c.queue, .int .i64 c.patience]
theorem Raw.cell (c : Raw) {i : Nat} (h : i < 4) : c.cells[1 + i]? = some (.int .i64 (c.w i)) := by
  match i, h with
  | 0, _ => rfl
  | 1, _ => rfl
  | 2, _ => rfl
  | 3, _ => rfl
def Raw.weighted (c : Raw) : Bool := (List.range c.n.toNat).all fun i => inB (c.w i) 1 4
def Raw.valid (c : Raw) : Bool := inB c.n 1 4 && c.weighted && inB c.quantum 1 8 && inB c.chunk 1 8 && inB c.window 8 250 && inB c.queue 1 600 && inB c.patience 1 9
/-- the first ones of an array of four numbers -/
theorem run_first4 (W : World) (b o N : Nat) (h : N ≤ 4) : (Instr.sliceAt 45 (.pointer (some ⟨b, o, none⟩)) none (some (.int .i64 N)) none).run Try.prog W = .ok (.slice (some ⟨b, o, none⟩) N 4) W := by
  have ha : Try.prog.arrayLen 45 = 4 := by kernel_rfl
  have he : Try.prog.elem 45 = 3 := by kernel_rfl
  have hu : Try.prog.underlying 45 = some (.array (Try.prog.arrayLen 45) (Try.prog.elem 45)) := by rw [ha, he]; exact Try.underlying45
  have hz : (sizeOf 3).run Try.prog W = .ok 1 W := by simp [go_sem]
  rw [run_sliceAt_array_h W 45 _ hu .i64 N (by omega) (by rw [ha]; omega), he, hz, ha]
  simp [Result.andThen, slicedAt, Addr.add]
set_option maxHeartbeats 2000000 in
set_option maxRecDepth 100000 in
/-- weighted -/
theorem pweighted_calls (c : Raw) (N : Nat) (hn : c.n = N) (h4 : N ≤ 4) (w : World) : Calls Try.prog 47 #[.agg c.cells] w fun e w' => e = .returned (.bool c.weighted) ∧ Below w.heap.size w w' := by
  have HW : Hid (c.weighted = (List.range N).all fun i => inB (c.w i) 1 4) := by show _ = _; unfold Raw.weighted; rw [hn]; rfl
  unfold Raw.cells
  rw [hn]
  have hsl := fun W => run_first4 W w.heap.size 1 N h4
  go_enter Try.func47, Try.ntmps47
  go_wp2
  have hob : (w.alloc (.cells c.cells 47)).heap[w.heap.size]? = some (.cells c.cells 47 (0, 0)) := heap_alloc_new w _
  have hbw : Below w.heap.size w (w.alloc (.cells c.cells 47)) := below_alloc1 w _
  have e0 : c.cells = #[.int .i64 N, .int .i64 c.w0, .int .i64 c.w1, .int .i64 c.w2, .int .i64 c.w3, .int .i64 c.quantum, .int .i64 c.chunk, .int .i64 c.window, .int .i64 c.queue, .int .i64 c.patience] := by unfold Raw.cells; rw [hn]
  rw [← e0]
  generalize w.alloc (.cells c.cells 47) = w1 at *
  have HBW := hid hbw
  have HOB := hid hob
  clear hsl e0 hbw
  go_loopw [10] (fun j wr => ∃ i : Nat, i ≤ N ∧ j = .int .i64 i ∧ (∀ k, k < i → inB (c.w k) 1 4 = true) ∧ wr = w1) (fun j _ => N - (intOf j).toNat)
  case atStart => exact ⟨0, Nat.zero_le _, rfl, fun k hk => absurd hk (by omega), rfl⟩
  case round =>
    obtain ⟨i, hi, rfl, hall, hw⟩ := hrel
    replace hw := hw.symm
    subst hw
    have HALL := hid hall
    clear hall
    by_cases hlt : i < N
    · have kw : w1.cell? ⟨w.heap.size, 1 + i, none⟩ = some (.int .i64 (c.w i)) := (Lib.cell_of_heap hob (1 + i)).trans (c.cell (by omega))
      cases bw : inB (c.w i) 1 4
      · have HBI := hid bw
        clear hob bw
        go_wp2_with (go_at_call 46; refine (pfrom_calls _ _ _ _).mono ?_; rintro e wz ⟨rfl, hz⟩; replace hz := hz.symm; subst hz; try rw [HBI.out])
        go_ret
        refine ⟨ret_bool ?_, HBW.out⟩
        rw [HW.out, eq_comm, List.all_eq_false]
        exact ⟨i, by simp; omega, by rw [HBI.out]; simp⟩
      · have HBI := hid bw
        clear hob bw
        go_wp2_with (go_at_call 46; refine (pfrom_calls _ _ _ _).mono ?_; rintro e wz ⟨rfl, hz⟩; replace hz := hz.symm; subst hz; try rw [HBI.out])
        go_roundw
        case rel => exact ⟨i + 1, by omega, by go_num, fun k hk => (if e : k = i then e ▸ HBI.out else HALL.out k (by omega)), trivial⟩
        case measure => simp [intOf]; omega
    · clear hob
      go_wp2
      go_ret
      refine ⟨ret_bool ?_, HBW.out⟩
      rw [HW.out, eq_comm, List.all_eq_true]
      intro k hk
      exact HALL.out k (by have := List.mem_range.1 hk; omega)
set_option maxHeartbeats 2000000 in
set_option maxRecDepth 100000 in
/-- Valid -/
theorem pvalid_calls (c : Raw) (w : World) : Calls Try.prog 27 #[.agg c.cells] w fun e w' => e = .returned (.bool c.valid) ∧ Below w.heap.size w w' := by
  obtain ⟨V, hV⟩ : ∃ V, c.valid = V := ⟨_, rfl⟩
  rw [hV]
  unfold Raw.valid at hV
  have HFR := hid pfrom_calls
  have hob : (w.alloc (.cells c.cells 47)).heap[w.heap.size]? = some (.cells c.cells 47 (0, 0)) := heap_alloc_new w _
  have hbw : Below w.heap.size w (w.alloc (.cells c.cells 47)) := below_alloc1 w _
  have hsz : (w.alloc (.cells c.cells 47)).heap.size = w.heap.size + 1 := World.size_alloc _ _
  cases b1 : inB c.n 1 4
  · rw [b1] at hV
    have hV' : false = V := by simpa using hV
    subst hV'
    have HBW := hid hbw
    have HB1 := hid b1
    clear hob hsz hV b1 hbw
    unfold Raw.cells at HBW ⊢
    go_enter Try.func27, Try.ntmps27
    go_wp2_with (go_at_call 46; refine (HFR.out _ _ _ _).mono ?_; rintro e wz ⟨rfl, hz⟩; replace hz := hz.symm; subst hz; rw [HB1.out])
    go_ret
    exact ⟨rfl, HBW.out⟩
  · obtain ⟨N, hn, h4⟩ : ∃ N : Nat, c.n = N ∧ N ≤ 4 := by
      unfold inB at b1
      simp at b1
      exact ⟨c.n.toNat, by omega, by omega⟩
    have HWT := hid (pweighted_calls c N hn h4 (w.alloc (.cells c.cells 47)))
    have HOB := hid hob
    have HBW := hid hbw
    have HB1 := hid b1
    rw [b1] at hV
    have HSZ := hid hsz
    clear hob hbw hsz b1 hn h4
    obtain ⟨t, ht⟩ : ∃ t, c.weighted = t := ⟨_, rfl⟩
    rw [ht] at HWT hV
    clear ht
    have HV := hid hV
    clear hV
    unfold Raw.cells at HWT HBW ⊢
    go_enter Try.func27, Try.ntmps27
    go_wp2_with fail
    refine (HFR.out _ _ _ _).mono ?_
    rintro e wz ⟨rfl, hz⟩
    subst hz
    rw [HB1.out]
    go_wp2_with fail
    refine HWT.out.mono ?_
    rintro e w2 ⟨rfl, hb2⟩
    have hb2' : Below w.heap.size w w2 := HBW.out.trans (hb2.mono (by simp))
    have hob2 : w2.heap[w.heap.size]? = some (.cells c.cells 47 (0, 0)) := (hb2.block _ (by simp)).trans HOB.out
    have HB2 := hid hb2'
    have k5 : w2.cell? ⟨w.heap.size, 5, none⟩ = some (.int .i64 c.quantum) := Lib.cell_of_heap hob2 5
    have k6 : w2.cell? ⟨w.heap.size, 6, none⟩ = some (.int .i64 c.chunk) := Lib.cell_of_heap hob2 6
    have k7 : w2.cell? ⟨w.heap.size, 7, none⟩ = some (.int .i64 c.window) := Lib.cell_of_heap hob2 7
    have k8 : w2.cell? ⟨w.heap.size, 8, none⟩ = some (.int .i64 c.queue) := Lib.cell_of_heap hob2 8
    have k9 : w2.cell? ⟨w.heap.size, 9, none⟩ = some (.int .i64 c.patience) := Lib.cell_of_heap hob2 9
    clear hob2 hb2 hb2' HOB HBW HWT
    obtain ⟨q, hq⟩ : ∃ q, inB c.quantum 1 8 = q := ⟨_, rfl⟩
    obtain ⟨h, hh⟩ : ∃ q, inB c.chunk 1 8 = q := ⟨_, rfl⟩
    obtain ⟨d, hd⟩ : ∃ q, inB c.window 8 250 = q := ⟨_, rfl⟩
    obtain ⟨u, hu⟩ : ∃ q, inB c.queue 1 600 = q := ⟨_, rfl⟩
    obtain ⟨p, hp⟩ : ∃ q, inB c.patience 1 9 = q := ⟨_, rfl⟩
    have hV := HV.out
    rw [hq, hh, hd, hu, hp] at hV
    have HV := hid hV
    have HQ := hid hq
    have HH := hid hh
    have HD := hid hd
    have HU := hid hu
    have HP := hid hp
    clear hV hq hh hd hu hp
    cases t
    · go_wp2
      go_ret
      exact ⟨ret_bool HV.out, HB2.out⟩
    cases q
    · go_wp2_with (go_at_call 46; refine (HFR.out _ _ _ _).mono ?_; rintro e wz ⟨rfl, hz⟩; replace hz := hz.symm; subst hz; rw [HQ.out])
      go_ret
      exact ⟨ret_bool HV.out, HB2.out⟩
    cases h
    · go_wp2_with (go_at_call 46; refine (HFR.out _ _ _ _).mono ?_; rintro e wz ⟨rfl, hz⟩; replace hz := hz.symm; subst hz; first | rw [HQ.out] | rw [HH.out])
      go_ret
      exact ⟨ret_bool HV.out, HB2.out⟩
    cases d
    · go_wp2_with (go_at_call 46; refine (HFR.out _ _ _ _).mono ?_; rintro e wz ⟨rfl, hz⟩; replace hz := hz.symm; subst hz; first | rw [HQ.out] | rw [HH.out] | rw [HD.out])
      go_ret
      exact ⟨ret_bool HV.out, HB2.out⟩
    cases u
    · go_wp2_with (go_at_call 46; refine (HFR.out _ _ _ _).mono ?_; rintro e wz ⟨rfl, hz⟩; replace hz := hz.symm; subst hz; first | rw [HQ.out] | rw [HH.out] | rw [HD.out] | rw [HU.out])
      go_ret
      exact ⟨ret_bool HV.out, HB2.out⟩
    cases p
    · go_wp2_with (go_at_call 46; refine (HFR.out _ _ _ _).mono ?_; rintro e wz ⟨rfl, hz⟩; replace hz := hz.symm; subst hz; first | rw [HQ.out] | rw [HH.out] | rw [HD.out] | rw [HU.out] | rw [HP.out])
      go_ret
      exact ⟨ret_bool HV.out, HB2.out⟩
    · go_wp2_with (go_at_call 46; refine (HFR.out _ _ _ _).mono ?_; rintro e wz ⟨rfl, hz⟩; replace hz := hz.symm; subst hz; first | rw [HQ.out] | rw [HH.out] | rw [HD.out] | rw [HU.out] | rw [HP.out])
      go_ret
      exact ⟨ret_bool HV.out, HB2.out⟩
/-- New of a stream -/
theorem pstream_calls (win : Nat) (w : World) : Calls Try.prog 28 #[.int .i64 win] w fun e w' => e = .returned (ptrV w.heap.size) ∧ w' = w.alloc (.cells (psCells (.slice none 0 0) (.slice none 0 0) ⟨noB, 0⟩ (Stm.fresh win)) 100) := by
  go_enter Try.func28, Try.ntmps28
  go_wp2
  go_ret
  exact ⟨rfl, rfl⟩
theorem pnew_no (c : Raw) (h : c.valid = false) (w : World) : Calls Try.prog 18 #[.agg c.cells] w fun e w' => e = .returned (.tuple #[.pointer none, .int .i64 1]) ∧ Below w.heap.size w w' := by
  have hv := pvalid_calls c (w.alloc (.cells c.cells 47))
  rw [h] at hv
  have HV := hid hv
  clear hv h
  unfold Raw.cells at HV ⊢
  go_enter Try.func18, Try.ntmps18
  go_wp2_with fail
  refine HV.out.mono ?_
  rintro e w1 ⟨rfl, hb⟩
  have HB := hid ((below_alloc1 w _).trans (hb.mono (by simp)))
  clear hb
  go_wp2
  go_ret2
  exact ⟨rfl, HB.out⟩
def Cfg.rawc (c : Cfg) : Raw := ⟨c.n, c.w0, c.w1, c.w2, c.w3, c.quantum, c.chunk, c.window, c.queue, c.patience⟩
theorem Cfg.rawc_w (c : Cfg) (i : Nat) : c.rawc.w i = c.raw i := by
  match i with
  | 0 => rfl
  | 1 => rfl
  | 2 => rfl
  | _ + 3 => rfl
theorem Cfg.Ok.valid {c : Cfg} (h : c.Ok) : c.rawc.valid = true := by
  have hw : c.rawc.weighted = true := by
    unfold Raw.weighted
    rw [List.all_eq_true]
    intro i hi
    have hi' : i < c.n := List.mem_range.1 hi
    have h1 := raw_of_ok h hi'
    have h2 := h.w i hi'
    rw [c.rawc_w, h1]
    unfold inB
    simp
    omega
  have e : ∀ (a b d : Nat), b ≤ a → a ≤ d → inB (a : Int) b d = true := by
    intro a b d h1 h2
    unfold inB
    simp
    omega
  unfold Raw.valid
  rw [hw]
  have a1 := e c.n 1 4 h.n1 h.n4
  have a2 := e c.quantum 1 8 h.q1 h.q8
  have a3 := e c.chunk 1 8 h.c1 h.c8
  have a4 := e c.window 8 250 h.win8 h.win250
  have a5 := e c.queue 1 600 h.qu1 h.qu600
  have a6 := e c.patience 1 9 h.p1 h.p9
  show (inB (c.n : Int) 1 4 && true && inB (c.quantum : Int) 1 8 && inB (c.chunk : Int) 1 8 && inB (c.window : Int) 8 250 && inB (c.queue : Int) 1 600 && inB (c.patience : Int) 1 9) = true
  rw [show inB (c.n : Int) 1 4 = true from a1, show inB (c.quantum : Int) 1 8 = true from a2, show inB (c.chunk : Int) 1 8 = true from a3, show inB (c.window : Int) 8 250 = true from a4, show inB (c.queue : Int) 1 600 = true from a5, show inB (c.patience : Int) 1 9 = true from a6]
  rfl
theorem cell_setMap (W : World) (gm : Nat) (o : Obj) (a : Addr) (h : a.block ≠ gm) : ({ W with heap := W.heap.setIfInBounds gm o } : World).cell? a = W.cell? a :=
  World.cell?_of_block (by show (W.heap.setIfInBounds gm o)[a.block]? = _; rw [Array.getElem?_setIfInBounds, if_neg (fun e => h e.symm)])
def stm0 (c : Cfg) : Array Value := psCells (.slice none 0 0) (.slice none 0 0) ⟨noB, 0⟩ (Stm.fresh c.window)
/-- New under way -/
structure NewAt (c : Cfg) (w : World) (gm i : Nat) (bs : List Nat) (wr : World) : Prop where
  len : bs.length = i
  box : wr.heap[w.heap.size]? = some (.cells (cfgCells c) 47 (0, 0))
  obj : wr.heap[gm + 1]? = some (.cells (peCells (Mod.fresh c) (.map (some gm)) (.slice none 0 0) (.slice none 0 0)) 72 (0, 0))
  map : wr.heap[gm]? = some (.map (ents bs 0).toArray bs.length)
  stm : ∀ k, k < i → wr.heap[bs.getD k 0]? = some (.cells (stm0 c) 100 (0, 0))
  nodup : ∀ j k, j < i → k < i → bs.getD j 0 = bs.getD k 0 → j = k
  big : ∀ k, k < i → w.heap.size ≤ bs.getD k 0
  gmb : w.heap.size ≤ gm
  bel : Below w.heap.size w wr
theorem NewAt.step {c : Cfg} {w wr W : World} {gm i : Nat} {bs : List Nat} (h : NewAt c w gm i bs wr) (hb : Below wr.heap.size wr W) (hs : W.heap[wr.heap.size]? = some (.cells (stm0 c) 100 (0, 0))) :
    NewAt c w gm (i + 1) (bs ++ [wr.heap.size]) { W with heap := W.heap.setIfInBounds gm (.map (ents (bs ++ [wr.heap.size]) 0).toArray (bs ++ [wr.heap.size]).length) } := by
  have hg := heap_some h.map
  have hgW : gm < W.heap.size := Nat.lt_of_lt_of_le hg hb.size
  have hk : ∀ {k o}, W.heap[k]? = some o → k ≠ gm → (W.heap.setIfInBounds gm (.map (ents (bs ++ [wr.heap.size]) 0).toArray (bs ++ [wr.heap.size]).length))[k]? = some o := by
    intro k o ho hne
    rw [Array.getElem?_setIfInBounds, if_neg (fun e => hne e.symm)]
    exact ho
  have ho : ∀ {k o}, wr.heap[k]? = some o → W.heap[k]? = some o := fun e => (hb.block _ (heap_some e)).trans e
  have hmap : ∀ {k cs T fz}, wr.heap[k]? = some (.cells cs T fz) → k ≠ gm := by
    rintro k cs T fz e rfl
    rw [h.map] at e
    simp at e
  have hget : ∀ k, k < i → (bs ++ [wr.heap.size]).getD k 0 = bs.getD k 0 := by
    intro k hk
    rw [List.getD_eq_getElem?_getD, List.getElem?_append_left (by rw [h.len]; exact hk), ← List.getD_eq_getElem?_getD]
  have hlast : (bs ++ [wr.heap.size]).getD i 0 = wr.heap.size := by
    rw [List.getD_eq_getElem?_getD, List.getElem?_append_right (by rw [h.len]; exact Nat.le_refl _), h.len]
    simp
  refine ⟨by simp [h.len], hk (ho h.box) (hmap h.box), hk (ho h.obj) (hmap h.obj), ?_, ?_, ?_, ?_, h.gmb, ?_⟩
  · show (W.heap.setIfInBounds gm _)[gm]? = _
    rw [Array.getElem?_setIfInBounds, if_pos rfl, if_pos hgW]
  · intro k hlt
    by_cases e : k < i
    · rw [hget k e]
      exact hk (ho (h.stm k e)) (hmap (h.stm k e))
    · obtain rfl : k = i := by omega
      rw [hlast]
      exact hk hs (by omega)
  · intro j k hj hk' he
    by_cases e1 : j < i
    · by_cases e2 : k < i
      · rw [hget j e1, hget k e2] at he
        exact h.nodup j k e1 e2 he
      · obtain rfl : k = i := by omega
        rw [hget j e1, hlast] at he
        have := heap_some (h.stm j e1)
        omega
    · obtain rfl : j = i := by omega
      by_cases e2 : k < j
      · rw [hget k e2, hlast] at he
        have := heap_some (h.stm k e2)
        omega
      · omega
  · intro k hlt
    by_cases e : k < i
    · rw [hget k e]; exact h.big k e
    · obtain rfl : k = i := by omega
      rw [hlast]; exact h.bel.size
  · have h1 := h.bel.trans (hb.mono h.bel.size)
    exact ⟨h1.os, h1.tape, h1.output, by simpa using h1.size, fun k hlt => by
      show (W.heap.setIfInBounds gm _)[k]? = _
      rw [Array.getElem?_setIfInBounds, if_neg (by have := h.gmb; omega)]
      exact h1.block k hlt⟩
open Classical in
theorem NewAt.done {c : Cfg} {w wr : World} {gm : Nat} {bs : List Nat} (h : NewAt c w gm c.n bs wr) : PEnd wr (fun k => w.heap.size ≤ k) (gm + 1) (Mod.fresh c) := by
  obtain ⟨lab, hlab⟩ : ∃ lab : Nat → Nat, lab = fun x => if hx : ∃ k, k < c.n ∧ bs.getD k 0 = x then 2 * Classical.choose hx + 3 else 0 := ⟨_, rfl⟩
  have h0 : ∀ x, (∀ k, k < c.n → bs.getD k 0 ≠ x) → lab x = 0 := by
    intro x hx
    rw [hlab]
    simp only
    rw [dif_neg (by rintro ⟨k, h1, h2⟩; exact hx k h1 h2)]
  have h1 : ∀ k, k < c.n → lab (bs.getD k 0) = 2 * k + 3 := by
    intro k hk
    rw [hlab]
    simp only
    have hx : ∃ j, j < c.n ∧ bs.getD j 0 = bs.getD k 0 := ⟨k, hk, rfl⟩
    rw [dif_pos hx]
    have := Classical.choose_spec hx
    rw [h.nodup _ _ this.1 hk this.2]
  refine ⟨lab, gm, .slice none 0 0, .slice none 0 0, bs, ⟨Nat.le_succ_of_le h.gmb, h0 _ ?_⟩, ⟨h.gmb, h0 _ ?_⟩, h.obj, h.map, QRow.nil _ _ _, QRow.nil _ _ _, by rw [h.len]; simp [Mod.fresh], by simp [Mod.fresh], fun i hi => ?_, fun _ i hi _ => ?_⟩
  · intro k hk e
    have := h.stm k hk
    rw [e, h.obj] at this
    simp at this
  · intro k hk e
    have := h.stm k hk
    rw [e, h.map] at this
    simp at this
  · rw [h.len] at hi
    have e : (Mod.fresh c).flow i = Stm.fresh c.window := by
      show (Mod.fresh c).at i = _
      exact fresh_at c hi
    rw [e]
    exact ⟨.slice none 0 0, .slice none 0 0, [], ⟨noB, 0⟩, ⟨h.big i hi, h1 i hi⟩, h.stm i hi, QRow.nil _ _ _, QRow.nil _ _ _, Came.no⟩
  · rw [h.len] at hi
    rw [fresh_at c hi]
    rfl
set_option maxHeartbeats 2000000 in
set_option maxRecDepth 100000 in
/-- New -/
theorem pnew_calls (c : Cfg) (hc : c.Ok) (w : World) : Calls Try.prog 18 #[.agg (cfgCells c)] w fun e w' => ∃ g, e = .returned (.tuple #[ptrV g, .int .i64 0]) ∧ PEnd w' (fun k => w.heap.size ≤ k) g (Mod.fresh c) ∧ Below w.heap.size w w' := by
  have hv := pvalid_calls c.rawc (w.alloc (.cells (cfgCells c) 47))
  rw [hc.valid] at hv
  have HV := hid hv
  have HOB : Hid ((w.alloc (.cells (cfgCells c) 47)).heap[w.heap.size]? = some (.cells (cfgCells c) 47 (0, 0))) := heap_alloc_new w _
  have hn4 := hc.n4
  clear hv hc
  unfold Raw.cells Cfg.rawc at HV
  unfold cfgCells at HV ⊢
  go_enter Try.func18, Try.ntmps18
  go_wp2_with fail
  refine HV.out.mono ?_
  rintro e w1 ⟨rfl, hb⟩
  have hbw : Below w.heap.size w w1 := (below_alloc1 w _).trans (hb.mono (by simp))
  have hob : w1.heap[w.heap.size]? = some (.cells (cfgCells c) 47 (0, 0)) := (hb.block _ (by simp)).trans HOB.out
  have k0 : w1.cell? ⟨w.heap.size, 0, none⟩ = some (.int .i64 c.n) := Lib.cell_of_heap hob 0
  have k1 : w1.cell? ⟨w.heap.size, 1, none⟩ = some (.int .i64 c.w0) := Lib.cell_of_heap hob 1
  have k2 : w1.cell? ⟨w.heap.size, 2, none⟩ = some (.int .i64 c.w1) := Lib.cell_of_heap hob 2
  have k3 : w1.cell? ⟨w.heap.size, 3, none⟩ = some (.int .i64 c.w2) := Lib.cell_of_heap hob 3
  have k4 : w1.cell? ⟨w.heap.size, 4, none⟩ = some (.int .i64 c.w3) := Lib.cell_of_heap hob 4
  have k5 : w1.cell? ⟨w.heap.size, 5, none⟩ = some (.int .i64 c.quantum) := Lib.cell_of_heap hob 5
  have k6 : w1.cell? ⟨w.heap.size, 6, none⟩ = some (.int .i64 c.chunk) := Lib.cell_of_heap hob 6
  have k7 : w1.cell? ⟨w.heap.size, 7, none⟩ = some (.int .i64 c.window) := Lib.cell_of_heap hob 7
  have k8 : w1.cell? ⟨w.heap.size, 8, none⟩ = some (.int .i64 c.queue) := Lib.cell_of_heap hob 8
  have k9 : w1.cell? ⟨w.heap.size, 9, none⟩ = some (.int .i64 c.patience) := Lib.cell_of_heap hob 9
  have HBW := hid hbw
  have HOB1 := hid hob
  clear hb hbw hob HOB HV
  have hmm := @run_makeMap Try.prog
  have hlw := heap_some HOB1.out
  have d0 : ∀ o1 o2, ((w1.alloc o1).alloc o2).cell? ⟨w.heap.size, 0, none⟩ = some (.int .i64 c.n) := fun o1 o2 => (World.cell?_alloc_lt _ _ _ (by simp; omega)).trans ((World.cell?_alloc_lt _ _ _ hlw).trans k0)
  go_wp2
  have hst : NewAt c w w1.heap.size 0 [] ((w1.alloc (.map #[] 0)).alloc (.cells (peCells (Mod.fresh c) (.map (some w1.heap.size)) (.slice none 0 0) (.slice none 0 0)) 72)) := by
    have hb1 : Below w1.heap.size w1 ((w1.alloc (.map #[] 0)).alloc (.cells (peCells (Mod.fresh c) (.map (some w1.heap.size)) (.slice none 0 0) (.slice none 0 0)) 72)) := (below_alloc1 w1 _).alloc (by simp) _
    refine ⟨rfl, (hb1.block _ (heap_some HOB1.out)).trans HOB1.out, ?_, ?_, fun k hk => absurd hk (by omega), fun j k hj => absurd hj (by omega), fun k hk => absurd hk (by omega), HBW.out.size, HBW.out.trans (hb1.mono HBW.out.size)⟩
    · have := heap_alloc_new (w1.alloc (.map #[] 0)) (.cells (peCells (Mod.fresh c) (.map (some w1.heap.size)) (.slice none 0 0) (.slice none 0 0)) 72)
      simpa using this
    · rw [Below.heap_alloc _ _ _ (by simp)]
      exact heap_alloc_new w1 _
  have HST := hid hst
  clear hst k0 k1 k2 k3 k4 k5 k6 k7 k8 k9 HOB1 HBW hmm d0
  go_loopw [5, 15] (fun _ j wr => ∃ (i : Nat) (bs : List Nat), i ≤ c.n ∧ j = .int .i64 i ∧ NewAt c w w1.heap.size i bs wr) (fun _ j _ => c.n - (intOf j).toNat)
  case atStart => exact ⟨0, [], Nat.zero_le _, rfl, HST.out⟩
  case round =>
    obtain ⟨i, bs, hi, rfl, hN⟩ := hrel
    have HN := hid hN
    by_cases hlt : i < c.n
    · have k7 : wr.cell? ⟨w.heap.size, 7, none⟩ = some (.int .i64 c.window) := Lib.cell_of_heap hN.box 7
      have k10 : wr.cell? ⟨w1.heap.size + 1, 10, none⟩ = some (.map (some w1.heap.size)) := Lib.cell_of_heap hN.obj 10
      have hl1 := heap_some hN.box
      have hl2 := heap_some hN.obj
      clear hN
      go_wp2
      go_region_held3 (fun w' => w'.cell? ⟨w.heap.size, 7, none⟩ = some (.int .i64 c.window) ∧ w'.cell? ⟨w1.heap.size + 1, 10, none⟩ = some (.map (some w1.heap.size)))
        (first
          | (go_keep; done)
          | exact ⟨x7, x10⟩
          | exact xm _)
        (first
          | (go_at_call 28
             refine (pstream_calls c.window _).mono ?_
             rintro e w2 ⟨rfl, hw2⟩
             have hb2 : Below wr.heap.size wr w2 := by rw [hw2]; exact (Below.refl _ wr).drew.alloc (Nat.le_refl _) _
             have hs2 : w2.heap[wr.heap.size]? = some (.cells (stm0 c) 100 (0, 0)) := by rw [hw2]; exact heap_alloc_new wr.drew _
             have x7 : w2.cell? ⟨w.heap.size, 7, none⟩ = some (.int .i64 c.window) := (hb2.cell (p := ⟨w.heap.size, 7, none⟩) hl1).trans k7
             have x10 : w2.cell? ⟨w1.heap.size + 1, 10, none⟩ = some (.map (some w1.heap.size)) := (hb2.cell (p := ⟨w1.heap.size + 1, 10, none⟩) hl2).trans k10
             have hmu := run_mapUpdate_stm (bs := bs) ((hb2.block _ (heap_some HN.out.map)).trans HN.out.map) wr.heap.size
             rw [HN.out.len] at hmu
             have xm : ∀ o, ({ w2 with heap := w2.heap.setIfInBounds w1.heap.size o } : World).cell? ⟨w.heap.size, 7, none⟩ = some (.int .i64 c.window) ∧ ({ w2 with heap := w2.heap.setIfInBounds w1.heap.size o } : World).cell? ⟨w1.heap.size + 1, 10, none⟩ = some (.map (some w1.heap.size)) := fun o => ⟨(cell_setMap w2 _ _ _ (by simp only; omega)).trans x7, (cell_setMap w2 _ _ _ (by simp only; omega)).trans x10⟩
             clear hw2))
      have hstep := hid (HN.out.step hb2 hs2)
      clear hb2 hs2 x7 x10 hmu xm
      go_wp2
      go_roundw
      case rel =>
        refine ⟨i + 1, bs ++ [wr.heap.size], by omega, by go_num, ?_⟩
        have := hstep.out
        rw [List.length_append, List.length_singleton] at this
        exact this
      case measure => simp [intOf]; omega
    · go_wp2
      go_ret2
      have : i = c.n := by omega
      subst this
      exact ⟨w1.heap.size + 1, rfl, HN.out.done, HN.out.bel⟩
end Go.Proofs.Ytnclmbolfpojoaa
