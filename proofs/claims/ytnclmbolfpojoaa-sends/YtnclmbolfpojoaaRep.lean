/-
  The document's end in memory: how what is kept lies there; the small functions of the reference.
-/
import Derived.Test.YtnclmbolfpojoaaBeg
import Derived.Test.YtnclmbolfpojoaaGen
import Derived.WalkKit
import Derived.WalkSpells
import Derived.BigRegion
import Derived.BigQuiet
import Derived.Deep.QuietTactic
import Derived.OwnWalk
import Derived.Deep.RegionHeld
namespace Go.Proofs.Ytnclmbolfpojoaa
open Go.RowKit
def rsCells (wt : Nat) (vm : Value) (fr : Nat) (s : Stm) : Array Value :=
  #[.int .i64 wt, vm, .int .i64 fr, .int .i64 s.credit, .int .i64 s.deficit, .int .i64 s.owed, .bool s.noSend, .bool s.noRecv, .string s.came, .int .i64 s.since, .bool s.reset, .int .i64 (boolI s.cancels), .int .i64 (boolI s.resets)]
def RStmWith (w : World) (F : Nat → Prop) (b wt : Nat) (s : Stm) (vm : Value) (msgs : List ByteArray) (fr : Nat) : Prop :=
  F b ∧ w.heap[b]? = some (.cells (rsCells wt vm fr s) 139 (0, 0)) ∧ QRow w F 9 vm (msgs.map Value.string) ∧ Framed msgs fr s.queue
def RStm (w : World) (F : Nat → Prop) (b wt : Nat) (s : Stm) : Prop := ∃ vm msgs fr, RStmWith w F b wt s vm msgs fr
def reCells (m : Mod) (vS vC : Value) : Array Value :=
  #[.int .i64 m.c.n, .int .i64 m.c.w0, .int .i64 m.c.w1, .int .i64 m.c.w2, .int .i64 m.c.w3, .int .i64 m.c.quantum, .int .i64 m.c.chunk, .int .i64 m.c.window, .int .i64 m.c.queue, .int .i64 m.c.patience,
    vS, .int .i64 m.time, .int .i64 m.turn, .bool m.begun, vC, .string m.now, .string m.inn, .int .i64 m.died]
structure REndWith (w : World) (F : Nat → Prop) (g : Nat) (m : Mod) (lab : Nat → Nat) (vS vC : Value) (bs : List Nat) : Prop where
  own : Lab F lab 1 g
  obj : w.heap[g]? = some (.cells (reCells m vS vC) 136 (0, 0))
  rowS : QRow w (Lab F lab 1) 137 vS (bs.map ptrV)
  rowC : QRow w (Lab F lab 0) 9 vC (m.control.map Value.string)
  len : bs.length = m.ss.length
  stm : ∀ i, i < bs.length → RStm w (Lab F lab (i + 2)) (bs.getD i 0) (m.c.weight i) (m.at i)
def REnd (w : World) (F : Nat → Prop) (g : Nat) (m : Mod) : Prop := ∃ lab vS vC bs, REndWith w F g m lab vS vC bs
/-- a stream is as it was where its blocks are -/
theorem RStm.keeps {w w1 : World} {F G : Nat → Prop} {b wt : Nat} {s : Stm} (h : RStm w F b wt s) (hc : Chg G w w1) (hn : ∀ k, F k → ¬ G k) : RStm w1 F b wt s := by
  obtain ⟨vm, msgs, fr, h1, h2, h3, h4⟩ := h
  exact ⟨vm, msgs, fr, h1, hc.keeps h2 (hn _ h1), h3.keeps hc (fun k _ _ hk _ => hn k hk), h4⟩
theorem RStm.mono {w : World} {F G : Nat → Prop} {b wt : Nat} {s : Stm} (h : RStm w F b wt s) (hn : ∀ k, k < w.heap.size → F k → G k) : RStm w G b wt s := by
  obtain ⟨vm, msgs, fr, h1, h2, h3, h4⟩ := h
  exact ⟨vm, msgs, fr, hn _ (heap_some h2) h1, h2, h3.mono hn, h4⟩
/-- an end is as it was where its blocks are -/
theorem REnd.keeps {w w1 : World} {F G : Nat → Prop} {g : Nat} {m : Mod} (h : REnd w F g m) (hc : Chg G w w1) (hn : ∀ k, F k → ¬ G k) : REnd w1 F g m := by
  obtain ⟨lab, vS, vC, bs, h⟩ := h
  exact ⟨lab, vS, vC, bs, h.own, hc.keeps h.obj (hn _ h.own.1), h.rowS.keeps hc (fun k _ _ hk _ => hn k hk.1), h.rowC.keeps hc (fun k _ _ hk _ => hn k hk.1), h.len, fun i hi => (h.stm i hi).keeps hc (fun k hk => hn k hk.1)⟩
theorem REnd.mono {w : World} {F G : Nat → Prop} {g : Nat} {m : Mod} (h : REnd w F g m) (hn : ∀ k, k < w.heap.size → F k → G k) : REnd w G g m := by
  obtain ⟨lab, vS, vC, bs, h⟩ := h
  exact ⟨lab, vS, vC, bs, ⟨hn _ (heap_some h.obj) h.own.1, h.own.2⟩, h.obj, h.rowS.mono (fun k hk e => ⟨hn k hk e.1, e.2⟩), h.rowC.mono (fun k hk e => ⟨hn k hk e.1, e.2⟩), h.len, fun i hi => (h.stm i hi).mono (fun k hk e => ⟨hn k hk e.1, e.2⟩)⟩
theorem rs_cells {w : World} {b wt fr : Nat} {vm : Value} {s : Stm} (h : w.heap[b]? = some (.cells (rsCells wt vm fr s) 139 (0, 0))) :
    w.cell? ⟨b, 0, none⟩ = some (.int .i64 wt) ∧ w.cell? ⟨b, 1, none⟩ = some vm ∧ w.cell? ⟨b, 2, none⟩ = some (.int .i64 fr) ∧ w.cell? ⟨b, 3, none⟩ = some (.int .i64 s.credit) ∧
    w.cell? ⟨b, 4, none⟩ = some (.int .i64 s.deficit) ∧ w.cell? ⟨b, 5, none⟩ = some (.int .i64 s.owed) ∧ w.cell? ⟨b, 6, none⟩ = some (.bool s.noSend) ∧ w.cell? ⟨b, 7, none⟩ = some (.bool s.noRecv) ∧
    w.cell? ⟨b, 8, none⟩ = some (.string s.came) ∧ w.cell? ⟨b, 9, none⟩ = some (.int .i64 s.since) ∧ w.cell? ⟨b, 10, none⟩ = some (.bool s.reset) ∧ w.cell? ⟨b, 11, none⟩ = some (.int .i64 (boolI s.cancels)) ∧ w.cell? ⟨b, 12, none⟩ = some (.int .i64 (boolI s.resets)) := by
  have c := Lib.cell_of_heap h
  exact ⟨c 0, c 1, c 2, c 3, c 4, c 5, c 6, c 7, c 8, c 9, c 10, c 11, c 12⟩
theorem re_cells {w : World} {g : Nat} {m : Mod} {vS vC : Value} (h : w.heap[g]? = some (.cells (reCells m vS vC) 136 (0, 0))) :
    w.cell? ⟨g, 5, none⟩ = some (.int .i64 m.c.quantum) ∧ w.cell? ⟨g, 6, none⟩ = some (.int .i64 m.c.chunk) ∧ w.cell? ⟨g, 7, none⟩ = some (.int .i64 m.c.window) ∧ w.cell? ⟨g, 8, none⟩ = some (.int .i64 m.c.queue) ∧ w.cell? ⟨g, 9, none⟩ = some (.int .i64 m.c.patience) ∧
    w.cell? ⟨g, 10, none⟩ = some vS ∧ w.cell? ⟨g, 11, none⟩ = some (.int .i64 m.time) ∧ w.cell? ⟨g, 12, none⟩ = some (.int .i64 m.turn) ∧ w.cell? ⟨g, 13, none⟩ = some (.bool m.begun) ∧ w.cell? ⟨g, 14, none⟩ = some vC ∧
    w.cell? ⟨g, 15, none⟩ = some (.string m.now) ∧ w.cell? ⟨g, 16, none⟩ = some (.string m.inn) ∧ w.cell? ⟨g, 17, none⟩ = some (.int .i64 m.died) := by
  have c := Lib.cell_of_heap h
  exact ⟨c 5, c 6, c 7, c 8, c 9, c 10, c 11, c 12, c 13, c 14, c 15, c 16, c 17⟩
/-- the end's own block has turned -/
theorem REndWith.setObj {w w1 : World} {F : Nat → Prop} {g : Nat} {m : Mod} {lab : Nat → Nat} {vS vC : Value} {bs : List Nat} (h : REndWith w F g m lab vS vC bs) (m1 : Mod) (hc : Chg (fun k => k = g) w w1)
    (ho : w1.heap[g]? = some (.cells (reCells m1 vS vC) 136 (0, 0))) (h1 : m1.control = m.control) (h2 : m1.ss = m.ss) (h3 : m1.c = m.c) : REndWith w1 F g m1 lab vS vC bs where
  own := h.own
  obj := ho
  rowS := h.rowS.keeps hc (by rintro k cur fz _ hk rfl; rw [h.obj] at hk; simp at hk)
  rowC := h1 ▸ h.rowC.keeps hc (by rintro k cur fz _ hk rfl; rw [h.obj] at hk; simp at hk)
  len := by rw [h2]; exact h.len
  stm := fun i hi => by
    have := (h.stm i hi).keeps hc (by rintro k hk rfl; exact h.own.ne (by omega) hk)
    unfold Mod.at at this ⊢
    rw [h2, h3]
    exact this
/-- a stream has turned -/
theorem REndWith.setStm {w w1 : World} {F : Nat → Prop} {g : Nat} {m : Mod} {lab : Nat → Nat} {vS vC : Value} {bs : List Nat} (h : REndWith w F g m lab vS vC bs) (i : Nat) (hi : i < bs.length) (s : Stm)
    (hc : Chg (Lab F lab (i + 2)) w w1) (hs : RStm w1 (Lab F lab (i + 2)) (bs.getD i 0) (m.c.weight i) s) : REndWith w1 F g (m.upd i s) lab vS vC bs where
  own := h.own
  obj := hc.keeps h.obj (h.own.ne (by omega))
  rowS := h.rowS.keeps hc (fun k _ _ hk _ => hk.ne (by omega))
  rowC := h.rowC.keeps hc (fun k _ _ hk _ => hk.ne (by omega))
  len := by rw [h.len]; simp [Mod.upd]
  stm := fun j hj => by
    by_cases e : i = j
    · subst e
      rw [at_upd_eq (by rw [← h.len]; exact hi)]
      exact hs
    · rw [at_upd_ne e]
      exact (h.stm j hj).keeps hc (fun k hk => hk.ne (by omega))
/-- what is new gets a mark -/
theorem REndWith.relab {w : World} {F : Nat → Prop} {g : Nat} {m : Mod} {lab : Nat → Nat} {vS vC : Value} {bs : List Nat} (h : REndWith w F g m lab vS vC bs) (L : Nat) : REndWith w (Up F w.heap.size) g m (relab lab w.heap.size L) vS vC bs where
  own := lab_old (heap_some h.obj) h.own
  obj := h.obj
  rowS := h.rowS.mono (fun _ hk => lab_old hk)
  rowC := h.rowC.mono (fun _ hk => lab_old hk)
  len := h.len
  stm := fun i hi => (h.stm i hi).mono (fun _ hk => lab_old hk)
/-- the frames that are to be sent have turned -/
theorem REndWith.setCtl {w w1 : World} {F : Nat → Prop} {g : Nat} {m : Mod} {lab : Nat → Nat} {vS vC v' : Value} {bs : List Nat} (h : REndWith w F g m lab vS vC bs) (m1 : Mod) (hc : Chg (fun k => k = g ∨ Lab F lab 0 k) w w1)
    (ho : w1.heap[g]? = some (.cells (reCells m1 vS v') 136 (0, 0))) (hq : QRow w1 (Lab F lab 0) 9 v' (m1.control.map Value.string)) (h2 : m1.ss = m.ss) (h3 : m1.c = m.c) : REndWith w1 F g m1 lab vS v' bs where
  own := h.own
  obj := ho
  rowS := h.rowS.keeps hc (fun k cur fz hk0 hk e => e.elim (fun e => by subst e; rw [h.obj] at hk; simp at hk) (fun e => hk0.ne (by omega) e))
  rowC := hq
  len := by rw [h2]; exact h.len
  stm := fun i hi => by
    have := (h.stm i hi).keeps hc (fun k hk e => e.elim (fun e => by subst e; exact h.own.ne (by omega) hk) (fun e => hk.ne (by omega) e))
    unfold Mod.at at this ⊢
    rw [h2, h3]
    exact this
/-- what a call leaves of an end -/
def RPost (w : World) (F : Nat → Prop) (g : Nat) (m1 : Mod) (w1 : World) : Prop := REnd w1 (Up F w.heap.size) g m1 ∧ Chg F w w1
/-- is -/
theorem ris_calls {w : World} {F : Nat → Prop} {g : Nat} {m : Mod} (h : REnd w F g m) (i : Int) :
    Calls Try.prog 90 #[ptrV g, .int .i64 i] w fun e w' => e = .returned (.bool (m.is i)) ∧ w' = w := by
  obtain ⟨lab, vS, vC, bs, h⟩ := h
  obtain ⟨a, c, rfl⟩ := h.rowS.slice
  obtain ⟨_, _, _, _, _, c10, _⟩ := re_cells h.obj
  have hl : (bs.map ptrV).length = m.ss.length := by rw [List.length_map, h.len]
  rw [hl] at c10
  clear h hl
  unfold ptrV Mod.is
  go_enter Try.func90, Try.ntmps90
  go_wp2
  all_goals go_ret
  all_goals exact ⟨ret_bool (by first | (simp_all; done) | (simp_all; omega)), rfl⟩
set_option maxRecDepth 100000 in
/-- left -/
theorem rleft_calls {w : World} {F : Nat → Prop} {b wt : Nat} {s : Stm} (h : RStm w F b wt s) (hl : s.left ≤ 1000000) :
    Calls Try.prog 107 #[ptrV b] w fun e w' => e = .returned (.int .i64 s.left) ∧ ∃ q, w' = w.drewN q := by
  obtain ⟨vm, msgs, fr, h1, h2, h3, h4⟩ := h
  obtain ⟨hz, hfr⟩ := framed_sizes h4
  have hmax := h3.len
  have HQ : Hid (QRow w F 9 vm (msgs.map Value.string)) := h3
  obtain ⟨a, c, rfl⟩ := h3.slice
  obtain ⟨_, c1, c2, _⟩ := rs_cells h2
  rw [List.length_map] at c1 hmax
  have HZ : Hid (sizes msgs = s.left + fr) := hz
  unfold maxLen at hmax
  clear h2 h3 h4 hz h1
  unfold ptrV
  go_enter Try.func107, Try.ntmps107
  go_wp2
  go_loopw [3, 4] (fun n j wr => ∃ i q : Nat, i ≤ msgs.length ∧ j = .int .i64 i ∧ n = .int .i64 ((sizes (msgs.take i) : Int) - fr) ∧ wr = w.drewN q) (fun _ j _ => msgs.length - (intOf j).toNat)
  case atStart => exact ⟨0, 0, Nat.zero_le _, rfl, int_val (by simp [sizes]), rfl⟩
  case round =>
    obtain ⟨i, q, hi, rfl, rfl, rfl⟩ := hrel
    have hs1 := sizes_take_le msgs i
    rw [HZ.out] at hs1
    by_cases hlt : i < msgs.length
    · obtain ⟨g, off, cap, e, hF, hg, hcap, hcm, _, hc⟩ := HQ.out.at (by rw [List.length_map]; omega)
      injection e with e1 e2 e3
      subst e1 e3
      have hci := hc i _ (map_get Value.string msgs i noB hlt)
      have hsn := sizes_take_succ msgs i hlt
      have hgl := getD_le hlt
      rw [HZ.out] at hgl
      obtain ⟨x, hx⟩ : ∃ x, msgs.getD i noB = x := ⟨_, rfl⟩
      rw [hx] at hsn hgl hci
      have HSN : Hid (sizes (msgs.take (i + 1)) = sizes (msgs.take i) + x.size) := hsn
      clear hc hsn hx
      go_wp2
      go_roundw
      case rel => exact ⟨i + 1, _, by omega, by go_num, int_val (by rw [HSN.out]; omega), rfl⟩
      case measure => simp [intOf]; omega
    · go_wp2
      go_ret
      have : msgs.take i = msgs := List.take_of_length_le (by omega)
      exact ⟨ret_int (by rw [this, HZ.out]; omega), q, rfl⟩
set_option maxRecDepth 100000 in
/-- queued -/
theorem rqueued_calls {w : World} {F : Nat → Prop} {g : Nat} {m : Mod} (h : REnd w F g m) (hl : m.ss.length ≤ 4) (hq : m.queued ≤ 1000000) :
    Calls Try.prog 91 #[ptrV g] w fun e w' => e = .returned (.int .i64 m.queued) ∧ ∃ q, w' = w.drewN q := by
  obtain ⟨lab, vS, vC, bs, h⟩ := h
  have HS : Hid (∀ i, i < bs.length → RStm w (Lab F lab (i + 2)) (bs.getD i 0) (m.c.weight i) (m.at i)) := h.stm
  have HQ : Hid (QRow w (Lab F lab 1) 137 vS (bs.map ptrV)) := h.rowS
  obtain ⟨a, c, rfl⟩ := h.rowS.slice
  obtain ⟨_, _, _, _, _, c10, _⟩ := re_cells h.obj
  have HL : Hid (bs.length = m.ss.length) := h.len
  have hb : bs.length ≤ 4 := by rw [h.len]; exact hl
  rw [List.length_map] at c10
  clear h
  unfold ptrV
  go_enter Try.func91, Try.ntmps91
  go_wp2
  go_loopw [3, 4] (fun n j wr => ∃ i q : Nat, i ≤ bs.length ∧ j = .int .i64 i ∧ n = .int .i64 (sumL ((m.ss.map Stm.left).take i) : Nat) ∧ wr = w.drewN q) (fun _ j _ => bs.length - (intOf j).toNat)
  case atStart => exact ⟨0, 0, Nat.zero_le _, rfl, int_val (by simp [sumL]), rfl⟩
  case round =>
    obtain ⟨i, q, hi, rfl, rfl, rfl⟩ := hrel
    have hs1 : sumL ((m.ss.map Stm.left).take i) ≤ m.queued := sumL_take_le _ i
    by_cases hlt : i < bs.length
    · obtain ⟨gr, off, cap, e, hF, hg, hcap, hcm, _, hc⟩ := HQ.out.at (by rw [List.length_map]; omega)
      injection e with e1 e2 e3
      subst e1 e3
      have hci := hc i _ (map_get ptrV bs i 0 hlt)
      unfold ptrV at hci
      obtain ⟨b, hbe⟩ : ∃ b, bs.getD i 0 = b := ⟨_, rfl⟩
      have hst := HS.out i hlt
      rw [hbe] at hci hst
      have HST : Hid (RStm w (Lab F lab (i + 2)) b (m.c.weight i) (m.at i)) := hst
      clear hst hbe
      have hi' : i < m.ss.length := by rw [← HL.out]; exact hlt
      have hsn := sumL_take_succ (m.ss.map Stm.left) i (by rw [List.length_map]; exact hi')
      rw [map_getD _ _ _ hi'] at hsn
      have hs2 : sumL ((m.ss.map Stm.left).take (i + 1)) ≤ m.queued := sumL_take_le _ _
      have hle : (m.at i).left ≤ 1000000 := by unfold Mod.at; omega
      have HSN : Hid (sumL ((m.ss.map Stm.left).take (i + 1)) = sumL ((m.ss.map Stm.left).take i) + (m.at i).left) := hsn
      clear hc hsn
      go_wp2_with fail
      refine (rleft_calls (w := w.drewN _) HST.out hle).mono ?_
      rintro e w2 ⟨rfl, q2, rfl⟩
      go_wp2_with fail
      go_roundw
      case rel => exact ⟨i + 1, _, by omega, by go_num, int_val (by rw [HSN.out]; omega), rfl⟩
      case measure => simp [intOf]; omega
    · go_wp2
      go_ret
      have : (m.ss.map Stm.left).take i = m.ss.map Stm.left := List.take_of_length_le (by rw [List.length_map, ← HL.out]; omega)
      exact ⟨ret_int (by rw [this]; rfl), q, rfl⟩
/-- silent -/
theorem rsilent_calls {w : World} {F : Nat → Prop} {b wt : Nat} {s : Stm} (h : RStm w F b wt s) :
    Calls Try.prog 94 #[ptrV b] w fun e w' => e = .returned (.tuple #[]) ∧ RStm w' F b wt s.silent ∧ Chg (fun k => k = b) w w' := by
  obtain ⟨vm, msgs, fr, h1, h2, h3, h4⟩ := h
  obtain ⟨c0, c1, c2, c3, c4, c5, c6, _⟩ := rs_cells h2
  have hz := unfrozen h2
  unfold ptrV
  go_enter Try.func94, Try.ntmps94
  go_wp2
  go_end0
  refine ⟨rfl, ⟨.slice none 0 0, [], 0, h1, ?_, QRow.nil _ _ _, rfl, rfl⟩, ?_⟩
  · simp [World.setCell, Array.getElem?_modify, h2, rsCells, Stm.silent]
  · exact ⟨rfl, rfl, rfl, by simp [World.setCell], fun k _ hk => by simp [World.setCell, Array.getElem?_modify, Ne.symm hk]⟩
/-- deaf -/
theorem rdeaf_calls {w : World} {F : Nat → Prop} {b wt : Nat} {s : Stm} (h : RStm w F b wt s) :
    Calls Try.prog 102 #[ptrV b] w fun e w' => e = .returned (.tuple #[]) ∧ RStm w' F b wt s.deaf ∧ Chg (fun k => k = b) w w' := by
  obtain ⟨vm, msgs, fr, h1, h2, h3, h4⟩ := h
  obtain ⟨c0, c1, c2, c3, c4, c5, c6, c7, c8, _⟩ := rs_cells h2
  have hz := unfrozen h2
  unfold ptrV
  go_enter Try.func102, Try.ntmps102
  go_wp2
  go_end0
  have hch : Chg (fun k => k = b) w ((w.setCell ⟨b, 8, none⟩ (.string ⟨#[]⟩)).setCell ⟨b, 7, none⟩ (.bool true)) :=
    ⟨rfl, rfl, rfl, by simp [World.setCell], fun k _ hk => by simp [World.setCell, Array.getElem?_modify, Ne.symm hk]⟩
  refine ⟨rfl, ⟨vm, msgs, fr, h1, ?_, h3.keeps hch ?_, h4⟩, hch⟩
  · simp [World.setCell, Array.getElem?_modify, h2, rsCells, Stm.deaf, noB]
  · rintro k cur fz _ hk rfl
    rw [h2] at hk
    simp at hk
/-- passes -/
theorem rpasses_calls {w : World} {F : Nat → Prop} {g : Nat} {m : Mod} (h : REnd w F g m) (ht : m.turn ≤ 4) :
    Calls Try.prog 111 #[ptrV g] w fun e w' => e = .returned (.tuple #[]) ∧ REnd w' F g m.passes ∧ Chg (fun k => k = g) w w' := by
  obtain ⟨lab, vS, vC, bs, h⟩ := h
  obtain ⟨a, c, rfl⟩ := h.rowS.slice
  have H := h
  obtain ⟨_, _, _, _, _, c10, c11, c12, c13, _⟩ := re_cells h.obj
  have hl : (bs.map ptrV).length = m.ss.length := by rw [List.length_map, h.len]
  rw [hl] at c10
  have hz := unfrozen h.obj
  have HOBJ : Hid (w.heap[g]? = some (.cells (reCells m (.slice a (bs.map ptrV).length c) vC) 136 (0, 0))) := h.obj
  clear h
  unfold ptrV
  by_cases ht2 : m.turn + 1 = m.ss.length
  · have e1 : ((m.turn : Int) + 1 == (m.ss.length : Int)) = true := by rw [beq_iff_eq]; omega
    have HT : Hid (m.turn + 1 = m.ss.length) := ht2
    clear ht2
    go_enter Try.func111, Try.ntmps111
    go_wp2
    go_quiet (fail)
    go_wp2
    go_end0
    have hch : Chg (fun k => k = g) w ((((w.setCell ⟨g, 12, none⟩ (.int .i64 ((m.turn : Int) + 1))).drewN nq).setCell ⟨g, 12, none⟩ (.int .i64 0)).setCell ⟨g, 13, none⟩ (.bool true)) :=
      ⟨rfl, rfl, rfl, by simp [World.setCell, World.drewN], fun k _ hk => by simp [World.setCell, World.drewN, Array.getElem?_modify, Ne.symm hk]⟩
    refine ⟨rfl, ⟨lab, _, vC, bs, H.setObj m.passes hch ?_ rfl rfl rfl⟩, hch⟩
    simp [World.setCell, World.drewN, Array.getElem?_modify, HOBJ.out, reCells, Mod.passes, HT.out]
  · have e1 : ((m.turn : Int) + 1 == (m.ss.length : Int)) = false := by rw [beq_eq_false_iff_ne]; omega
    go_enter Try.func111, Try.ntmps111
    go_wp2
    go_quiet (fail)
    go_wp2
    go_end0
    have hch : Chg (fun k => k = g) w (((w.setCell ⟨g, 12, none⟩ (.int .i64 ((m.turn : Int) + 1))).drewN nq).setCell ⟨g, 13, none⟩ (.bool true)) :=
      ⟨rfl, rfl, rfl, by simp [World.setCell, World.drewN], fun k _ hk => by simp [World.setCell, World.drewN, Array.getElem?_modify, Ne.symm hk]⟩
    refine ⟨rfl, ⟨lab, _, vC, bs, H.setObj m.passes hch ?_ rfl rfl rfl⟩, hch⟩
    simp [World.setCell, World.drewN, Array.getElem?_modify, HOBJ.out, reCells, Mod.passes, ht2]
end Go.Proofs.Ytnclmbolfpojoaa
