/-
  The program's stream: what is laid into its queue, and what is cut off for a frame.
-/
import Derived.Test.YtnclmbolfpojoaaPRep
import Derived.Maps.AppendAt
namespace Go.Proofs.Ytnclmbolfpojoaa
open Go.RowKit
/-- a row stands where the stream's own cells turn -/
theorem row_stm {w w1 : World} {F : Nat → Prop} {b : Nat} {cs : Array Value} {v : Value} {xs : List Value} (h : QRow w F 9 v xs) (hb : w.heap[b]? = some (.cells cs 100 (0, 0))) (hc : Chg (fun k => k = b) w w1) : QRow w1 F 9 v xs :=
  h.keeps hc (by rintro k cur fz _ hk rfl; rw [hb] at hk; simp at hk)
theorem PStmWith.set {w w1 : World} {F G : Nat → Prop} {b : Nat} {s : Stm} {vq vw : Value} {ws : List ByteArray} {co : Co} (h : PStmWith w F G b s vq vw ws co) (s1 : Stm) (vq1 : Value) (hc : Chg (fun k => k = b) w w1)
    (ho : w1.heap[b]? = some (.cells (psCells vq1 vw co s1) 100 (0, 0))) (hq : QRow w1 F 9 vq1 (s1.queue.map Value.string)) (hcm : s1.came = s.came) : PStmWith w1 F G b s1 vq1 vw ws co :=
  ⟨h.own, ho, hq, row_stm h.rowW h.obj hc, by rw [hcm]; exact h.came⟩
def AddPost (w : World) (F G : Nat → Prop) (b : Nat) (s : Stm) (e : Ending) (w' : World) : Prop := e = .returned (.tuple #[]) ∧ PStm w' (Up F w.heap.size) G b s ∧ Chg F w w'
theorem info_str : (Try.prog.info? 9).map (fun i => (i.zero, i.size, i.bytes)) = some (some (.string ⟨#[]⟩), 1, 16) := by kernel_rfl
theorem cell_one (w : World) (x : Value) (t : TypeId) : (w.alloc (.cells #[x] t)).cell? ⟨w.heap.size, 0, none⟩ = some x := by simp
set_option maxHeartbeats 1000000 in
set_option maxRecDepth 100000 in
/-- Add -/
theorem padd_calls {w : World} {F G : Nat → Prop} {b : Nat} {s : Stm} (h : PStm w F G b s) (hFG : ∀ k, G k → ¬ F k) (x : ByteArray) (hl : s.queue.length ≤ 1000000) :
    Calls Try.prog 50 #[ptrV b, .string x] w fun e w' => AddPost w F G b { s with queue := s.queue ++ [x] } e w' := by
  obtain ⟨vq, vw, ws, co, h⟩ := h
  have H : Hid (PStmWith w F G b s vq vw ws co) := h
  have HFG : Hid (∀ k, G k → ¬ F k) := hFG
  have c5 := (ps_cells h.obj).2.2.2.2.2.1
  have hz := unfrozen h.obj
  have hb := heap_some h.obj
  obtain ⟨i0, hi, hz0⟩ := Option.map_eq_some_iff.1 info_str
  simp only [Prod.mk.injEq] at hz0
  obtain ⟨a, c, rfl⟩ := h.rowQ.slice
  rw [List.length_map] at c5 H
  clear h hFG
  unfold ptrV
  go_enter Try.func50, Try.ntmps50
  go_wp2_with (at_builtin; refine wpList_append_r _ rfl _ _ 27 rfl F 9 i0 (.string ⟨#[]⟩) 16 Try.underlying27 hi hz0.1 hz0.2.1 hz0.2.2 rfl _ _ rfl (H.out.rowQ.alloc _) ⟨w.heap.size, 0, none⟩ 1 (.string x) rfl (cell_one _ _ _) rfl ?c3 ?c4 ?_)
  case c3 => rw [List.length_map]; unfold maxLen; omega
  case c4 => rw [List.length_map]; omega
  intro v' w1 hq1 hc1
  have hob1 : w1.heap[b]? = some (.cells (psCells (.slice a s.queue.length c) vw co s) 100 (0, 0)) := hc1.rowKind ((Below.heap_alloc w _ b hb).trans H.out.obj) (by decide)
  have hz1 := unfrozen hob1
  obtain ⟨a1, c1', rfl⟩ := hq1.slice
  rw [List.length_append, List.length_map, List.length_singleton] at hq1
  have hlt1 := heap_some hob1
  have hs5 : ∃ u, w1.cell? ⟨b, 5, none⟩ = some u := ⟨_, (ps_cells hob1).2.2.2.2.2.1⟩
  obtain ⟨u5, hu5⟩ := hs5
  have HQ1 : Hid (QRow w1 (Up F (w.heap.size + 1)) 9 (.slice a1 (s.queue.length + 1) c1') (s.queue.map Value.string ++ [Value.string x])) := hq1
  have HC1 := (show Hid _ from hc1)
  have HOB1 := (show Hid _ from hob1)
  clear hq1 hc1 hob1 c5 hz
  go_wp2
  go_end0
  have hcs : ∀ v, Chg (fun k => k = b) w1 (w1.setCell ⟨b, 5, none⟩ v) := fun v => Chg.setCell w1 ⟨b, 5, none⟩ v rfl
  have hch0 : Chg F w w1 := (Chg.alloc w _).trans' (HC1.out.mono (fun k _ e => e.1))
  refine ⟨rfl, ⟨.slice a1 (s.queue.length + 1) c1', vw, ws, co, .inl H.out.own, ?_, ?_, ?_, H.out.came⟩, hch0.trans' ((hcs _).mono (by rintro k _ rfl; exact H.out.own))⟩
  · simp [World.setCell, Array.getElem?_modify, HOB1.out, psCells]
  · have hq2 := row_stm HQ1.out HOB1.out (hcs (.slice a1 (s.queue.length + 1) c1'))
    rw [show ({ s with queue := s.queue ++ [x] } : Stm).queue.map Value.string = s.queue.map Value.string ++ [Value.string x] by simp]
    exact hq2.mono (fun k _ e => e.elim .inl (fun e => .inr (by omega)))
  · exact (H.out.rowW.keeps hch0 (fun k _ _ hk _ => HFG.out k hk)).keeps (hcs _) (by rintro k cur fz _ hk rfl; rw [HOB1.out] at hk; simp at hk)
/-- what is left of a queue -/
def keepQ (left : ByteArray) (r : List ByteArray) : List ByteArray := if left.size = 0 then r else left :: r
def StmPost (w : World) (F G : Nat → Prop) (b : Nat) (s : Stm) (v : Value) (e : Ending) (w' : World) : Prop := e = .returned v ∧ PStm w' F G b s ∧ Chg F w w'
set_option maxHeartbeats 1000000 in
set_option maxRecDepth 100000 in
/-- keep -/
theorem pkeep_calls {w : World} {F G : Nat → Prop} {b : Nat} {s : Stm} (h : PStm w F G b s) (hFG : ∀ k, G k → ¬ F k) (f : ByteArray) (r : List ByteArray) (hq : s.queue = f :: r) (left : ByteArray) :
    Calls Try.prog 110 #[ptrV b, .string left] w fun e w' => StmPost w F G b { s with queue := keepQ left r } (.tuple #[]) e w' := by
  obtain ⟨vq, vw, ws, co, h⟩ := h
  have hqr := h.rowQ
  rw [hq] at hqr
  obtain ⟨gq, off, cap, e, hFq, hgq, hlc, hcm, ⟨cur, hcur⟩, hcell⟩ := hqr.at (by simp)
  have c0 := hcell 0 _ rfl
  rw [Nat.add_zero] at c0
  have hbq : gq ≠ b := by rintro rfl; rw [h.obj] at hcur; simp at hcur
  subst e
  have hlen : (List.map Value.string (f :: r)).length = r.length + 1 := by simp
  rw [hlen] at h hqr hlc
  have H : Hid (PStmWith w F G b s (.slice (some ⟨gq, off, none⟩) (r.length + 1) cap) vw ws co) := h
  have HQR : Hid (QRow w F 9 (.slice (some ⟨gq, off, none⟩) (r.length + 1) cap) (Value.string f :: r.map Value.string)) := hqr
  have HFG : Hid (∀ k, G k → ¬ F k) := hFG
  have c5 := (ps_cells h.obj).2.2.2.2.2.1
  have hzq := unfrozen hcur 0
  have hzq' := unfrozen hcur off
  have hz := unfrozen h.obj
  have hb := heap_some h.obj
  have hi0 : (0 : Int) < ((r.length + 1 : Nat) : Int) := by omega
  have hchq : Chg F w (w.setCell ⟨gq, off, none⟩ (.string left)) := Chg.setCell w ⟨gq, off, none⟩ _ hFq
  have hq1 := QRow.set HQR.out 0 (.string left) (by simp)
  rw [Nat.add_zero, List.set_cons_zero] at hq1
  have hob1 : (w.setCell ⟨gq, off, none⟩ (.string left)).heap[b]? = some (.cells (psCells (.slice (some ⟨gq, off, none⟩) (r.length + 1) cap) vw co s) 100 (0, 0)) := (Chg.setCell (F := fun k => k = gq) w ⟨gq, off, none⟩ (.string left) rfl).keeps h.obj (fun e => hbq e.symm)
  have HOB1 := (show Hid _ from hob1)
  have HCH := (show Hid _ from hchq)
  have HQ1 : Hid (QRow (w.setCell ⟨gq, off, none⟩ (.string left)) F 9 (.slice (some ⟨gq, off, none⟩) (r.length + 1) cap) (Value.string left :: r.map Value.string)) := hq1
  have c51 := (ps_cells hob1).2.2.2.2.2.1
  have hz1 := unfrozen hob1
  have HW1 : Hid (QRow (w.setCell ⟨gq, off, none⟩ (.string left)) G 9 vw (ws.map Value.string)) := h.rowW.keeps hchq (fun k _ _ hk _ => hFG k hk)
  have HCM : Hid (Came s.came ws co.b) := h.came
  have HFB : Hid (F b) := h.own
  have hlr : r.length + 1 ≤ 9223372036854775807 := by unfold maxLen at hcm; omega
  clear h hqr hcell hFG hq hchq hq1 hob1 hFq hlen hcur
  unfold ptrV
  by_cases h0 : left.size = 0
  · have e0 : left = ⟨#[]⟩ := ba_zero h0
    have hk : keepQ left r = r := by unfold keepQ; rw [if_pos h0]
    rw [hk]
    subst e0
    have HFin : Hid (∀ v, QRow (w.setCell ⟨gq, off, none⟩ (.string ⟨#[]⟩)) F 9 v (r.map Value.string) →
        StmPost w F G b { s with queue := r } (.tuple #[]) (.returned (.tuple #[])) ((w.setCell ⟨gq, off, none⟩ (.string ⟨#[]⟩)).setCell ⟨b, 5, none⟩ v)) := by
      intro v hv
      have hcs : Chg (fun k => k = b) (w.setCell ⟨gq, off, none⟩ (.string ⟨#[]⟩)) ((w.setCell ⟨gq, off, none⟩ (.string ⟨#[]⟩)).setCell ⟨b, 5, none⟩ v) := Chg.setCell _ ⟨b, 5, none⟩ v rfl
      refine ⟨rfl, ⟨v, vw, ws, co, HFB.out, ?_, row_stm hv HOB1.out hcs, row_stm HW1.out HOB1.out hcs, HCM.out⟩, HCH.out.trans' (hcs.mono (by rintro k _ rfl; exact HFB.out))⟩
      have ho := HOB1.out
      generalize w.setCell ⟨gq, off, none⟩ (.string ⟨#[]⟩) = W at ho ⊢
      simp [World.setCell, Array.getElem?_modify, ho, psCells]
    have HT : Hid (QRow (w.setCell ⟨gq, off, none⟩ (.string ⟨#[]⟩)) F 9 (.slice (if cap = 1 then some ⟨gq, off, none⟩ else some ⟨gq, off + 1, none⟩) r.length (cap - 1)) (r.map Value.string)) := by
      have := HQ1.out.tail'
      rw [List.length_map] at this
      exact this
    go_enter Try.func110, Try.ntmps110
    go_wp2
    all_goals go_end0
    · refine HFin.out _ ?_
      have := HT.out
      subst h
      simpa using this
    · refine HFin.out _ ?_
      have := HT.out
      rw [if_neg h] at this
      exact this
  · have hk : keepQ left r = left :: r := by unfold keepQ; rw [if_neg h0]
    have hne : left.toList.isEmpty = false := not_empty left (by omega)
    rw [hk]
    go_enter Try.func110, Try.ntmps110
    go_wp2
    go_end0
    refine ⟨rfl, ⟨.slice (some ⟨gq, off, none⟩) (r.length + 1) cap, vw, ws, co, HFB.out, HOB1.out, HQ1.out, HW1.out, HCM.out⟩, HCH.out⟩
/-- a stream of which n bytes are cut off -/
def Stm.pcut (s : Stm) (n : Nat) : Stm := { s with queue := s.cutQ n, credit := s.credit - n, deficit := s.deficit - n }
theorem keepQ_cut {s : Stm} {f : ByteArray} {r : List ByteArray} (hq : s.queue = f :: r) {n : Nat} (hn : n ≤ f.size) : keepQ (f.extract n f.size) r = s.cutQ n := by
  unfold keepQ Stm.cutQ
  rw [hq]
  simp only [ex_size, Nat.min_self]
  by_cases e : n = f.size
  · rw [if_pos (by omega), if_pos e]
  · rw [if_neg (by omega), if_neg e]
theorem run_min_int4 {P : Program} (w : World) (ts : Array TypeId) (t : TypeId) (a b c d : Nat) : (Builtin.min_ ts t #[.int .i64 a, .int .i64 b, .int .i64 c, .int .i64 d]).run P w = .ok (.int .i64 ((min (min (min a b) c) d : Nat) : Int)) w := by
  simp [Builtin.min_, Builtin.min2]
  repeat' split
  all_goals omega
set_option maxHeartbeats 2000000 in
set_option maxRecDepth 100000 in
/-- Cut -/
theorem pcut_calls {w : World} {F G : Nat → Prop} {b : Nat} {s : Stm} (h : PStm w F G b s) (hFG : ∀ k, G k → ¬ F k) (f : ByteArray) (r : List ByteArray) (hq : s.queue = f :: r) (chunk : Nat) (hfz : f.size ≤ 1000) (hcr : s.credit ≤ 1000) (hdf : s.deficit ≤ 1000) :
    Calls Try.prog 105 #[ptrV b, .int .i64 chunk] w fun e w' => StmPost w F G b (s.pcut (s.cutN chunk)) (.string (f.extract 0 (s.cutN chunk))) e w' := by
  obtain ⟨n, hn⟩ : ∃ n, s.cutN chunk = n := ⟨_, rfl⟩
  have hn1 : n = min (min (min f.size chunk) s.credit) s.deficit := by rw [← hn]; unfold Stm.cutN; rw [hq]; rfl
  have hnf : n ≤ f.size := by omega
  have hnc : n ≤ s.credit := by omega
  have hnd : n ≤ s.deficit := by omega
  rw [hn]
  have HN : Hid (n = min (min (min f.size chunk) s.credit) s.deficit) := hn1
  obtain ⟨vq, vw, ws, co, h⟩ := h
  have hqr := h.rowQ
  rw [hq] at hqr
  obtain ⟨gq, off, cap, e, hFq, hgq, hlc, hcm, ⟨cur, hcur⟩, hcell⟩ := hqr.at (by simp)
  have c0q := hcell 0 _ rfl
  rw [Nat.add_zero] at c0q
  have hbq : gq ≠ b := by rintro rfl; rw [h.obj] at hcur; simp at hcur
  subst e
  have hlen : (List.map Value.string (f :: r)).length = r.length + 1 := by simp
  rw [hlen] at h hqr hlc
  obtain ⟨k0, _, k2, _, _, k5, _⟩ := ps_cells h.obj
  have hz := unfrozen h.obj
  have hi0 : (0 : Int) < ((r.length + 1 : Nat) : Int) := by omega
  -- what the two stores leave
  have hch : Chg (fun k => k = b) w ((w.setCell ⟨b, 0, none⟩ (.int .i64 ((s.credit : Int) - n))).setCell ⟨b, 2, none⟩ (.int .i64 ((s.deficit : Int) - n))) := (Chg.setCell (F := fun k => k = b) w ⟨b, 0, none⟩ _ rfl).trans' (Chg.setCell (F := fun k => k = b) _ ⟨b, 2, none⟩ _ rfl)
  obtain ⟨s1, hs1⟩ : ∃ s1 : Stm, { s with credit := s.credit - n, deficit := s.deficit - n } = s1 := ⟨_, rfl⟩
  have hp1 : PStm ((w.setCell ⟨b, 0, none⟩ (.int .i64 ((s.credit : Int) - n))).setCell ⟨b, 2, none⟩ (.int .i64 ((s.deficit : Int) - n))) F G b s1 := by
    refine ⟨_, vw, ws, co, h.set s1 _ hch ?_ (by rw [← hs1]; exact row_stm h.rowQ h.obj hch) (by rw [← hs1])⟩
    have e1 : ((s.credit : Int) - n) = ((s.credit - n : Nat) : Int) := by omega
    have e2 : ((s.deficit : Int) - n) = ((s.deficit - n : Nat) : Int) := by omega
    rw [e1, e2, ← hs1]
    simp [World.setCell, Array.getElem?_modify, h.obj, psCells]
  have hk := fun W (hW : PStm W F G b s1) => pkeep_calls hW hFG f r (by rw [← hs1]; exact hq) (f.extract n f.size)
  rw [keepQ_cut hq hnf, show ({ s1 with queue := s.cutQ n } : Stm) = s.pcut n by rw [← hs1]; rfl] at hk
  have HK : Hid (∀ W, PStm W F G b s1 → Calls Try.prog 110 #[ptrV b, .string (f.extract n f.size)] W fun e w' => StmPost W F G b (s.pcut n) (.tuple #[]) e w') := hk
  have HP := (show Hid _ from hp1)
  have HCH : Hid (Chg F w ((w.setCell ⟨b, 0, none⟩ (.int .i64 ((s.credit : Int) - n))).setCell ⟨b, 2, none⟩ (.int .i64 ((s.deficit : Int) - n)))) := hch.mono (by rintro k _ rfl; exact h.own)
  clear h hqr hcell hcur hFq hlen hch hp1 hk hs1 hq hn hn1 hFG
  unfold ptrV at HK ⊢
  go_enter Try.func105, Try.ntmps105
  go_wp2
  have hmn : ∀ W ts t, (Builtin.min_ ts t #[.int .i64 (f.size : Int), .int .i64 (chunk : Int), .int .i64 (s.credit : Int), .int .i64 (s.deficit : Int)]).run Try.prog W = .ok (.int .i64 (n : Int)) W := fun W ts t => by rw [run_min_int4, ← HN.out]
  go_region
  clear hmn
  go_wp2_with fail
  refine (HK.out _ (PStm.keeps HP.out (H := fun _ => False) ((Chg.refl _ _).drew) (fun _ _ => id) (fun _ _ => id))).mono ?_
  rintro e w2 ⟨rfl, hp2, hc2⟩
  have HP2 := (show Hid _ from hp2)
  have HC2 := (show Hid _ from hc2)
  clear hp2 hc2
  go_wp2_with fail
  go_ret
  exact ⟨rfl, HP2.out, HCH.out.drew.trans' HC2.out⟩
/-- a stream whose turn ends, or goes on -/
def Stm.done (s : Stm) (share : Nat) : Stm := { s with deficit := if s.queue.isEmpty then 0 else if s.credit = 0 ∧ share < s.deficit then share else s.deficit }
set_option maxHeartbeats 1000000 in
set_option maxRecDepth 100000 in
/-- over -/
theorem pover_calls {w : World} {F G : Nat → Prop} {b : Nat} {s : Stm} (h : PStm w F G b s) (share : Nat) :
    Calls Try.prog 106 #[ptrV b, .int .i64 share] w fun e w' => StmPost w F G b (s.done share) (.bool (s.queue.isEmpty || s.deficit == 0 || s.credit == 0)) e w' := by
  have HI : Hid (Calls Try.prog 104 #[ptrV b] w fun e w' => e = .returned (.bool (s.queue.isEmpty)) ∧ w' = w) := pidle_calls h
  have H : Hid (PStm w F G b s) := h
  obtain ⟨vq, vw, ws, co, h⟩ := h
  have HFin : Hid (∀ d : Nat, (s.done share).deficit = d → ∀ x : Int, x = d → StmPost w F G b (s.done share) (.bool (s.queue.isEmpty || s.deficit == 0 || s.credit == 0)) (.returned (.bool (s.queue.isEmpty || s.deficit == 0 || s.credit == 0))) (w.setCell ⟨b, 2, none⟩ (.int .i64 x))) := by
    rintro d hd x rfl
    have hch : Chg (fun k => k = b) w (w.setCell ⟨b, 2, none⟩ (.int .i64 d)) := Chg.setCell (F := fun k => k = b) w ⟨b, 2, none⟩ _ rfl
    refine ⟨rfl, ⟨vq, vw, ws, co, h.set (s.done share) vq hch ?_ (row_stm h.rowQ h.obj hch) rfl⟩, hch.mono (by rintro k _ rfl; exact h.own)⟩
    have e1 : psCells vq vw co (s.done share) = psCells vq vw co { s with deficit := d } := by unfold psCells; rw [hd]; rfl
    rw [e1]
    simp [World.setCell, Array.getElem?_modify, h.obj, psCells]
  have HSame : Hid (s.done share = s → StmPost w F G b (s.done share) (.bool (s.queue.isEmpty || s.deficit == 0 || s.credit == 0)) (.returned (.bool (s.queue.isEmpty || s.deficit == 0 || s.credit == 0))) w) := fun e => ⟨rfl, by rw [e]; exact H.out, Chg.refl _ _⟩
  obtain ⟨k0, _, k2, _⟩ := ps_cells h.obj
  have hz := unfrozen h.obj
  clear h
  obtain ⟨q, hq⟩ : ∃ q, s.queue.isEmpty = q := ⟨_, rfl⟩
  rw [hq] at HI HFin HSame ⊢
  have hdone : (s.done share).deficit = if q then 0 else if s.credit = 0 ∧ share < s.deficit then share else s.deficit := by unfold Stm.done; rw [hq]
  have HD := (show Hid _ from hdone)
  clear hdone hq
  unfold ptrV at HI ⊢
  have hsame : q = false → (s.deficit = 0 ∨ s.credit ≠ 0) → s.done share = s := by
    rintro rfl hor
    have e := HD.out
    have : (s.done share).deficit = s.deficit := by
      rw [e]
      simp only [Bool.false_eq_true, if_false]
      split <;> omega
    have e2 : s.done share = { s with deficit := (s.done share).deficit } := rfl
    rw [e2, this]
  have HS2 := hid hsame
  clear hsame
  cases q
  · by_cases d0 : s.deficit = 0
    · have e1 : ((s.deficit : Int) == 0) = true := by rw [d0]; rfl
      have HR : Hid ((false || s.deficit == 0 || s.credit == 0) = true) := by show _ = _; rw [d0]; rfl
      rw [HR.out] at HSame ⊢
      go_enter Try.func106, Try.ntmps106
      go_wp2_with fail
      refine HI.out.mono ?_
      rintro e w1 ⟨rfl, hw⟩
      replace hw := hw.symm
      subst hw
      go_wp2_with fail
      go_ret
      exact HSame.out (HS2.out (by first | rfl | trivial) (.inl d0))
    · have e1 : ((s.deficit : Int) == 0) = false := by rw [beq_eq_false_iff_ne]; omega
      by_cases c0 : s.credit = 0
      · have e2 : ((s.credit : Int) == 0) = true := by rw [c0]; rfl
        have HR : Hid ((false || s.deficit == 0 || s.credit == 0) = true) := by show _ = _; rw [c0]; simp
        rw [HR.out] at HFin ⊢
        have HDD : Hid ((s.done share).deficit = min s.deficit share) := by
          show _ = _
          rw [HD.out]
          simp only [Bool.false_eq_true, if_false]
          split <;> omega
        go_enter Try.func106, Try.ntmps106
        go_wp2_with fail
        refine HI.out.mono ?_
        rintro e w1 ⟨rfl, hw⟩
        replace hw := hw.symm
        subst hw
        go_wp2_with fail
        all_goals go_ret
        all_goals exact HFin.out _ HDD.out _ (by omega)
      · have e2 : ((s.credit : Int) == 0) = false := by rw [beq_eq_false_iff_ne]; omega
        have HR : Hid ((false || s.deficit == 0 || s.credit == 0) = false) := by
          show _ = _
          rw [show (s.deficit == 0) = false by rw [beq_eq_false_iff_ne]; exact d0, show (s.credit == 0) = false by rw [beq_eq_false_iff_ne]; exact c0]
          rfl
        rw [HR.out] at HSame ⊢
        go_enter Try.func106, Try.ntmps106
        go_wp2_with fail
        refine HI.out.mono ?_
        rintro e w1 ⟨rfl, hw⟩
        replace hw := hw.symm
        subst hw
        go_wp2_with fail
        go_ret
        exact HSame.out (HS2.out (by first | rfl | trivial) (.inr c0))
  · have HR : Hid ((true || s.deficit == 0 || s.credit == 0) = true) := rfl
    rw [HR.out] at HFin ⊢
    go_enter Try.func106, Try.ntmps106
    go_wp2_with fail
    refine HI.out.mono ?_
    rintro e w1 ⟨rfl, hw⟩
    replace hw := hw.symm
    subst hw
    go_wp2_with fail
    go_ret
    exact HFin.out 0 HD.out _ rfl
end Go.Proofs.Ytnclmbolfpojoaa
