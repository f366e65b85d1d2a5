/-
  The program's outbox: the next frame, and what is given.
-/
import Derived.Test.YtnclmbolfpojoaaPData
namespace Go.Proofs.Ytnclmbolfpojoaa
open Go.RowKit
/-- the frames that wait have turned -/
theorem PEndWith.setCtl {w w1 : World} {F : Nat → Prop} {g : Nat} {m : Mod} {lab : Nat → Nat} {gm : Nat} {vW vC v' : Value} {bs : List Nat} (h : PEndWith w F g m lab gm vW vC bs) (m1 : Mod) (hc : Chg (fun k => k = g ∨ Lab F lab 1 k) w w1)
    (ho : w1.heap[g]? = some (.cells (peCells m1 (.map (some gm)) v' vC) 72 (0, 0))) (hq : QRow w1 (Lab F lab 1) 9 v' (m1.control.map Value.string)) (h2 : m1.ss = m.ss) (h3 : m1.c = m.c) (h4 : m1.inn = m.inn) (h5 : m1.died = m.died) : PEndWith w1 F g m1 lab gm v' vC bs where
  own := h.own
  ownM := h.ownM
  obj := ho
  map := hc.keeps h.map (by rintro (rfl | e); · have := h.map; rw [h.obj] at this; simp at this
                            · exact h.ownM.ne (by omega) e)
  rowW := hq
  rowC := by
    rw [h4]
    exact h.rowC.keeps hc (by
      rintro k cur fz hk0 hk (rfl | e)
      · rw [h.obj] at hk; simp at hk
      · exact hk0.ne (by omega) e)
  len := by rw [h2]; exact h.len
  n := by rw [h2, h3]; exact h.n
  stm := fun i hi => by
    have := (h.stm i hi).keeps hc (by rintro k hk (rfl | e); · exact h.own.ne (by omega) hk
                                      · exact hk.ne (by omega) e) (by rintro k hk (rfl | e); · exact h.own.ne (by omega) hk
                                                                      · exact hk.ne (by omega) e)
    unfold Mod.flow Mod.at at this ⊢
    rw [h2, h5]
    exact this
  zero := fun hd i hi => by
    unfold Mod.at
    rw [h2]
    exact h.zero (by rw [← h5]; exact hd) i hi
/-- what the next frame is, and the end behind it -/
def Mod.popE (m : Mod) : Mod := match m.control with | _ :: r => { m with control := r } | [] => (m.lookE m.ss.length).1
def Mod.popB (m : Mod) : ByteArray := match m.control with | f :: _ => f | [] => m.dataB
def NextPost (w : World) (F : Nat → Prop) (g : Nat) (m1 : Mod) (b : ByteArray) (e : Ending) (w' : World) : Prop :=
  e = .returned (.string b) ∧ (∃ lab gm vW vC bs, PEndWith w' F g m1 lab gm vW vC bs) ∧ Chg F w w'
set_option maxHeartbeats 2000000 in
set_option maxRecDepth 100000 in
/-- next -/
theorem pnext_calls {w : World} {F : Nat → Prop} {g : Nat} {m : Mod} (h : PEnd w F g m) (hi : m.Inv) (hl : m.died = 0) :
    Calls Try.prog 52 #[.pointer (some ⟨g, 13, none⟩), .func (.func 31) #[ptrV g] #[]] w fun e w' => NextPost w F g m.popE m.popB e w' := by
  obtain ⟨lab, gm, vW, vC, bs, h⟩ := h
  obtain ⟨_, _, _, _, _, _, _, _, _, _, _, _, _, _, k14, _⟩ := pe_cells h.obj
  have hz := unfrozen h.obj
  have hg := heap_some h.obj
  cases hct : m.control with
  | nil =>
    have hq := h.rowW
    rw [hct] at hq
    obtain ⟨a, c, e⟩ := hq.slice
    replace e : vW = .slice a 0 c := e
    subst e
    have hE : m.popE = (m.lookE m.ss.length).1 := by unfold Mod.popE; rw [hct]
    have hB : m.popB = m.dataB := by unfold Mod.popB; rw [hct]
    rw [hE, hB]
    have HD := hid (pdata_calls h hi hl)
    unfold ptrV at HD ⊢
    clear h hi hl hq hE hB hct
    go_enter Try.func52, Try.ntmps52
    go_wp2_with fail
    refine HD.out.mono ?_
    rintro e w1 ⟨rfl, hp, hc⟩
    have HP := hid hp
    have HC := hid hc
    clear hp hc
    go_wp2_with fail
    go_ret
    exact ⟨rfl, ⟨_, _, _, _, _, HP.out⟩, HC.out⟩
  | cons f r =>
    have hq := h.rowW
    rw [hct] at hq
    have hE : m.popE = { m with control := r } := by unfold Mod.popE; rw [hct]
    have hB : m.popB = f := by unfold Mod.popB; rw [hct]
    rw [hE, hB]
    obtain ⟨gq, off, cap, e, hFq, hgq, hlc, hcm, ⟨cur, hcur⟩, hcell⟩ := hq.at (by simp)
    have c0 := hcell 0 _ rfl
    rw [Nat.add_zero] at c0
    have hbq : gq ≠ g := by rintro rfl; rw [h.obj] at hcur; simp at hcur
    have hbq' : ¬ g = gq := fun e => hbq e.symm
    have hlen : (List.map Value.string (f :: r)).length = r.length + 1 := by simp
    rw [hlen] at e hlc
    subst e
    have hzq' := unfrozen hcur off
    have hi0 : (0 : Int) < ((r.length + 1 : Nat) : Int) := by omega
    have hlr : r.length + 1 ≤ 9223372036854775807 := by unfold maxLen at hcm; omega
    have hq1 := QRow.set hq 0 (.string ⟨#[]⟩) (by simp)
    rw [Nat.add_zero, List.map_cons, List.set_cons_zero] at hq1
    have hcq : Chg (fun k => k = g ∨ Lab F lab 1 k) w (w.setCell ⟨gq, off, none⟩ (.string ⟨#[]⟩)) := Chg.setCell (F := fun k => k = g ∨ Lab F lab 1 k) w ⟨gq, off, none⟩ _ (.inr hFq)
    have hob1 : (w.setCell ⟨gq, off, none⟩ (.string ⟨#[]⟩)).heap[g]? = some (.cells (peCells m (.map (some gm)) (.slice (some ⟨gq, off, none⟩) (r.length + 1) cap) vC) 72 (0, 0)) := (Chg.setCell (F := fun k => k = gq) w ⟨gq, off, none⟩ (.string ⟨#[]⟩) rfl).keeps h.obj hbq'
    have HFin : Hid (∀ v, QRow (w.setCell ⟨gq, off, none⟩ (.string ⟨#[]⟩)) (Lab F lab 1) 9 v (r.map Value.string) →
        NextPost w F g { m with control := r } f (.returned (.string f)) ((w.setCell ⟨gq, off, none⟩ (.string ⟨#[]⟩)).setCell ⟨g, 14, none⟩ v)) := by
      intro v hv
      have hcs : Chg (fun k => k = g) (w.setCell ⟨gq, off, none⟩ (.string ⟨#[]⟩)) ((w.setCell ⟨gq, off, none⟩ (.string ⟨#[]⟩)).setCell ⟨g, 14, none⟩ v) := Chg.setCell (F := fun k => k = g) _ ⟨g, 14, none⟩ v rfl
      have hct' := hcq.trans' (hcs.mono (fun _ _ e => Or.inl e))
      refine ⟨rfl, ⟨lab, gm, v, vC, bs, h.setCtl { m with control := r } hct' ?_ (row_end hv hob1 (by decide) hcs) rfl rfl rfl rfl⟩, hct'.mono (fun k _ e => e.elim (fun e => by subst e; exact h.own.1) (fun e => e.1))⟩
      have ho := hob1
      generalize w.setCell ⟨gq, off, none⟩ (.string ⟨#[]⟩) = W at ho ⊢
      simp [World.setCell, Array.getElem?_modify, ho, peCells]
    have HT : Hid (QRow (w.setCell ⟨gq, off, none⟩ (.string ⟨#[]⟩)) (Lab F lab 1) 9 (.slice (if cap = 1 then some ⟨gq, off, none⟩ else some ⟨gq, off + 1, none⟩) r.length (cap - 1)) (r.map Value.string)) := by
      have := hq1.tail'
      rw [List.length_map] at this
      exact this
    have k141 := (pe_cells hob1).2.2.2.2.2.2.2.2.2.2.2.2.2.2.1
    have hz1 := unfrozen hob1
    clear h hi hl hq hE hB hct hq1 hcq hob1 hFq hcell hcur hlen
    go_enter Try.func52, Try.ntmps52
    go_wp2
    all_goals go_ret
    · refine HFin.out _ ?_
      have := HT.out
      rename_i h
      subst h
      simpa using this
    · refine HFin.out _ ?_
      have := HT.out
      rename_i h
      rw [if_neg h] at this
      exact this
end Go.Proofs.Ytnclmbolfpojoaa
