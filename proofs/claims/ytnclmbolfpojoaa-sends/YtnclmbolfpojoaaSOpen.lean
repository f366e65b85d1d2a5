/-
  New in a script: an end more on both sides.
-/
import Derived.Test.YtnclmbolfpojoaaSNew
import Derived.Test.YtnclmbolfpojoaaLent
namespace Go.Proofs.Ytnclmbolfpojoaa
open Go.RowKit
set_option linter.unusedVariables false
attribute [local go_sem ↓] Go.wp_at_zero Go.wp_at_succ
/-- as WI, while an end is being laid into the rows -/
structure WX (w : World) (B gW : Nat) (lab : Nat → Nat) (ve vr vl vm : Value) (xs : List Value) (ms : List ByteArray) (ge rr gs rs : List Nat) (mp : Nat → Mod) : Prop where
  base : B ≤ w.heap.size
  rowE : QRow w (Lab (Her B w.heap.size) lab 1) 53 ve (ge.map ptrV)
  rowR : QRow w (Lab (Her B w.heap.size) lab 2) 81 vr (rr.map ptrV)
  pe : ∀ i, i < gs.length → PEnd w (Lab (Her B w.heap.size) lab (2 * i + 3)) (gs.getD i 0) (mp i)
  re : ∀ i, i < gs.length → REnd w (Lab (Her B w.heap.size) lab (2 * i + 4)) (rs.getD i 0) (mp i)
  kept : Kept w B gW ve vr vl vm xs ms
  kin : KIn (Lab (Her B w.heap.size) lab 0) vl vm xs
  own : Lab (Her B w.heap.size) lab 0 gW
  len : xs.length = ms.length
theorem WX.wi {w : World} {B gW : Nat} {lab : Nat → Nat} {ve vr vl vm : Value} {xs : List Value} {ms : List ByteArray} {gs rs : List Nat} {mp : Nat → Mod} (h : WX w B gW lab ve vr vl vm xs ms gs rs gs rs mp) (hl : gs.length = rs.length) : WI w B gW lab ve vr vl vm xs ms gs rs mp mp :=
  ⟨⟨h.base, hl, h.rowE, h.rowR, h.pe, h.re⟩, h.kept, h.kin, h.own, h.len⟩
theorem WX.below {w w' : World} {B gW : Nat} {lab : Nat → Nat} {ve vr vl vm : Value} {xs : List Value} {ms : List ByteArray} {ge rr gs rs : List Nat} {mp : Nat → Mod} (h : WX w B gW lab ve vr vl vm xs ms ge rr gs rs mp) (hb : Below w.heap.size w w') (j : Nat) : WX w' B gW (relab lab w.heap.size j) ve vr vl vm xs ms ge rr gs rs mp := by
  have hc : Chg (fun _ => False) w w' := .of_below hb
  have hs := hb.size
  exact ⟨Nat.le_trans h.base hs, (h.rowE.keeps hc (fun _ _ _ _ _ => id)).mono (fun _ _ e => her_lab hs e), (h.rowR.keeps hc (fun _ _ _ _ _ => id)).mono (fun _ _ e => her_lab hs e), fun i hi => ((h.pe i hi).keeps hc (fun _ _ => id)).mono (fun _ _ e => her_lab hs e),
    fun i hi => ((h.re i hi).keeps hc (fun _ _ => id)).mono (fun _ _ e => her_lab hs e), h.kept.below hb, h.kin.mono (fun _ e => her_lab hs e), her_lab hs h.own, h.len⟩
/-- an end more, on both sides; the rows do not have it yet -/
theorem WI.more {w w1 w2 : World} {B gW : Nat} {lab : Nat → Nat} {ve vr vl vm : Value} {xs : List Value} {ms : List ByteArray} {gs rs : List Nat} {mp : Nat → Mod} (h : WI w B gW lab ve vr vl vm xs ms gs rs mp mp) {g r : Nat} {m0 : Mod} (hp : PEnd w1 (fun k => w.heap.size ≤ k) g m0) (hb1 : Below w.heap.size w w1)
    (hr : REnd w2 (fun k => w1.heap.size ≤ k) r m0) (hb2 : Below w1.heap.size w1 w2) :
    WX w2 B gW (relab (relab lab w.heap.size (2 * gs.length + 3)) w1.heap.size (2 * gs.length + 4)) ve vr vl vm xs ms gs rs (gs ++ [g]) (rs ++ [r]) (setAt mp gs.length m0) := by
  have h0 : WX w B gW lab ve vr vl vm xs ms gs rs gs rs mp := ⟨h.j.base, h.j.rowE, h.j.rowR, h.j.pe, h.j.re, h.kept, h.kin, h.own, h.len⟩
  have h2 := (h0.below hb1 (2 * gs.length + 3)).below hb2 (2 * gs.length + 4)
  have hB1 : B ≤ w1.heap.size := Nat.le_trans h0.base hb1.size
  have hgl : ∀ i, i < gs.length → (gs ++ [g]).getD i 0 = gs.getD i 0 := fun i hi => by rw [List.getD_eq_getElem?_getD, List.getElem?_append_left hi, ← List.getD_eq_getElem?_getD]
  have hrl : ∀ i, i < gs.length → (rs ++ [r]).getD i 0 = rs.getD i 0 := fun i hi => by rw [List.getD_eq_getElem?_getD, List.getElem?_append_left (by rw [← h.j.len]; exact hi), ← List.getD_eq_getElem?_getD]
  have hg0 : (gs ++ [g]).getD gs.length 0 = g := by simp
  have hr0 : (rs ++ [r]).getD gs.length 0 = r := by rw [h.j.len]; simp
  have hm : ∀ i, i < gs.length → setAt mp gs.length m0 i = mp i := fun i hi => by unfold setAt; rw [if_neg (by omega)]
  have hm0 : setAt mp gs.length m0 gs.length = m0 := by unfold setAt; rw [if_pos rfl]
  refine ⟨h2.base, h2.rowE, h2.rowR, fun i hi => ?_, fun i hi => ?_, h2.kept, h2.kin, h2.own, h2.len⟩
  · by_cases e : i < gs.length
    · rw [hgl i e, hm i e]
      exact h2.pe i e
    · obtain rfl : i = gs.length := by rw [List.length_append, List.length_singleton] at hi; omega
      rw [hg0, hm0]
      have h3 : PEnd w1 (Lab (Her B w1.heap.size) (relab lab w.heap.size (2 * gs.length + 3)) (2 * gs.length + 3)) g m0 := hp.mono (fun k hk e => ⟨⟨Nat.le_trans h0.base e, hk⟩, by unfold relab; rw [if_neg (by omega)]⟩)
      exact (h3.keeps (G := fun _ => False) (.of_below hb2) (fun _ _ => id)).mono (fun k _ e => her_lab hb2.size e)
  · by_cases e : i < gs.length
    · rw [hrl i e, hm i e]
      exact h2.re i e
    · obtain rfl : i = gs.length := by rw [List.length_append, List.length_singleton] at hi; omega
      rw [hr0, hm0]
      exact hr.mono (fun k hk e => ⟨⟨Nat.le_trans hB1 e, hk⟩, by unfold relab; rw [if_neg (by omega)]⟩)
theorem kin_ne {w : World} {B gW : Nat} {ve vr vl vm : Value} {xs : List Value} {ms : List ByteArray} {K : Nat → Prop} (h : Kept w B gW ve vr vl vm xs ms) (hl : xs.length = ms.length) (hi : KIn K vl vm xs) : KIn (fun k => K k ∧ k ≠ gW) vl vm xs := by
  obtain ⟨_, hW, h3, h4, h5⟩ := h
  have hb : ∀ {e n : Nat} {v : Value} {ys : List Value}, e ≠ 29 → w.ownsRow B e 1 v n ys → ∀ k, v.ownBlock = some k → k ≠ gW := by
    rintro e n v ys he ho k hk rfl
    obtain ⟨cur, t, fz, hg, ht⟩ := own_row ho k hk
    rw [hW] at hg
    simp at hg
    exact he (ht.symm.trans hg.2.1.symm)
  refine ⟨fun k hk => ⟨hi.1 k hk, hb (by decide) h3 k hk⟩, fun k hk => ⟨hi.2.1 k hk, hb (by decide) h4 k hk⟩, fun x hx k hk => ⟨hi.2.2 x hx k hk, ?_⟩⟩
  obtain ⟨y, hy⟩ := mem_zip xs ms hl x hx
  obtain ⟨⟨j, hj⟩, _⟩ := h5 _ hy
  exact hb (by decide) hj k hk
/-- the row of the program's ends has one more -/
theorem WX.addE {w w4 : World} {B gW x : Nat} {lab : Nat → Nat} {ve ve' vr vl vm : Value} {xs : List Value} {ms : List ByteArray} {ge rr gs rs : List Nat} {mp : Nat → Mod} (h : WX w B gW lab ve vr vl vm xs ms ge rr gs rs mp)
    (hq : QRow w4 (Up (Lab (Her B w.heap.size) lab 1) w.heap.size) 53 ve' (ge.map ptrV ++ [ptrV x])) (hc : Chg (RowOf w (Lab (Her B w.heap.size) lab 1) 53) w w4) :
    ∃ lab', WX (w4.setCell ⟨gW, 0, none⟩ ve') B gW lab' ve' vr vl vm xs ms (ge ++ [x]) rr gs rs mp ∧ Below B w (w4.setCell ⟨gW, 0, none⟩ ve') := by
  have hc1 : Chg (Lab (Her B w.heap.size) lab 1) w w4 := hc.mono (fun k _ e => e.1)
  have hs := hc1.size
  have hBg := h.kept.1
  have hob4 := hc.rowKind h.kept.2.1 (by decide)
  have hc2 : Chg (fun k => k = gW) w4 (w4.setCell ⟨gW, 0, none⟩ ve') := Chg.setCell w4 ⟨gW, 0, none⟩ ve' rfl
  have hsz : (w4.setCell ⟨gW, 0, none⟩ ve').heap.size = w4.heap.size := by simp [World.setCell]
  have hG : Chg (fun k => Lab (Her B w.heap.size) lab 1 k ∨ k = gW) w (w4.setCell ⟨gW, 0, none⟩ ve') := (hc1.mono (fun _ _ e => .inl e)).trans' (hc2.mono (fun _ _ e => .inr e))
  have hne : ∀ {i k}, i ≠ 0 → i ≠ 1 → Lab (Her B w.heap.size) lab i k → ¬ (Lab (Her B w.heap.size) lab 1 k ∨ k = gW) := by
    rintro i k h0 h1 hk (e | e)
    · exact hk.ne h1 e
    · exact hk.ne h0 (e ▸ h.own)
  refine ⟨relab lab w.heap.size 1, ⟨?_, ?_, ?_, ?_, ?_, ?_, ?_, ?_, h.len⟩, (hc1.below h.base (fun k e => e.1.1)).setCell (p := ⟨gW, 0, none⟩) hBg ve'⟩
  · rw [hsz]; exact Nat.le_trans h.base hs
  · rw [hsz, List.map_append, List.map_singleton]
    refine (hq.keeps hc2 ?_).mono (fun k hk e => her_new hs h.base (by rw [hsz] at hk; exact hk) e)
    rintro k cur fz _ hk rfl
    rw [hob4] at hk
    simp at hk
  · rw [hsz]
    exact (h.rowR.keeps hG (fun k _ _ hk _ => hne (by omega) (by omega) hk)).mono (fun _ _ e => her_lab hs e)
  · intro i hi
    rw [hsz]
    exact ((h.pe i hi).keeps hG (fun k hk => hne (by omega) (by omega) hk)).mono (fun _ _ e => her_lab hs e)
  · intro i hi
    rw [hsz]
    exact ((h.re i hi).keeps hG (fun k hk => hne (by omega) (by omega) hk)).mono (fun _ _ e => her_lab hs e)
  · have hk := kin_ne h.kept h.len h.kin
    have hn : ∀ k, (Lab (Her B w.heap.size) lab 0 k ∧ k ≠ gW) → ¬ (Lab (Her B w.heap.size) lab 1 k ∨ k = gW) := by
      rintro k ⟨e0, e1⟩ (e | e)
      · exact e0.ne (by omega) e
      · exact e1 e
    obtain ⟨h1, h2, h3, h4, h5⟩ := h.kept
    refine ⟨h1, ?_, own_chg h3 hk.1 hG hn, own_chg h4 hk.2.1 hG hn, fun p hp => ?_⟩
    · simp [World.setCell, Array.getElem?_modify, hob4]
    · obtain ⟨⟨k, hj⟩, hss⟩ := h5 p hp
      exact ⟨⟨k, own_chg hj (hk.2.2 p.1 (List.of_mem_zip hp).1) hG hn⟩, hss⟩
  · rw [hsz]; exact h.kin.mono (fun _ e => her_lab hs e)
  · rw [hsz]; exact her_lab hs h.own
/-- the row of the document's ends has one more -/
theorem WX.addR {w w4 : World} {B gW x : Nat} {lab : Nat → Nat} {ve vr vr' vl vm : Value} {xs : List Value} {ms : List ByteArray} {ge rr gs rs : List Nat} {mp : Nat → Mod} (h : WX w B gW lab ve vr vl vm xs ms ge rr gs rs mp)
    (hq : QRow w4 (Up (Lab (Her B w.heap.size) lab 2) w.heap.size) 81 vr' (rr.map ptrV ++ [ptrV x])) (hc : Chg (RowOf w (Lab (Her B w.heap.size) lab 2) 81) w w4) :
    ∃ lab', WX (w4.setCell ⟨gW, 1, none⟩ vr') B gW lab' ve vr' vl vm xs ms ge (rr ++ [x]) gs rs mp ∧ Below B w (w4.setCell ⟨gW, 1, none⟩ vr') := by
  have hc1 : Chg (Lab (Her B w.heap.size) lab 2) w w4 := hc.mono (fun k _ e => e.1)
  have hs := hc1.size
  have hBg := h.kept.1
  have hob4 := hc.rowKind h.kept.2.1 (by decide)
  have hc2 : Chg (fun k => k = gW) w4 (w4.setCell ⟨gW, 1, none⟩ vr') := Chg.setCell w4 ⟨gW, 1, none⟩ vr' rfl
  have hsz : (w4.setCell ⟨gW, 1, none⟩ vr').heap.size = w4.heap.size := by simp [World.setCell]
  have hG : Chg (fun k => Lab (Her B w.heap.size) lab 2 k ∨ k = gW) w (w4.setCell ⟨gW, 1, none⟩ vr') := (hc1.mono (fun _ _ e => .inl e)).trans' (hc2.mono (fun _ _ e => .inr e))
  have hne : ∀ {i k}, i ≠ 0 → i ≠ 2 → Lab (Her B w.heap.size) lab i k → ¬ (Lab (Her B w.heap.size) lab 2 k ∨ k = gW) := by
    rintro i k h0 h1 hk (e | e)
    · exact hk.ne h1 e
    · exact hk.ne h0 (e ▸ h.own)
  refine ⟨relab lab w.heap.size 2, ⟨?_, ?_, ?_, ?_, ?_, ?_, ?_, ?_, h.len⟩, (hc1.below h.base (fun k e => e.1.1)).setCell (p := ⟨gW, 1, none⟩) hBg vr'⟩
  · rw [hsz]; exact Nat.le_trans h.base hs
  · rw [hsz]
    exact (h.rowE.keeps hG (fun k _ _ hk _ => hne (by omega) (by omega) hk)).mono (fun _ _ e => her_lab hs e)
  · rw [hsz, List.map_append, List.map_singleton]
    refine (hq.keeps hc2 ?_).mono (fun k hk e => her_new hs h.base (by rw [hsz] at hk; exact hk) e)
    rintro k cur fz _ hk rfl
    rw [hob4] at hk
    simp at hk
  · intro i hi
    rw [hsz]
    exact ((h.pe i hi).keeps hG (fun k hk => hne (by omega) (by omega) hk)).mono (fun _ _ e => her_lab hs e)
  · intro i hi
    rw [hsz]
    exact ((h.re i hi).keeps hG (fun k hk => hne (by omega) (by omega) hk)).mono (fun _ _ e => her_lab hs e)
  · have hk := kin_ne h.kept h.len h.kin
    have hn : ∀ k, (Lab (Her B w.heap.size) lab 0 k ∧ k ≠ gW) → ¬ (Lab (Her B w.heap.size) lab 2 k ∨ k = gW) := by
      rintro k ⟨e0, e1⟩ (e | e)
      · exact e0.ne (by omega) e
      · exact e1 e
    obtain ⟨h1, h2, h3, h4, h5⟩ := h.kept
    refine ⟨h1, ?_, own_chg h3 hk.1 hG hn, own_chg h4 hk.2.1 hG hn, fun p hp => ?_⟩
    · simp [World.setCell, Array.getElem?_modify, hob4]
    · obtain ⟨⟨k, hj⟩, hss⟩ := h5 p hp
      exact ⟨⟨k, own_chg hj (hk.2.2 p.1 (List.of_mem_zip hp).1) hG hn⟩, hss⟩
  · rw [hsz]; exact h.kin.mono (fun _ e => her_lab hs e)
  · rw [hsz]; exact her_lab hs h.own
def OpenPost (w : World) (B gW : Nat) (vl vm : Value) (xs : List Value) (ms : List ByteArray) (gs : List Nat) (N : Nat) (e : Ending) (w' : World) : Prop :=
  e = .returned (.bool true) ∧ Below B w w' ∧ ∃ lab' ve' vr' gs' rs' mp', WI w' B gW lab' ve' vr' vl vm xs ms gs' rs' mp' mp' ∧ gs'.length ≤ gs.length + 1 ∧ ∀ i, i < gs'.length → Snd N (mp' i)
theorem info_pe : (Try.prog.info? 53).map (fun i => (i.zero, i.size, i.bytes)) = some (some (.pointer none), 1, 8) := by kernel_rfl
theorem info_re : (Try.prog.info? 81).map (fun i => (i.zero, i.size, i.bytes)) = some (some (.pointer none), 1, 8) := by kernel_rfl
set_option maxHeartbeats 2000000 in
set_option maxRecDepth 100000 in
theorem opens_no {w : World} {B gW : Nat} {lab : Nat → Nat} {ve vr vl vm : Value} {xs : List Value} {ms : List ByteArray} {gs rs : List Nat} {mp : Nat → Mod} (h : WI w B gW lab ve vr vl vm xs ms gs rs mp mp) {N : Nat} (hs : ∀ i, i < gs.length → Snd N (mp i))
    (c0 c1 c2 c3 c4 c5 c6 c7 c8 c9 : Int) (hc : cfgB c0 c1 c2 c3 c4 c5 c6 c7 c8 c9 = false) :
    Calls Try.prog 26 #[.pointer (some ⟨gW, 0, none⟩), .agg #[.int .i64 c0, .int .i64 c1, .int .i64 c2, .int .i64 c3, .int .i64 c4, .int .i64 c5, .int .i64 c6, .int .i64 c7, .int .i64 c8, .int .i64 c9]] w fun e w' => OpenPost w B gW vl vm xs ms gs N e w' := by
  have H := hid h
  have HS := hid hs
  have HP := hid (fun W => pnew_none c0 c1 c2 c3 c4 c5 c6 c7 c8 c9 hc W)
  have HR := hid (fun W => rnew_none c0 c1 c2 c3 c4 c5 c6 c7 c8 c9 hc W)
  clear h hs hc
  go_enter Try.func26, Try.ntmps26
  go_wp2_with fail
  have hb0 := below_alloc w (.cells #[.int .i64 c0, .int .i64 c1, .int .i64 c2, .int .i64 c3, .int .i64 c4, .int .i64 c5, .int .i64 c6, .int .i64 c7, .int .i64 c8, .int .i64 c9] 47)
  have ho0 : (w.alloc (.cells #[.int .i64 c0, .int .i64 c1, .int .i64 c2, .int .i64 c3, .int .i64 c4, .int .i64 c5, .int .i64 c6, .int .i64 c7, .int .i64 c8, .int .i64 c9] 47)).heap[w.heap.size]? = some (.cells #[.int .i64 c0, .int .i64 c1, .int .i64 c2, .int .i64 c3, .int .i64 c4, .int .i64 c5, .int .i64 c6, .int .i64 c7, .int .i64 c8, .int .i64 c9] 47 (0, 0)) := heap_alloc_new w _
  generalize w.alloc (.cells #[.int .i64 c0, .int .i64 c1, .int .i64 c2, .int .i64 c3, .int .i64 c4, .int .i64 c5, .int .i64 c6, .int .i64 c7, .int .i64 c8, .int .i64 c9] 47) = w0 at *
  refine (HP.out _).mono ?_
  rintro e w1 ⟨rfl, hb1⟩
  have ho1 := (hb1.block _ (heap_some ho0)).trans ho0
  have hb01 := hb0.trans (hb1.mono hb0.size)
  have k0 : w1.cell? ⟨w.heap.size, 0, none⟩ = some (.int .i64 c0) := Lib.cell_of_heap ho1 0
  have k1 : w1.cell? ⟨w.heap.size, 1, none⟩ = some (.int .i64 c1) := Lib.cell_of_heap ho1 1
  have k2 : w1.cell? ⟨w.heap.size, 2, none⟩ = some (.int .i64 c2) := Lib.cell_of_heap ho1 2
  have k3 : w1.cell? ⟨w.heap.size, 3, none⟩ = some (.int .i64 c3) := Lib.cell_of_heap ho1 3
  have k4 : w1.cell? ⟨w.heap.size, 4, none⟩ = some (.int .i64 c4) := Lib.cell_of_heap ho1 4
  have k5 : w1.cell? ⟨w.heap.size, 5, none⟩ = some (.int .i64 c5) := Lib.cell_of_heap ho1 5
  have k6 : w1.cell? ⟨w.heap.size, 6, none⟩ = some (.int .i64 c6) := Lib.cell_of_heap ho1 6
  have k7 : w1.cell? ⟨w.heap.size, 7, none⟩ = some (.int .i64 c7) := Lib.cell_of_heap ho1 7
  have k8 : w1.cell? ⟨w.heap.size, 8, none⟩ = some (.int .i64 c8) := Lib.cell_of_heap ho1 8
  have k9 : w1.cell? ⟨w.heap.size, 9, none⟩ = some (.int .i64 c9) := Lib.cell_of_heap ho1 9
  clear ho0 hb0 hb1 ho1
  go_wp2_with fail
  refine (HR.out _).mono ?_
  rintro e w2 ⟨rfl, hb2⟩
  have hbf := hb01.trans (hb2.mono hb01.size)
  have HBF := hid hbf
  clear hb01 hb2 hbf k0 k1 k2 k3 k4 k5 k6 k7 k8 k9
  go_wp2_with (go_at_call 45; refine (num_calls _ _).mono ?_; rintro e wz ⟨rfl, hw⟩; replace hw := hw.symm; subst hw)
  go_ret
  obtain ⟨labf, hwf⟩ := H.out.below HBF.out
  exact ⟨rfl, HBF.out.mono H.out.j.base, labf, ve, vr, gs, rs, mp, hwf, Nat.le_succ _, HS.out⟩
set_option maxHeartbeats 4000000 in
set_option maxRecDepth 100000 in
theorem opens_yes {w : World} {B gW : Nat} {lab : Nat → Nat} {ve vr vl vm : Value} {xs : List Value} {ms : List ByteArray} {gs rs : List Nat} {mp : Nat → Mod} (h : WI w B gW lab ve vr vl vm xs ms gs rs mp mp) {N : Nat} (hs : ∀ i, i < gs.length → Snd N (mp i)) (hgl : gs.length ≤ 2199023255552)
    (c : Cfg) (hc : c.Ok) :
    Calls Try.prog 26 #[.pointer (some ⟨gW, 0, none⟩), .agg (cfgCells c)] w fun e w' => OpenPost w B gW vl vm xs ms gs N e w' := by
  have H := hid h
  have HS := hid hs
  have HP := hid (fun W => pnew_calls c hc W)
  have HR := hid (fun W => rnew_yes c hc W)
  have HF := hid (Snd.fresh N hc)
  obtain ⟨ip, hip, hzp⟩ := Option.map_eq_some_iff.1 info_pe
  simp only [Prod.mk.injEq] at hzp
  have HIP := hid hip
  have HZP := hid hzp
  obtain ⟨ir, hir, hzr⟩ := Option.map_eq_some_iff.1 info_re
  simp only [Prod.mk.injEq] at hzr
  have HIR := hid hir
  have HZR := hid hzr
  clear h hs hc hip hzp hir hzr
  unfold cfgCells at HP HR ⊢
  go_enter Try.func26, Try.ntmps26
  go_wp2_with fail
  have hb0 := below_alloc w (.cells #[.int .i64 c.n, .int .i64 c.w0, .int .i64 c.w1, .int .i64 c.w2, .int .i64 c.w3, .int .i64 c.quantum, .int .i64 c.chunk, .int .i64 c.window, .int .i64 c.queue, .int .i64 c.patience] 47)
  have ho0 : (w.alloc (.cells #[.int .i64 c.n, .int .i64 c.w0, .int .i64 c.w1, .int .i64 c.w2, .int .i64 c.w3, .int .i64 c.quantum, .int .i64 c.chunk, .int .i64 c.window, .int .i64 c.queue, .int .i64 c.patience] 47)).heap[w.heap.size]? = some (.cells #[.int .i64 c.n, .int .i64 c.w0, .int .i64 c.w1, .int .i64 c.w2, .int .i64 c.w3, .int .i64 c.quantum, .int .i64 c.chunk, .int .i64 c.window, .int .i64 c.queue, .int .i64 c.patience] 47 (0, 0)) := heap_alloc_new w _
  generalize w.alloc (.cells #[.int .i64 c.n, .int .i64 c.w0, .int .i64 c.w1, .int .i64 c.w2, .int .i64 c.w3, .int .i64 c.quantum, .int .i64 c.chunk, .int .i64 c.window, .int .i64 c.queue, .int .i64 c.patience] 47) = w0 at *
  refine (HP.out _).mono ?_
  rintro e w1 ⟨g, rfl, hp1, hb1⟩
  have ho1 := (hb1.block _ (heap_some ho0)).trans ho0
  have hb01 := hb0.trans (hb1.mono hb0.size)
  have hp1' := hp1.mono (G := fun k => w.heap.size ≤ k) (fun k _ e => Nat.le_trans hb0.size e)
  have HP1 := hid hp1'
  have k0 : w1.cell? ⟨w.heap.size, 0, none⟩ = some (.int .i64 c.n) := Lib.cell_of_heap ho1 0
  have k1 : w1.cell? ⟨w.heap.size, 1, none⟩ = some (.int .i64 c.w0) := Lib.cell_of_heap ho1 1
  have k2 : w1.cell? ⟨w.heap.size, 2, none⟩ = some (.int .i64 c.w1) := Lib.cell_of_heap ho1 2
  have k3 : w1.cell? ⟨w.heap.size, 3, none⟩ = some (.int .i64 c.w2) := Lib.cell_of_heap ho1 3
  have k4 : w1.cell? ⟨w.heap.size, 4, none⟩ = some (.int .i64 c.w3) := Lib.cell_of_heap ho1 4
  have k5 : w1.cell? ⟨w.heap.size, 5, none⟩ = some (.int .i64 c.quantum) := Lib.cell_of_heap ho1 5
  have k6 : w1.cell? ⟨w.heap.size, 6, none⟩ = some (.int .i64 c.chunk) := Lib.cell_of_heap ho1 6
  have k7 : w1.cell? ⟨w.heap.size, 7, none⟩ = some (.int .i64 c.window) := Lib.cell_of_heap ho1 7
  have k8 : w1.cell? ⟨w.heap.size, 8, none⟩ = some (.int .i64 c.queue) := Lib.cell_of_heap ho1 8
  have k9 : w1.cell? ⟨w.heap.size, 9, none⟩ = some (.int .i64 c.patience) := Lib.cell_of_heap ho1 9
  clear ho0 hb0 hb1 ho1 hp1 hp1'
  unfold ptrV
  go_wp2_with fail
  refine (HR.out _).mono ?_
  rintro e w2 ⟨r, rfl, hr2, hb2⟩
  have hx := H.out.more HP1.out hb01 hr2 hb2
  have HX := hid hx
  have hB2 := (hb01.trans (hb2.mono hb01.size))
  have HB2 := hid (hB2.mono H.out.j.base)
  have hWc := Lib.cell_of_heap hx.kept.2.1
  have v0 : w2.cell? ⟨gW, 0, none⟩ = some ve := hWc 0
  have hgWlt := heap_some hx.kept.2.1
  obtain ⟨al, cl, rfl⟩ := hx.rowE.slice
  rw [List.length_map] at v0
  clear hb01 hb2 hr2 hx hB2 hWc k0 k1 k2 k3 k4 k5 k6 k7 k8 k9
  have hba := below_alloc w2 (.cells #[.pointer (some ⟨g, 0, none⟩)] 53)
  have HXA := hid (HX.out.below hba 0)
  have hzA : (w2.alloc (.cells #[.pointer (some ⟨g, 0, none⟩)] 53)).heap.size = w2.heap.size + 1 := World.size_alloc _ _
  have HBA := hid hba
  clear hba
  unfold ptrV
  go_wp2_with (first
    | (go_at_call 45; refine (num_calls _ _).mono ?_; rintro e wz ⟨rfl, hw⟩; replace hw := hw.symm; subst hw)
    | (at_builtin; refine wpList_append_r _ rfl _ _ 24 rfl (Lab (Her B (w2.alloc (.cells #[.pointer (some ⟨g, 0, none⟩)] 53)).heap.size) (relab (relab (relab lab w.heap.size (2 * gs.length + 3)) w1.heap.size (2 * gs.length + 4)) w2.heap.size 0) 1) 53 ip (.pointer none) 8 Try.underlying24 HIP.out HZP.out.1 HZP.out.2.1 HZP.out.2.2 rfl _ (gs.map ptrV) rfl (by have := HXA.out.rowE; rw [List.length_map] at this; exact this) ⟨w2.heap.size, 0, none⟩ 1 (.pointer (some ⟨g, 0, none⟩)) rfl (cell_one w2 _ _) rfl (by rw [List.length_map]; unfold maxLen; omega) (by rw [List.length_map]; omega) ?_))
  intro v4 w4 hq4 hc4
  obtain ⟨a4, l4, rfl⟩ := hq4.slice
  rw [List.length_append, List.length_map, List.length_singleton] at hq4
  have hob4 := hc4.rowKind HXA.out.kept.2.1 (by decide)
  have hf4 := unfrozen hob4
  have u0 : w4.cell? ⟨gW, 0, none⟩ = some (.slice al gs.length cl) := by have := Lib.cell_of_heap hob4 0; simpa using this
  have u1 : w4.cell? ⟨gW, 1, none⟩ = some vr := Lib.cell_of_heap hob4 1
  have hg4 := heap_some hob4
  obtain ⟨lab5, h5, hb5⟩ := HXA.out.addE (x := g) (by rw [hzA]; exact hq4) (by rw [hzA]; exact hc4)
  have H5 := hid h5
  have HB5 := hid hb5
  obtain ⟨ar, cr, rfl⟩ := h5.rowR.slice
  rw [List.length_map] at u1 H5
  clear hq4 hc4 hob4 h5 hb5 v0
  have hbb := below_alloc (w4.setCell ⟨gW, 0, none⟩ (.slice a4 (gs.length + 1) l4)) (.cells #[.pointer (some ⟨r, 0, none⟩)] 81)
  have HXB := hid (H5.out.below hbb 0)
  have hzB : ((w4.setCell ⟨gW, 0, none⟩ (.slice a4 (gs.length + 1) l4)).alloc (.cells #[.pointer (some ⟨r, 0, none⟩)] 81)).heap.size = w4.heap.size + 1 := by rw [World.size_alloc]; simp [World.setCell]
  have hz5 : (w4.setCell ⟨gW, 0, none⟩ (.slice a4 (gs.length + 1) l4)).heap.size = w4.heap.size := by simp [World.setCell]
  have HBB := hid hbb
  have hrl : rs.length ≤ 2199023255552 := by rw [← H.out.j.len]; exact hgl
  clear hbb
  go_wp2_with (at_builtin; refine wpList_append_r _ rfl _ _ 25 rfl (Lab (Her B ((w4.setCell ⟨gW, 0, none⟩ (.slice a4 (gs.length + 1) l4)).alloc (.cells #[.pointer (some ⟨r, 0, none⟩)] 81)).heap.size) (relab lab5 (w4.setCell ⟨gW, 0, none⟩ (.slice a4 (gs.length + 1) l4)).heap.size 0) 2) 81 ir (.pointer none) 8 Try.underlying25 HIR.out HZR.out.1 HZR.out.2.1 HZR.out.2.2 rfl _ (rs.map ptrV) rfl HXB.out.rowR ⟨w4.heap.size, 0, none⟩ 1 (.pointer (some ⟨r, 0, none⟩)) rfl (by rw [← hz5]; exact cell_one _ _ _) rfl (by rw [List.length_map]; unfold maxLen; omega) (by rw [List.length_map]; omega) ?_)
  intro v6 w6 hq6 hc6
  obtain ⟨a6, l6, rfl⟩ := hq6.slice
  rw [List.length_append, List.length_map, List.length_singleton] at hq6
  have hob6 := hc6.rowKind HXB.out.kept.2.1 (by decide)
  have hf6 := unfrozen hob6
  have t1 : w6.cell? ⟨gW, 1, none⟩ = some (.slice ar rs.length cr) := by have := Lib.cell_of_heap hob6 1; simpa using this
  have hg6 := heap_some hob6
  obtain ⟨lab7, h7, hb7⟩ := HXB.out.addR (x := r) (by rw [hzB, hz5]; exact hq6) (by rw [hzB, hz5]; exact hc6)
  have H7 := hid h7
  have HB7 := hid hb7
  clear hq6 hc6 hob6 h7 hb7 u1 u0
  go_wp2_with fail
  go_ret
  have hln : (gs ++ [g]).length = (rs ++ [r]).length := by rw [List.length_append, List.length_append, H.out.j.len]; rfl
  refine ⟨rfl, ((((HB2.out.trans (HBA.out.mono HX.out.base)).trans HB5.out).trans (HBB.out.mono H5.out.base)).trans HB7.out), lab7, _, _, gs ++ [g], rs ++ [r], _, H7.out.wi hln, by simp, fun i hi => ?_⟩
  unfold setAt
  split
  · exact HF.out
  · rename_i e
    exact HS.out i (by rw [List.length_append, List.length_singleton] at hi; omega)
end Go.Proofs.Ytnclmbolfpojoaa
