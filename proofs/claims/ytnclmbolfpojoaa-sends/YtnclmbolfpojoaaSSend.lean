/-
  The calls of stage 2 on an end, by the program and by the document: the same answers.
-/
import Derived.Test.YtnclmbolfpojoaaSBack
namespace Go.Proofs.Ytnclmbolfpojoaa
open Go.RowKit
set_option linter.unusedVariables false
attribute [local go_sem ↓] Go.wp_at_zero Go.wp_at_succ
/-- what is no end's has not turned -/
def Still (B : Nat) (lab : Nat → Nat) (w w' : World) : Prop := ∀ k, B ≤ k → k < w.heap.size → lab k = 0 → w'.heap[k]? = w.heap[k]?
theorem Still.below {B : Nat} {lab : Nat → Nat} {w w' : World} (h : Below w.heap.size w w') : Still B lab w w' := fun k _ hk _ => h.block k hk
theorem Still.chg {B j : Nat} {lab : Nat → Nat} {w w' : World} (hj : j ≠ 0) (h : Chg (Lab (Her B w.heap.size) lab j) w w') : Still B lab w w' := fun k _ hk e => h.block k hk (fun x => hj (x.2.symm.trans e))
theorem Still.trans {B : Nat} {lab lab' : Nat → Nat} {w w1 w2 : World} (h : Still B lab w w1) (h2 : Still B lab' w1 w2) (hl : ∀ k, k < w.heap.size → lab' k = lab k) (hs : w.heap.size ≤ w1.heap.size) : Still B lab w w2 :=
  fun k hB hk e => (h2 k hB (Nat.lt_of_lt_of_le hk hs) ((hl k hk).trans e)).trans (h k hB hk e)
theorem relab_lt {lab : Nat → Nat} {n j k : Nat} (h : k < n) : relab lab n j k = lab k := by unfold relab; rw [if_pos h]
def SPost (w : World) (B gW : Nat) (lab : Nat → Nat) (ve vr vl vm : Value) (xs : List Value) (ms : List ByteArray) (gs rs : List Nat) (mp : Nat → Mod) (i N : Nat) (e : Ending) (w' : World) : Prop :=
  e = .returned (.bool true) ∧ Below B w w' ∧ Still B lab w w' ∧ ∃ lab' m', WI w' B gW lab' ve vr vl vm xs ms gs rs (setAt mp i m') (setAt mp i m') ∧ Snd (N + 1) m'
theorem setAt_self (f : Nat → Mod) (i : Nat) : setAt f i (f i) = f := by
  funext j
  unfold setAt
  split
  · rename_i e; rw [e]
  · rfl
theorem her_le {B n j k : Nat} {lab : Nat → Nat} (h : Lab (Her B n) lab j k) : B ≤ k := h.1.1
theorem wi_le {w : World} {B gW : Nat} {lab : Nat → Nat} {ve vr vl vm : Value} {xs : List Value} {ms : List ByteArray} {gs rs : List Nat} {mp mr : Nat → Mod} (h : WI w B gW lab ve vr vl vm xs ms gs rs mp mr) : B ≤ w.heap.size := h.j.base
set_option maxHeartbeats 2000000 in
set_option maxRecDepth 100000 in
theorem sends_cancel {w : World} {B gW : Nat} {lab : Nat → Nat} {ve vr vl vm : Value} {xs : List Value} {ms : List ByteArray} {gs rs : List Nat} {mp : Nat → Mod} (h : WI w B gW lab ve vr vl vm xs ms gs rs mp mp) {i N : Nat} (hi : i < gs.length) (hs : Snd N (mp i)) (hN : N ≤ 1099511627779)
    (A Bb D W : Int) (s : ByteArray) (a : Option Addr) (n cap : Nat) (c0 c1 c2 c3 c4 c5 c6 c7 c8 c9 : Int) :
    Calls Try.prog 36 #[.pointer (some ⟨gW, 0, none⟩), ptrV (gs.getD i 0), ptrV (rs.getD i 0), .agg #[.int .i64 6, .int .i64 A, .int .i64 Bb, .int .i64 D, .int .i64 W, .string s, .slice a n cap, .int .i64 c0, .int .i64 c1, .int .i64 c2, .int .i64 c3, .int .i64 c4, .int .i64 c5, .int .i64 c6, .int .i64 c7, .int .i64 c8, .int .i64 c9]] w
      fun e w' => SPost w B gW lab ve vr vl vm xs ms gs rs mp i N e w' := by
  have H := hid h
  have HS := hid hs
  have hctl := hs.1.small.ctl
  clear h hs
  obtain ⟨g, hg⟩ : ∃ g, gs.getD i 0 = g := ⟨_, rfl⟩
  obtain ⟨r, hr⟩ : ∃ r, rs.getD i 0 = r := ⟨_, rfl⟩
  have HG := hid hg
  have HR := hid hr
  rw [hg, hr]
  clear hg hr
  unfold ptrV
  go_enter Try.func36, Try.ntmps36
  go_wp2_with fail
  have hb0 := below_alloc w (.cells #[.int .i64 6, .int .i64 A, .int .i64 Bb, .int .i64 D, .int .i64 W, .string s, .slice a n cap, .int .i64 c0, .int .i64 c1, .int .i64 c2, .int .i64 c3, .int .i64 c4, .int .i64 c5, .int .i64 c6, .int .i64 c7, .int .i64 c8, .int .i64 c9] 62)
  have k1 : (w.alloc (.cells #[.int .i64 6, .int .i64 A, .int .i64 Bb, .int .i64 D, .int .i64 W, .string s, .slice a n cap, .int .i64 c0, .int .i64 c1, .int .i64 c2, .int .i64 c3, .int .i64 c4, .int .i64 c5, .int .i64 c6, .int .i64 c7, .int .i64 c8, .int .i64 c9] 62)).cell? ⟨w.heap.size, 1, none⟩ = some (.int .i64 A) := by simp
  generalize w.alloc (.cells #[.int .i64 6, .int .i64 A, .int .i64 Bb, .int .i64 D, .int .i64 W, .string s, .slice a n cap, .int .i64 c0, .int .i64 c1, .int .i64 c2, .int .i64 c3, .int .i64 c4, .int .i64 c5, .int .i64 c6, .int .i64 c7, .int .i64 c8, .int .i64 c9] 62) = w0 at *
  have h0 := H.out.below0 hb0
  have hpc := pcancel_calls (h0.j.pe i hi) HS.out.1.inv (by omega) A
  rw [HG.out] at hpc
  unfold ptrV at hpc
  refine hpc.mono ?_
  rintro e w1 ⟨rfl, hp1, hc1⟩
  have k2 : w1.cell? ⟨w.heap.size, 1, none⟩ = some (.int .i64 A) := hc1.cell (a := ⟨w.heap.size, 1, none⟩) (new_apart (by omega) (Nat.le_refl _)) k1
  have hsz0 := hb0.size
  have hst1 : Still B lab w w1 := (Still.below hb0).trans (Still.chg (by omega) hc1) (fun k hk => relab_lt hk) hsz0
  have hsz1 := hc1.size
  have h1 := h0.pstep0 (by rw [HG.out]; exact hp1) hc1
  have HB1 := hid ((hb0.mono (wi_le H.out)).trans (hc1.below (wi_le h0) (fun k e => her_le e)))
  have H1 := hid h1
  clear h0 hpc hp1 hc1 k1 hb0 h1
  go_wp2_with fail
  have hrc := rcancel_calls (H1.out.j.re i hi) A (by rw [HS.out.1.inv.len]; exact HS.out.1.inv.c.n4) (by omega)
  rw [HR.out] at hrc
  unfold ptrV at hrc
  refine hrc.mono ?_
  rintro e w2 ⟨rfl, hp2, hc2⟩
  have HST2 : Hid (Still B lab w w2) := hst1.trans (Still.chg (by omega) hc2) (fun k hk => by rw [relab_lt (Nat.lt_of_lt_of_le hk hsz0), relab_lt hk]) (Nat.le_trans hsz0 hsz1)
  obtain ⟨lab2, h2⟩ := H1.out.rstep (by rw [HR.out]; exact hp2) hc2
  have HB2 := hid (HB1.out.trans (hc2.below (wi_le H1.out) (fun k e => her_le e)))
  have H2 := hid h2
  clear hrc hp2 hc2 h2 k2
  obtain ⟨y, hy⟩ : ∃ y : Int, (((mp i).cancelE A : Nat) : Int) = y := ⟨_, rfl⟩
  rw [hy]
  clear hy
  have hyy : (y == y) = true := by simp
  go_wp2_with fail
  refine (num_calls _ _).mono ?_
  rintro e w3 ⟨rfl, hw⟩
  replace hw := hw.symm
  subst hw
  go_wp2_with fail
  go_ret
  exact ⟨ret_bool (by first | rfl | exact hyy), HB2.out, HST2.out, lab2, _, H2.out, HS.out.cancel A⟩
set_option maxHeartbeats 2000000 in
set_option maxRecDepth 100000 in
theorem sends_write {w : World} {B gW : Nat} {lab : Nat → Nat} {ve vr vl vm : Value} {xs : List Value} {ms : List ByteArray} {gs rs : List Nat} {mp : Nat → Mod} (h : WI w B gW lab ve vr vl vm xs ms gs rs mp mp) {i N : Nat} (hi : i < gs.length) (hs : Snd N (mp i)) (hN : N ≤ 1099511627779)
    (A Bb D W : Int) (hA : A ≤ 9223372036854775807) (s : ByteArray) (a : Option Addr) (n cap : Nat) (c0 c1 c2 c3 c4 c5 c6 c7 c8 c9 : Int) :
    Calls Try.prog 36 #[.pointer (some ⟨gW, 0, none⟩), ptrV (gs.getD i 0), ptrV (rs.getD i 0), .agg #[.int .i64 7, .int .i64 A, .int .i64 Bb, .int .i64 D, .int .i64 W, .string s, .slice a n cap, .int .i64 c0, .int .i64 c1, .int .i64 c2, .int .i64 c3, .int .i64 c4, .int .i64 c5, .int .i64 c6, .int .i64 c7, .int .i64 c8, .int .i64 c9]] w
      fun e w' => SPost w B gW lab ve vr vl vm xs ms gs rs mp i N e w' := by
  have H := hid h
  have HS := hid hs
  have hctl := hs.1.small.ctl
  clear h hs
  obtain ⟨g, hg⟩ : ∃ g, gs.getD i 0 = g := ⟨_, rfl⟩
  obtain ⟨r, hr⟩ : ∃ r, rs.getD i 0 = r := ⟨_, rfl⟩
  have HG := hid hg
  have HR := hid hr
  rw [hg, hr]
  clear hg hr
  unfold ptrV
  go_enter Try.func36, Try.ntmps36
  go_wp2_with fail
  have hb0 := below_alloc w (.cells #[.int .i64 7, .int .i64 A, .int .i64 Bb, .int .i64 D, .int .i64 W, .string s, .slice a n cap, .int .i64 c0, .int .i64 c1, .int .i64 c2, .int .i64 c3, .int .i64 c4, .int .i64 c5, .int .i64 c6, .int .i64 c7, .int .i64 c8, .int .i64 c9] 62)
  have k1 : (w.alloc (.cells #[.int .i64 7, .int .i64 A, .int .i64 Bb, .int .i64 D, .int .i64 W, .string s, .slice a n cap, .int .i64 c0, .int .i64 c1, .int .i64 c2, .int .i64 c3, .int .i64 c4, .int .i64 c5, .int .i64 c6, .int .i64 c7, .int .i64 c8, .int .i64 c9] 62)).cell? ⟨w.heap.size, 1, none⟩ = some (.int .i64 A) := by simp
  generalize w.alloc (.cells #[.int .i64 7, .int .i64 A, .int .i64 Bb, .int .i64 D, .int .i64 W, .string s, .slice a n cap, .int .i64 c0, .int .i64 c1, .int .i64 c2, .int .i64 c3, .int .i64 c4, .int .i64 c5, .int .i64 c6, .int .i64 c7, .int .i64 c8, .int .i64 c9] 62) = w0 at *
  have h0 := H.out.below0 hb0
  have hvol := write_vol A.toNat (mp i) noB HS.out.1.inv HS.out.2.1
  have hvo2 := HS.out.1.vol (by omega)
  have hpc := pwrite_calls (h0.j.pe i hi) HS.out.1.inv HS.out.2.1 A hA (by rw [noB_size] at hvol; omega)
  rw [HG.out] at hpc
  unfold ptrV at hpc
  refine hpc.mono ?_
  rintro e w1 ⟨rfl, hp1, hc1⟩
  have k2 : w1.cell? ⟨w.heap.size, 1, none⟩ = some (.int .i64 A) := hc1.cell (a := ⟨w.heap.size, 1, none⟩) (new_apart (by omega) (Nat.le_refl _)) k1
  have hsz0 := hb0.size
  have hst1 : Still B lab w w1 := (Still.below hb0).trans (Still.chg (by omega) hc1) (fun k hk => relab_lt hk) hsz0
  have hsz1 := hc1.size
  have h1 := h0.pstep0 (by rw [HG.out]; exact hp1.mono (fun _ _ e => Or.inl e)) hc1
  have HB1 := hid ((hb0.mono (wi_le H.out)).trans (hc1.below (wi_le h0) (fun k e => her_le e)))
  have H1 := hid h1
  clear h0 hpc hp1 hc1 k1 hb0 h1 hvol hvo2
  go_wp2_with fail
  have hrc := rwrite_calls (H1.out.j.re i hi) HS.out.1.inv A hA
  rw [HR.out] at hrc
  unfold ptrV at hrc
  refine hrc.mono ?_
  rintro e w2 ⟨rfl, hp2, hc2⟩
  have HST2 : Hid (Still B lab w w2) := hst1.trans (Still.chg (by omega) hc2) (fun k hk => by rw [relab_lt (Nat.lt_of_lt_of_le hk hsz0), relab_lt hk]) (Nat.le_trans hsz0 hsz1)
  obtain ⟨lab2, h2⟩ := H1.out.rstep (by rw [HR.out]; exact hp2) hc2
  have HB2 := hid (HB1.out.trans (hc2.below (wi_le H1.out) (fun k e => her_le e)))
  have H2 := hid h2
  clear hrc hp2 hc2 h2 k2
  obtain ⟨y, hy⟩ : ∃ y, (Mod.write A.toNat (mp i) noB).1 = y := ⟨_, rfl⟩
  rw [hy]
  clear hy
  have hyy : (y.toList == y.toList) = true := by simp
  go_wp2_with fail
  go_ret
  exact ⟨ret_bool (by first | rfl | exact hyy), HB2.out, HST2.out, lab2, _, H2.out, (HS.out.write A.toNat).mono (by omega)⟩
set_option maxHeartbeats 2000000 in
set_option maxRecDepth 100000 in
theorem sends_state {w : World} {B gW : Nat} {lab : Nat → Nat} {ve vr vl vm : Value} {xs : List Value} {ms : List ByteArray} {gs rs : List Nat} {mp : Nat → Mod} (h : WI w B gW lab ve vr vl vm xs ms gs rs mp mp) {i N : Nat} (hi : i < gs.length) (hs : Snd N (mp i)) (hN : N ≤ 1099511627779)
    (A Bb D W : Int) (s : ByteArray) (a : Option Addr) (n cap : Nat) (c0 c1 c2 c3 c4 c5 c6 c7 c8 c9 : Int) :
    Calls Try.prog 36 #[.pointer (some ⟨gW, 0, none⟩), ptrV (gs.getD i 0), ptrV (rs.getD i 0), .agg #[.int .i64 8, .int .i64 A, .int .i64 Bb, .int .i64 D, .int .i64 W, .string s, .slice a n cap, .int .i64 c0, .int .i64 c1, .int .i64 c2, .int .i64 c3, .int .i64 c4, .int .i64 c5, .int .i64 c6, .int .i64 c7, .int .i64 c8, .int .i64 c9]] w
      fun e w' => SPost w B gW lab ve vr vl vm xs ms gs rs mp i N e w' := by
  have H := hid h
  have HS := hid hs
  have hctl := hs.1.small.ctl
  clear h hs
  obtain ⟨g, hg⟩ : ∃ g, gs.getD i 0 = g := ⟨_, rfl⟩
  obtain ⟨r, hr⟩ : ∃ r, rs.getD i 0 = r := ⟨_, rfl⟩
  have HG := hid hg
  have HR := hid hr
  rw [hg, hr]
  clear hg hr
  unfold ptrV
  go_enter Try.func36, Try.ntmps36
  go_wp2_with fail
  have hb0 := below_alloc w (.cells #[.int .i64 8, .int .i64 A, .int .i64 Bb, .int .i64 D, .int .i64 W, .string s, .slice a n cap, .int .i64 c0, .int .i64 c1, .int .i64 c2, .int .i64 c3, .int .i64 c4, .int .i64 c5, .int .i64 c6, .int .i64 c7, .int .i64 c8, .int .i64 c9] 62)
  generalize w.alloc (.cells #[.int .i64 8, .int .i64 A, .int .i64 Bb, .int .i64 D, .int .i64 W, .string s, .slice a n cap, .int .i64 c0, .int .i64 c1, .int .i64 c2, .int .i64 c3, .int .i64 c4, .int .i64 c5, .int .i64 c6, .int .i64 c7, .int .i64 c8, .int .i64 c9] 62) = w0 at *
  have h0 := H.out.below0 hb0
  have hpc := pstate_calls (h0.j.pe i hi) HS.out.1.inv HS.out.2.1
  rw [HG.out] at hpc
  unfold ptrV at hpc
  refine hpc.mono ?_
  rintro e w1 ⟨rfl, hb1⟩
  have H1 := hid (h0.below0 hb1)
  have HT1 := hid (hb0.trans (hb1.mono hb0.size))
  have HB1 := hid ((hb0.mono (wi_le H.out)).trans (hb1.mono (wi_le h0)))
  clear h0 hpc hb1 hb0
  have hq6 : (mp i).queued ≤ 600 := by have := HS.out.1.inv.q; have := HS.out.1.inv.c.qu600; omega
  obtain ⟨q, hq⟩ : ∃ q, (mp i).queued = q := ⟨_, rfl⟩
  have HQ := hid hq
  rw [hq] at hq6
  rw [hq]
  clear hq
  go_wp2_with fail
  have hba := below_alloc w1 (.cells #[.int .i64 q, .int .i64 0, .int .i64 0] 123)
  have hoa : (w1.alloc (.cells #[.int .i64 q, .int .i64 0, .int .i64 0] 123)).heap[w1.heap.size]? = some (.cells #[.int .i64 q, .int .i64 0, .int .i64 0] 123 (0, 0)) := heap_alloc_new w1 _
  generalize w1.alloc (.cells #[.int .i64 q, .int .i64 0, .int .i64 0] 123) = w2 at *
  have h2 := H1.out.below0 hba
  have hrc := rstate_calls (h2.j.re i hi) (by rw [HS.out.1.inv.len]; exact HS.out.1.inv.c.n4) (by rw [HQ.out]; omega) (by rw [HS.out.2.2]; omega)
  unfold StatePost stateV at hrc
  rw [HR.out, HQ.out, HS.out.2.2, HS.out.2.1] at hrc
  unfold ptrV at hrc
  refine hrc.mono ?_
  rintro e w3 ⟨rfl, hb3⟩
  have hlt := heap_some hoa
  have ho3 := (hb3.block _ hlt).trans hoa
  have z0 : w3.cell? ⟨w1.heap.size, 0, none⟩ = some (.int .i64 q) := Lib.cell_of_heap ho3 0
  have z1 : w3.cell? ⟨w1.heap.size, 1, none⟩ = some (.int .i64 0) := Lib.cell_of_heap ho3 1
  have z2 : w3.cell? ⟨w1.heap.size, 2, none⟩ = some (.int .i64 0) := Lib.cell_of_heap ho3 2
  have hlt3 := heap_some ho3
  have y0 : ∀ o, (w3.alloc o).cell? ⟨w1.heap.size, 0, none⟩ = some (.int .i64 q) := fun o => (World.cell?_alloc_lt _ _ _ hlt3).trans z0
  have y1 : ∀ o, (w3.alloc o).cell? ⟨w1.heap.size, 1, none⟩ = some (.int .i64 0) := fun o => (World.cell?_alloc_lt _ _ _ hlt3).trans z1
  have y2 : ∀ o, (w3.alloc o).cell? ⟨w1.heap.size, 2, none⟩ = some (.int .i64 0) := fun o => (World.cell?_alloc_lt _ _ _ hlt3).trans z2
  have H3 := hid (h2.below0 hb3)
  have HT3 := hid ((HT1.out.trans (hba.mono HT1.out.size)).trans (hb3.mono (Nat.le_trans HT1.out.size hba.size)))
  have HB3 := hid ((HB1.out.trans (hba.mono (wi_le H1.out))).trans (hb3.mono (wi_le h2)))
  clear h2 hrc hb3 hba hoa ho3 z0 z1 z2
  have hqq : ((q : Int) == (q : Int)) = true := by simp
  go_wp2_with fail
  go_ret
  have hbf := below_alloc w3 (.cells #[.int .i64 q, .int .i64 0, .int .i64 0] 123)
  obtain ⟨labf, hwf⟩ := H3.out.below hbf
  exact ⟨rfl, HB3.out.trans (hbf.mono (wi_le H3.out)), Still.below (HT3.out.trans (hbf.mono HT3.out.size)), labf, mp i, by rw [setAt_self]; exact hwf, HS.out.mono (Nat.le_succ N)⟩
set_option maxHeartbeats 2000000 in
set_option maxRecDepth 100000 in
theorem sends_flow {w : World} {B gW : Nat} {lab : Nat → Nat} {ve vr vl vm : Value} {xs : List Value} {ms : List ByteArray} {gs rs : List Nat} {mp : Nat → Mod} (h : WI w B gW lab ve vr vl vm xs ms gs rs mp mp) {i N : Nat} (hi : i < gs.length) (hs : Snd N (mp i)) (hN : N ≤ 1099511627779)
    (A Bb D W : Int) (s : ByteArray) (a : Option Addr) (n cap : Nat) (c0 c1 c2 c3 c4 c5 c6 c7 c8 c9 : Int) :
    Calls Try.prog 36 #[.pointer (some ⟨gW, 0, none⟩), ptrV (gs.getD i 0), ptrV (rs.getD i 0), .agg #[.int .i64 9, .int .i64 A, .int .i64 Bb, .int .i64 D, .int .i64 W, .string s, .slice a n cap, .int .i64 c0, .int .i64 c1, .int .i64 c2, .int .i64 c3, .int .i64 c4, .int .i64 c5, .int .i64 c6, .int .i64 c7, .int .i64 c8, .int .i64 c9]] w
      fun e w' => SPost w B gW lab ve vr vl vm xs ms gs rs mp i N e w' := by
  have H := hid h
  have HS := hid hs
  have hctl := hs.1.small.ctl
  clear h hs
  obtain ⟨g, hg⟩ : ∃ g, gs.getD i 0 = g := ⟨_, rfl⟩
  obtain ⟨r, hr⟩ : ∃ r, rs.getD i 0 = r := ⟨_, rfl⟩
  have HG := hid hg
  have HR := hid hr
  rw [hg, hr]
  clear hg hr
  unfold ptrV
  go_enter Try.func36, Try.ntmps36
  go_wp2_with fail
  have hb0 := below_alloc w (.cells #[.int .i64 9, .int .i64 A, .int .i64 Bb, .int .i64 D, .int .i64 W, .string s, .slice a n cap, .int .i64 c0, .int .i64 c1, .int .i64 c2, .int .i64 c3, .int .i64 c4, .int .i64 c5, .int .i64 c6, .int .i64 c7, .int .i64 c8, .int .i64 c9] 62)
  have k1 : (w.alloc (.cells #[.int .i64 9, .int .i64 A, .int .i64 Bb, .int .i64 D, .int .i64 W, .string s, .slice a n cap, .int .i64 c0, .int .i64 c1, .int .i64 c2, .int .i64 c3, .int .i64 c4, .int .i64 c5, .int .i64 c6, .int .i64 c7, .int .i64 c8, .int .i64 c9] 62)).cell? ⟨w.heap.size, 1, none⟩ = some (.int .i64 A) := by simp
  generalize w.alloc (.cells #[.int .i64 9, .int .i64 A, .int .i64 Bb, .int .i64 D, .int .i64 W, .string s, .slice a n cap, .int .i64 c0, .int .i64 c1, .int .i64 c2, .int .i64 c3, .int .i64 c4, .int .i64 c5, .int .i64 c6, .int .i64 c7, .int .i64 c8, .int .i64 c9] 62) = w0 at *
  have h0 := H.out.below0 hb0
  have hpc := pflow_calls (h0.j.pe i hi) HS.out.2.1 A
  rw [HG.out] at hpc
  unfold ptrV at hpc
  refine hpc.mono ?_
  rintro e w1 ⟨rfl, hb1⟩
  have k2 : w1.cell? ⟨w.heap.size, 1, none⟩ = some (.int .i64 A) := (hb1.cell (p := ⟨w.heap.size, 1, none⟩) (World.block_lt_of_cell? _ _ k1)).trans k1
  have hl2 := World.block_lt_of_cell? _ _ k2
  have H1 := hid (h0.below0 hb1)
  have HT1 := hid (hb0.trans (hb1.mono hb0.size))
  have HB1 := hid ((hb0.mono (wi_le H.out)).trans (hb1.mono (wi_le h0)))
  clear h0 hpc hb1 hb0 k1
  obtain ⟨S, hS⟩ : ∃ S, (mp i).flowS A = S := ⟨_, rfl⟩
  obtain ⟨E, hE⟩ : ∃ E : Int, (((mp i).flowE A : Nat) : Int) = E := ⟨_, rfl⟩
  have HSS := hid hS
  have HEE := hid hE
  rw [hS, hE]
  clear hS hE
  obtain ⟨f0, hf0⟩ : ∃ x : Int, (S.credit : Int) = x := ⟨_, rfl⟩
  obtain ⟨f1, hf1⟩ : ∃ x : Int, (S.owed : Int) = x := ⟨_, rfl⟩
  obtain ⟨f2, hf2⟩ : ∃ x : Int, (S.deficit : Int) = x := ⟨_, rfl⟩
  obtain ⟨f3, hf3⟩ : ∃ x, S.noSend = x := ⟨_, rfl⟩
  obtain ⟨f4, hf4⟩ : ∃ x, S.noRecv = x := ⟨_, rfl⟩
  have HFA : Hid (flowA S = #[.int .i64 f0, .int .i64 f1, .int .i64 f2, .bool f3, .bool f4]) := by show _ = _; unfold flowA; rw [hf0, hf1, hf2, hf3, hf4]
  rw [HFA.out]
  clear hf0 hf1 hf2 hf3 hf4
  have k3 : ∀ o, (w1.alloc o).cell? ⟨w.heap.size, 1, none⟩ = some (.int .i64 A) := fun o => (World.cell?_alloc_lt _ _ _ hl2).trans k2
  go_wp2_with fail
  have hba := below_alloc w1 (.cells #[.int .i64 f0, .int .i64 f1, .int .i64 f2, .bool f3, .bool f4] 98)
  have hoa : (w1.alloc (.cells #[.int .i64 f0, .int .i64 f1, .int .i64 f2, .bool f3, .bool f4] 98)).heap[w1.heap.size]? = some (.cells #[.int .i64 f0, .int .i64 f1, .int .i64 f2, .bool f3, .bool f4] 98 (0, 0)) := heap_alloc_new w1 _
  clear k3 k2
  generalize w1.alloc (.cells #[.int .i64 f0, .int .i64 f1, .int .i64 f2, .bool f3, .bool f4] 98) = w2 at *
  have h2 := H1.out.below0 hba
  have hrc := rflow_calls (h2.j.re i hi) A
  have hfv : flowV S = .agg #[.int .i64 f0, .int .i64 f1, .int .i64 f2, .bool f3, .bool f4] := congrArg Value.agg HFA.out
  rw [HR.out, HSS.out, hfv, HEE.out] at hrc
  unfold ptrV at hrc
  refine hrc.mono ?_
  rintro e w3 ⟨rfl, hb3⟩
  have hlt := heap_some hoa
  have ho3 := (hb3.block _ hlt).trans hoa
  have hlt3 := heap_some ho3
  have y0 : ∀ o, (w3.alloc o).cell? ⟨w1.heap.size, 0, none⟩ = some (.int .i64 f0) := fun o => (World.cell?_alloc_lt _ _ _ hlt3).trans (Lib.cell_of_heap ho3 0)
  have y1 : ∀ o, (w3.alloc o).cell? ⟨w1.heap.size, 1, none⟩ = some (.int .i64 f1) := fun o => (World.cell?_alloc_lt _ _ _ hlt3).trans (Lib.cell_of_heap ho3 1)
  have y2 : ∀ o, (w3.alloc o).cell? ⟨w1.heap.size, 2, none⟩ = some (.int .i64 f2) := fun o => (World.cell?_alloc_lt _ _ _ hlt3).trans (Lib.cell_of_heap ho3 2)
  have y3 : ∀ o, (w3.alloc o).cell? ⟨w1.heap.size, 3, none⟩ = some (.bool f3) := fun o => (World.cell?_alloc_lt _ _ _ hlt3).trans (Lib.cell_of_heap ho3 3)
  have y4 : ∀ o, (w3.alloc o).cell? ⟨w1.heap.size, 4, none⟩ = some (.bool f4) := fun o => (World.cell?_alloc_lt _ _ _ hlt3).trans (Lib.cell_of_heap ho3 4)
  have H3 := hid (h2.below0 hb3)
  have HT3 := hid ((HT1.out.trans (hba.mono HT1.out.size)).trans (hb3.mono (Nat.le_trans HT1.out.size hba.size)))
  have HB3 := hid ((HB1.out.trans (hba.mono (wi_le H1.out))).trans (hb3.mono (wi_le h2)))
  clear h2 hrc hb3 hba hoa ho3 hfv
  have q0 : (f0 == f0) = true := by simp
  have q1 : (f1 == f1) = true := by simp
  have q2 : (f2 == f2) = true := by simp
  have q3 : (f3 == f3) = true := by simp
  have q4 : (f4 == f4) = true := by simp
  have q5 : (E == E) = true := by simp
  go_wp2_with (go_at_call 45; refine (num_calls _ _).mono ?_; rintro e wz ⟨rfl, hw⟩; replace hw := hw.symm; subst hw)
  go_ret
  have hbf := below_alloc w3 (.cells #[.int .i64 f0, .int .i64 f1, .int .i64 f2, .bool f3, .bool f4] 98)
  obtain ⟨labf, hwf⟩ := H3.out.below hbf
  exact ⟨ret_bool (by first | rfl | simp), HB3.out.trans (hbf.mono (wi_le H3.out)), Still.below (HT3.out.trans (hbf.mono HT3.out.size)), labf, mp i, by rw [setAt_self]; exact hwf, HS.out.mono (Nat.le_succ N)⟩
end Go.Proofs.Ytnclmbolfpojoaa
