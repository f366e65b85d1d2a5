/-
  Submit, by the program and by the document: the same answer, and the list that was lent comes back as it was.
-/
import Derived.Test.YtnclmbolfpojoaaSSend
import Derived.Test.YtnclmbolfpojoaaPlay
import Derived.Test.YtnclmbolfpojoaaRSub
import Derived.Deep.RegionHeld3
namespace Go.Proofs.Ytnclmbolfpojoaa
open Go.RowKit
set_option linter.unusedVariables false
attribute [local go_sem ↓] Go.wp_at_zero Go.wp_at_succ
theorem low2' {lab : Nat → Nat} {n n1 i k : Nat} (h : n ≤ k) (h1 : k < n1) : (relab (relab lab n 0) n1 (2 * i + 3)) k = 0 := by
  unfold relab
  rw [if_pos h1, if_neg (by omega)]
theorem low2 {lab : Nat → Nat} {n n1 i k : Nat} (h : n ≤ k) (h1 : k < n1) : (relab (relab lab n 0) n1 (2 * i + 3)) k = 0 := low2' h h1
theorem low3 {lab : Nat → Nat} {n n1 n2 i k : Nat} (h : n ≤ k) (h1 : k < n1) (h2 : k < n2) : (relab (relab (relab lab n 0) n1 (2 * i + 3)) n2 (2 * i + 4)) k = 0 := by
  show (if k < n2 then (relab (relab lab n 0) n1 (2 * i + 3)) k else _) = 0
  rw [if_pos h2]
  exact low2' h h1
set_option maxHeartbeats 2000000 in
set_option maxRecDepth 100000 in
theorem sends_submit {w : World} {B gW : Nat} {lab : Nat → Nat} {ve vr vl vm : Value} {xs : List Value} {ms : List ByteArray} {gs rs : List Nat} {mp : Nat → Mod} (h : WI w B gW lab ve vr vl vm xs ms gs rs mp mp) {i N : Nat} (hi : i < gs.length) (hs : Snd N (mp i)) (hN : N ≤ 1099511627779)
    (A Bb D W : Int) (s : ByteArray) (a : Option Addr) (n cap : Nat) (c0 c1 c2 c3 c4 c5 c6 c7 c8 c9 : Int) (ss : List ByteArray) (hst : StrsLow w B a n ss) (hn : n ≤ 8796093022208) :
    Calls Try.prog 36 #[.pointer (some ⟨gW, 0, none⟩), ptrV (gs.getD i 0), ptrV (rs.getD i 0), .agg #[.int .i64 5, .int .i64 A, .int .i64 Bb, .int .i64 D, .int .i64 W, .string s, .slice a n cap, .int .i64 c0, .int .i64 c1, .int .i64 c2, .int .i64 c3, .int .i64 c4, .int .i64 c5, .int .i64 c6, .int .i64 c7, .int .i64 c8, .int .i64 c9]] w
      fun e w' => SPost w B gW lab ve vr vl vm xs ms gs rs mp i N e w' := by
  have H := hid h
  have HS := hid hs
  have HST := hid hst
  have hctl := hs.1.small.ctl
  clear h hs hst
  obtain ⟨g, hg⟩ : ∃ g, gs.getD i 0 = g := ⟨_, rfl⟩
  obtain ⟨r, hr⟩ : ∃ r, rs.getD i 0 = r := ⟨_, rfl⟩
  have HG := hid hg
  have HR := hid hr
  rw [hg, hr]
  clear hg hr
  unfold ptrV
  go_enter Try.func36, Try.ntmps36
  go_wp2_with fail
  have hb0 := below_alloc w (.cells #[.int .i64 5, .int .i64 A, .int .i64 Bb, .int .i64 D, .int .i64 W, .string s, .slice a n cap, .int .i64 c0, .int .i64 c1, .int .i64 c2, .int .i64 c3, .int .i64 c4, .int .i64 c5, .int .i64 c6, .int .i64 c7, .int .i64 c8, .int .i64 c9] 62)
  have k1 : (w.alloc (.cells #[.int .i64 5, .int .i64 A, .int .i64 Bb, .int .i64 D, .int .i64 W, .string s, .slice a n cap, .int .i64 c0, .int .i64 c1, .int .i64 c2, .int .i64 c3, .int .i64 c4, .int .i64 c5, .int .i64 c6, .int .i64 c7, .int .i64 c8, .int .i64 c9] 62)).cell? ⟨w.heap.size, 1, none⟩ = some (.int .i64 A) := by simp
  have k6 : (w.alloc (.cells #[.int .i64 5, .int .i64 A, .int .i64 Bb, .int .i64 D, .int .i64 W, .string s, .slice a n cap, .int .i64 c0, .int .i64 c1, .int .i64 c2, .int .i64 c3, .int .i64 c4, .int .i64 c5, .int .i64 c6, .int .i64 c7, .int .i64 c8, .int .i64 c9] 62)).cell? ⟨w.heap.size, 6, none⟩ = some (.slice a n cap) := by simp
  generalize w.alloc (.cells #[.int .i64 5, .int .i64 A, .int .i64 Bb, .int .i64 D, .int .i64 W, .string s, .slice a n cap, .int .i64 c0, .int .i64 c1, .int .i64 c2, .int .i64 c3, .int .i64 c4, .int .i64 c5, .int .i64 c6, .int .i64 c7, .int .i64 c8, .int .i64 c9] 62) = w0 at *
  refine (lent_calls a n cap ss w0 (HST.out.at (hb0.mono (wi_le H.out)) (Nat.le_trans (wi_le H.out) hb0.size)) hn).mono ?_
  rintro e w1 ⟨rfl, hrow1, hb1⟩
  have hs0 := hb0.size
  have hs1 := hb1.size
  have hl0 := World.block_lt_of_cell? _ _ k1
  have hb01 : Below w.heap.size w w1 := hb0.trans (hb1.mono hs0)
  have m1 : w1.cell? ⟨w.heap.size, 1, none⟩ = some (.int .i64 A) := (hb1.cell (p := ⟨w.heap.size, 1, none⟩) hl0).trans k1
  have m6 : w1.cell? ⟨w.heap.size, 6, none⟩ = some (.slice a n cap) := (hb1.cell (p := ⟨w.heap.size, 6, none⟩) hl0).trans k6
  obtain ⟨b1, hb1e⟩ : ∃ b1, w0.heap.size = b1 := ⟨_, rfl⟩
  rw [hb1e] at hrow1 hs0
  rw [hb1e]
  have hb01d : Below w.heap.size w w1.drew := hb01.drew
  have H1 := hid (H.out.below0 hb01d)
  have hrowlt := hrow1.lt
  have HROW := hid hrow1
  have HBB1 := hid (hb01d.mono (wi_le H.out))
  have hstA : Still B lab w w1.drew := Still.below hb01d
  have hszA : w.heap.size ≤ w1.heap.size := hb01d.size
  have hstd : StrsAt w1.drew (some ⟨b1, 0, none⟩) n ss := strs_lent (HST.out.at (Below.refl _ w) (wi_le H.out)) hrow1
  have hps := psubmit_calls (H1.out.j.pe i hi) HS.out.1.inv A (some ⟨b1, 0, none⟩) n (n + 8) ss hstd
  rw [HG.out] at hps
  unfold ptrV at hps
  have HPS := hid hps
  have hn0 : (0 : Int) ≤ (n : Int) := by omega
  have hn8 : (n : Int) ≤ (n : Int) + 8 := by omega
  clear hps hstd hrow1 hb01d hb01 hb1 hb0 k1 k6 hb1e
  go_wp2
  go_region_held3 (fun w' => w'.cell? ⟨w.heap.size, 1, none⟩ = some (.int .i64 A) ∧ w'.cell? ⟨w.heap.size, 6, none⟩ = some (.slice a n cap))
    (first
      | (go_keep; done)
      | exact ⟨x1, x6⟩)
    (first
      | (go_at_call 29
         refine HPS.out.mono ?_
         rintro e w2 ⟨rfl, hp2, hc2⟩
         have x1 : w2.cell? ⟨w.heap.size, 1, none⟩ = some (.int .i64 A) := hc2.cell (a := ⟨w.heap.size, 1, none⟩) (new_apart (by omega) (Nat.le_refl _)) m1
         have x6 : w2.cell? ⟨w.heap.size, 6, none⟩ = some (.slice a n cap) := hc2.cell (a := ⟨w.heap.size, 6, none⟩) (new_apart (by omega) (Nat.le_refl _)) m6))
  have hstB : Still B lab w w2 := hstA.trans (Still.chg (by omega) hc2) (fun k hk => relab_lt hk) hszA
  have hszB : w.heap.size ≤ w2.heap.size := Nat.le_trans hszA hc2.size
  have H2 := hid (H1.out.pstep0 (by rw [HG.out]; exact hp2) hc2)
  have HBB2 := hid (HBB1.out.trans (hc2.below (wi_le H1.out) (fun k e => her_le e)))
  have hb1n : w.heap.size ≤ b1 := hs0
  have hrow2 := HROW.out.of_block (w' := w2) (hc2.block b1 hrowlt (new_apart (by omega) hb1n))
  have hlow2 := low2 (lab := lab) (i := i) hb1n hrowlt
  have hs2 := hc2.size
  have HROW2 := hid hrow2
  clear hp2 hc2 hrow2 HPS HROW m1 m6
  go_wp2_with fail
  have hrs := rsubmit_calls (H2.out.j.re i hi) A a n cap ss (HST.out.at HBB2.out (wi_le H2.out)) (by rw [HS.out.1.inv.len]; exact HS.out.1.inv.c.n4) (by have := HS.out.1.inv.q; have := HS.out.1.inv.c.qu600; omega) (by have := HS.out.1.inv.c.win250; omega)
  rw [HR.out] at hrs
  unfold ptrV at hrs
  refine hrs.mono ?_
  rintro e w3 ⟨rfl, hp3, hc3⟩
  have hstC : Still B lab w w3 := hstB.trans (Still.chg (by omega) hc3) (fun k hk => (relab_lt (show k < w1.heap.size from Nat.lt_of_lt_of_le hk hszA)).trans (relab_lt hk)) hszB
  have hszC : w.heap.size ≤ w3.heap.size := Nat.le_trans hszB hc3.size
  have H3 := hid (H2.out.rstep0 (by rw [HR.out]; exact hp3) hc3)
  have HBB3 := hid (HBB2.out.trans (hc3.below (wi_le H2.out) (fun k e => her_le e)))
  have hbn : ∀ j, j ≠ 0 → ¬ Lab (Her B w2.heap.size) (relab (relab lab w.heap.size 0) w1.heap.size (2 * i + 3)) j w.heap.size := fun j hj e => hj (e.2.symm.trans (low2' (i := i) (Nat.le_refl _) (Nat.lt_of_le_of_lt hb1n hrowlt)))
  have hbb : ∀ j, j ≠ 0 → ¬ Lab (Her B w2.heap.size) (relab (relab lab w.heap.size 0) w1.heap.size (2 * i + 3)) j b1 := fun j hj e => hj (e.2.symm.trans (low2' (i := i) hb1n hrowlt))
  have x6' : w3.cell? ⟨w.heap.size, 6, none⟩ = some (.slice a n cap) := hc3.cell (a := ⟨w.heap.size, 6, none⟩) (hbn _ (by omega)) x6
  have HROW3 := hid (HROW2.out.of_block (w' := w3) (hc3.block b1 (Nat.lt_of_lt_of_le hrowlt hs2) (hbb _ (by omega))))
  have hs3 := hc3.size
  clear hrs hp3 hc3 x1 x6
  go_wp2_with fail
  refine (back_chg b1 a n cap ss w3 (HST.out.at HBB3.out (wi_le H3.out)) (strs_low (HST.out.at (Below.refl _ w) (wi_le H.out)) hb1n) HROW3.out hn).mono ?_
  rintro e w4 ⟨rfl, hc4⟩
  have h4 : WI w4 B gW (relab (relab (relab (relab lab w.heap.size 0) w1.heap.size (2 * i + 3)) w2.heap.size (2 * i + 4)) w3.heap.size 0) ve vr vl vm xs ms gs rs (setAt mp i ((mp i).submit A ss)) (setAt mp i ((mp i).submit A ss)) := by
    have hc4' : Chg (Lab (Her B w3.heap.size) (relab (relab (relab lab w.heap.size 0) w1.heap.size (2 * i + 3)) w2.heap.size (2 * i + 4)) 0) w3 w4 := hc4.mono (fun k hk e => by
      subst e
      exact ⟨⟨Nat.le_trans (wi_le H.out) hb1n, hk⟩, low3 hb1n hrowlt (Nat.lt_of_lt_of_le hrowlt hs2)⟩)
    exact ⟨H3.out.j.kstep hc4', H3.out.kept.chg H.out.kin H.out.own hc4 (fun k hk e => by have := hk.1.2; omega), H3.out.kin.mono (fun _ e => her_lab hc4.size e), her_lab hc4.size H3.out.own, H3.out.len⟩
  have H4 := hid h4
  have HST4 : Hid (Still B lab w w4) := fun k hB hk e => (hc4.block k (Nat.lt_of_lt_of_le hk hszC) (fun x => by omega)).trans (hstC k hB hk e)
  have HBB4 := hid (HBB3.out.trans (hc4.below (wi_le H3.out) (fun k e => by rw [e]; exact Nat.le_trans (wi_le H.out) hb1n)))
  clear h4 hc4 x6'
  obtain ⟨y, hy⟩ : ∃ y : Int, (((mp i).submitE A ss : Nat) : Int) = y := ⟨_, rfl⟩
  rw [hy]
  clear hy
  have hyy : (y == y) = true := by simp
  go_wp2_with fail
  refine (num_calls _ _).mono ?_
  rintro e w5 ⟨rfl, hw⟩
  replace hw := hw.symm
  subst hw
  go_wp2_with fail
  go_ret
  exact ⟨ret_bool (by first | rfl | exact hyy), HBB4.out, HST4.out, _, _, H4.out, HS.out.submit A ss⟩
end Go.Proofs.Ytnclmbolfpojoaa
