/-
  A step of a script on an end, and any step of those that send.
-/
import Derived.Test.YtnclmbolfpojoaaSStep
namespace Go.Proofs.Ytnclmbolfpojoaa
open Go.RowKit
set_option linter.unusedVariables false
attribute [local go_sem ↓] Go.wp_at_zero Go.wp_at_succ
theorem relab_ge {lab : Nat → Nat} {n j k : Nat} (h : n ≤ k) : relab lab n j k = j := by unfold relab; rw [if_neg (by omega)]
theorem row_at {w : World} {F : Nat → Prop} {e : TypeId} {g off n cap : Nat} {xs : List Value} {j : Nat} {x : Value} (h : QRow w F e (.slice (some ⟨g, off, none⟩) n cap) xs) (hx : xs[j]? = some x) : w.cell? ⟨g, off + j, none⟩ = some x := by
  rcases h with ⟨h, _⟩ | ⟨g', off', cap', cur, h, hF, hg, h1, h2, h3, h4⟩
  · simp at h
  · simp only [Value.slice.injEq, Option.some.injEq, Addr.mk.injEq] at h
    obtain ⟨⟨rfl, rfl, _⟩, rfl, rfl⟩ := h
    rw [Lib.cell_of_heap hg, h4 j (List.getElem?_eq_some_iff.1 hx).1, hx]
theorem strsLow_at {w w' : World} {B : Nat} {a : Option Addr} {n : Nat} {ss : List ByteArray} (h : StrsLow w B a n ss) (hb : Below B w w') : StrsLow w' B a n ss := by
  obtain ⟨h1, h2, h3, h4⟩ := h
  refine ⟨h1, h2, h3, fun hn => ?_⟩
  obtain ⟨b, off, e, hlt, hc⟩ := h4 hn
  exact ⟨b, off, e, hlt, fun j hj => by rw [hb.cell (p := ⟨b, off + j, none⟩) hlt]; exact hc j hj⟩
set_option maxHeartbeats 800000 in
set_option maxRecDepth 100000 in
theorem step_send {w : World} {B gW : Nat} {lab : Nat → Nat} {ve vr vl vm : Value} {xs : List Value} {ms : List ByteArray} {gs rs : List Nat} {mp : Nat → Mod} (h : WI w B gW lab ve vr vl vm xs ms gs rs mp mp) {N : Nat} (hs : ∀ i, i < gs.length → Snd N (mp i)) (hN : N ≤ 1099511627779) (hk : xs.length ≤ 4398046511104) (hgl : gs.length ≤ 2199023255552)
    (k A Bb D W : Int) (hA : A ≤ 9223372036854775807) (hW : In64 W) (s : ByteArray) (a : Option Addr) (n cap : Nat) (c0 c1 c2 c3 c4 c5 c6 c7 c8 c9 : Int) (ss : List ByteArray) (hst : StrsLow w B a n ss) (hn : n ≤ 8796093022208) (hsz : s.size ≤ 9223372036854775000) (h5 : 5 ≤ k) (h9 : k ≤ 9) (hg0 : 0 < gs.length) :
    Calls Try.prog 22 #[.pointer (some ⟨gW, 0, none⟩), .agg #[.int .i64 k, .int .i64 A, .int .i64 Bb, .int .i64 D, .int .i64 W, .string s, .slice a n cap, .int .i64 c0, .int .i64 c1, .int .i64 c2, .int .i64 c3, .int .i64 c4, .int .i64 c5, .int .i64 c6, .int .i64 c7, .int .i64 c8, .int .i64 c9]] w fun e w' => NextPost' w B gW xs gs N e w' := by
  have H := hid h
  have HS := hid hs
  have HST := hid hst
  have hb0 := below_alloc w (.cells #[.int .i64 k, .int .i64 A, .int .i64 Bb, .int .i64 D, .int .i64 W, .string s, .slice a n cap, .int .i64 c0, .int .i64 c1, .int .i64 c2, .int .i64 c3, .int .i64 c4, .int .i64 c5, .int .i64 c6, .int .i64 c7, .int .i64 c8, .int .i64 c9] 62)
  have ho0 : (w.alloc (.cells #[.int .i64 k, .int .i64 A, .int .i64 Bb, .int .i64 D, .int .i64 W, .string s, .slice a n cap, .int .i64 c0, .int .i64 c1, .int .i64 c2, .int .i64 c3, .int .i64 c4, .int .i64 c5, .int .i64 c6, .int .i64 c7, .int .i64 c8, .int .i64 c9] 62)).heap[w.heap.size]? = some (.cells #[.int .i64 k, .int .i64 A, .int .i64 Bb, .int .i64 D, .int .i64 W, .string s, .slice a n cap, .int .i64 c0, .int .i64 c1, .int .i64 c2, .int .i64 c3, .int .i64 c4, .int .i64 c5, .int .i64 c6, .int .i64 c7, .int .i64 c8, .int .i64 c9] 62 (0, 0)) := heap_alloc_new w _
  have hW0 : w.cell? ⟨gW, 0, none⟩ = some ve := Lib.cell_of_heap h.kept.2.1 0
  have hWlt := heap_some h.kept.2.1
  have hW1 : w.cell? ⟨gW, 1, none⟩ = some vr := Lib.cell_of_heap h.kept.2.1 1
  obtain ⟨j, hj, hpk⟩ := lpick_nat W gs.length hW.1 hW.2 hg0 (by omega)
  have HPK := hid hpk
  have hjr : j < rs.length := by rw [← h.j.len]; exact hj
  obtain ⟨ge, oe, ke, rfl, _, hge, _, _, _, hce⟩ := h.j.rowE.at (by rw [List.length_map]; exact hg0)
  obtain ⟨gr, or, kr, rfl, _, hgr, _, _, _, hcr⟩ := h.j.rowR.at (by rw [List.length_map, ← h.j.len]; exact hg0)
  have re := hce j _ (map_get ptrV gs j 0 hj)
  have rr := hcr j _ (map_get ptrV rs j 0 hjr)
  rw [List.length_map] at hW0 hW1
  have HSN : Hid (∀ W', Below w.heap.size w W' → Calls Try.prog 36 #[.pointer (some ⟨gW, 0, none⟩), ptrV (gs.getD j 0), ptrV (rs.getD j 0), .agg #[.int .i64 k, .int .i64 A, .int .i64 Bb, .int .i64 D, .int .i64 W, .string s, .slice a n cap, .int .i64 c0, .int .i64 c1, .int .i64 c2, .int .i64 c3, .int .i64 c4, .int .i64 c5, .int .i64 c6, .int .i64 c7, .int .i64 c8, .int .i64 c9]] W' fun e w' => SPost W' B gW (relab lab w.heap.size 0) _ _ vl vm xs ms gs rs mp j N e w') := fun W' hb => sends_calls (H.out.below0 hb) hj (HS.out j hj) hN k A Bb D W hA s a n cap c0 c1 c2 c3 c4 c5 c6 c7 c8 c9 ss (strsLow_at HST.out (hb.mono H.out.j.base)) hn h5 h9
  obtain ⟨g1, hg1⟩ : ∃ x, gs.getD j 0 = x := ⟨_, rfl⟩
  obtain ⟨r1, hr1⟩ : ∃ x, rs.getD j 0 = x := ⟨_, rfl⟩
  rw [hg1] at re HSN
  rw [hr1] at rr HSN
  have HG1 := hid hg1
  have HR1 := hid hr1
  clear hg1 hr1
  clear h hs hst hpk hce hcr
  have h4 : (k == 4) = false := by rw [beq_eq_false_iff_ne]; omega
  have hz' : ((gs.length : Int) == 0) = false := by rw [beq_eq_false_iff_ne]; omega
  have v0 : ∀ o, (w.alloc o).cell? ⟨gW, 0, none⟩ = some (.slice (some ⟨ge, oe, none⟩) gs.length ke) := fun o => (World.cell?_alloc_lt _ _ _ hWlt).trans hW0
  go_enter Try.func22, Try.ntmps22
  go_wp2_with fail
  clear v0
  generalize w.alloc (.cells #[.int .i64 k, .int .i64 A, .int .i64 Bb, .int .i64 D, .int .i64 W, .string s, .slice a n cap, .int .i64 c0, .int .i64 c1, .int .i64 c2, .int .i64 c3, .int .i64 c4, .int .i64 c5, .int .i64 c6, .int .i64 c7, .int .i64 c8, .int .i64 c9] 62) = w0 at *
  have o0 : w0.cell? ⟨w.heap.size, 0, none⟩ = some (.int .i64 k) := Lib.cell_of_heap ho0 0
  have o1 : w0.cell? ⟨w.heap.size, 1, none⟩ = some (.int .i64 A) := Lib.cell_of_heap ho0 1
  have o2 : w0.cell? ⟨w.heap.size, 2, none⟩ = some (.int .i64 Bb) := Lib.cell_of_heap ho0 2
  have o3 : w0.cell? ⟨w.heap.size, 3, none⟩ = some (.int .i64 D) := Lib.cell_of_heap ho0 3
  have o4 : w0.cell? ⟨w.heap.size, 4, none⟩ = some (.int .i64 W) := Lib.cell_of_heap ho0 4
  have o5 : w0.cell? ⟨w.heap.size, 5, none⟩ = some (.string s) := Lib.cell_of_heap ho0 5
  have o6 : w0.cell? ⟨w.heap.size, 6, none⟩ = some (.slice a n cap) := Lib.cell_of_heap ho0 6
  have o7 : w0.cell? ⟨w.heap.size, 7, none⟩ = some (.int .i64 c0) := Lib.cell_of_heap ho0 7
  have o8 : w0.cell? ⟨w.heap.size, 8, none⟩ = some (.int .i64 c1) := Lib.cell_of_heap ho0 8
  have o9 : w0.cell? ⟨w.heap.size, 9, none⟩ = some (.int .i64 c2) := Lib.cell_of_heap ho0 9
  have o10 : w0.cell? ⟨w.heap.size, 10, none⟩ = some (.int .i64 c3) := Lib.cell_of_heap ho0 10
  have o11 : w0.cell? ⟨w.heap.size, 11, none⟩ = some (.int .i64 c4) := Lib.cell_of_heap ho0 11
  have o12 : w0.cell? ⟨w.heap.size, 12, none⟩ = some (.int .i64 c5) := Lib.cell_of_heap ho0 12
  have o13 : w0.cell? ⟨w.heap.size, 13, none⟩ = some (.int .i64 c6) := Lib.cell_of_heap ho0 13
  have o14 : w0.cell? ⟨w.heap.size, 14, none⟩ = some (.int .i64 c7) := Lib.cell_of_heap ho0 14
  have o15 : w0.cell? ⟨w.heap.size, 15, none⟩ = some (.int .i64 c8) := Lib.cell_of_heap ho0 15
  have o16 : w0.cell? ⟨w.heap.size, 16, none⟩ = some (.int .i64 c9) := Lib.cell_of_heap ho0 16
  have p0 : w0.cell? ⟨gW, 0, none⟩ = some (.slice (some ⟨ge, oe, none⟩) gs.length ke) := (hb0.cell (p := ⟨gW, 0, none⟩) hWlt).trans hW0
  have p1 : w0.cell? ⟨gW, 1, none⟩ = some (.slice (some ⟨gr, or, none⟩) rs.length kr) := (hb0.cell (p := ⟨gW, 1, none⟩) hWlt).trans hW1
  have re0 : w0.cell? ⟨ge, oe + j, none⟩ = some (ptrV g1) := (hb0.cell (p := ⟨ge, oe + j, none⟩) hge).trans re
  have rr0 : w0.cell? ⟨gr, or + j, none⟩ = some (ptrV r1) := (hb0.cell (p := ⟨gr, or + j, none⟩) hgr).trans rr
  have HB0 := hid hb0
  have hj0 : (0 : Int) ≤ (j : Int) := by omega
  have hj1 : (j : Int) < (gs.length : Int) := by omega
  have hj2 : (j : Int) < (rs.length : Int) := by omega
  clear hb0 hW0 hW1 re rr hge hgr
  go_region_held3 (fun w' => w'.cell? ⟨w.heap.size, 4, none⟩ = some (.int .i64 W) ∧ w'.cell? ⟨gW, 0, none⟩ = some (.slice (some ⟨ge, oe, none⟩) gs.length ke))
    (first
      | exact ⟨o4, p0⟩)
    (first
      | (go_at_call 35
         refine (HPK.out _).mono ?_
         rintro e wz ⟨rfl, hw⟩
         replace hw := hw.symm
         subst hw))
  have HO0 := hid ho0
  have XS0 := hid (And.intro p0 (And.intro p1 (And.intro re0 (And.intro rr0 (⟨o0, o1, o2, o3, o4, o5, o6, o7, o8, o9, o10, o11, o12, o13, o14, o15, o16⟩ : _ ∧ _ ∧ _ ∧ _ ∧ _ ∧ _ ∧ _ ∧ _ ∧ _ ∧ _ ∧ _ ∧ _ ∧ _ ∧ _ ∧ _ ∧ _ ∧ _)))))
  have HWL := hid hWlt
  go_wp2_with fail
  have HXS : Hid (∀ w2, Still B (relab lab w.heap.size 0) w0.drew.drew w2 → ∀ lab2 m2, WI w2 B gW lab2 (.slice (some ⟨ge, oe, none⟩) (gs.map ptrV).length ke) (.slice (some ⟨gr, or, none⟩) (rs.map ptrV).length kr) vl vm xs ms gs rs (setAt mp j m2) (setAt mp j m2) → w2.cell? ⟨gW, 0, none⟩ = some (.slice (some ⟨ge, oe, none⟩) gs.length ke) ∧ w2.cell? ⟨gW, 1, none⟩ = some (.slice (some ⟨gr, or, none⟩) rs.length kr) ∧ w2.cell? ⟨ge, oe + j, none⟩ = some (ptrV g1) ∧ w2.cell? ⟨gr, or + j, none⟩ = some (ptrV r1) ∧ w2.cell? ⟨w.heap.size, 0, none⟩ = some (.int .i64 k) ∧ w2.cell? ⟨w.heap.size, 1, none⟩ = some (.int .i64 A) ∧ w2.cell? ⟨w.heap.size, 2, none⟩ = some (.int .i64 Bb) ∧ w2.cell? ⟨w.heap.size, 3, none⟩ = some (.int .i64 D) ∧ w2.cell? ⟨w.heap.size, 4, none⟩ = some (.int .i64 W) ∧ w2.cell? ⟨w.heap.size, 5, none⟩ = some (.string s) ∧ w2.cell? ⟨w.heap.size, 6, none⟩ = some (.slice a n cap) ∧ w2.cell? ⟨w.heap.size, 7, none⟩ = some (.int .i64 c0) ∧ w2.cell? ⟨w.heap.size, 8, none⟩ = some (.int .i64 c1) ∧ w2.cell? ⟨w.heap.size, 9, none⟩ = some (.int .i64 c2) ∧ w2.cell? ⟨w.heap.size, 10, none⟩ = some (.int .i64 c3) ∧ w2.cell? ⟨w.heap.size, 11, none⟩ = some (.int .i64 c4) ∧ w2.cell? ⟨w.heap.size, 12, none⟩ = some (.int .i64 c5) ∧ w2.cell? ⟨w.heap.size, 13, none⟩ = some (.int .i64 c6) ∧ w2.cell? ⟨w.heap.size, 14, none⟩ = some (.int .i64 c7) ∧ w2.cell? ⟨w.heap.size, 15, none⟩ = some (.int .i64 c8) ∧ w2.cell? ⟨w.heap.size, 16, none⟩ = some (.int .i64 c9)) := by
    intro w2 hs2 lab2 m2 h2
    have y0 : w2.cell? ⟨gW, 0, none⟩ = some (.slice (some ⟨ge, oe, none⟩) gs.length ke) := by have := Lib.cell_of_heap h2.kept.2.1 0; simpa using this
    have y1 : w2.cell? ⟨gW, 1, none⟩ = some (.slice (some ⟨gr, or, none⟩) rs.length kr) := by have := Lib.cell_of_heap h2.kept.2.1 1; simpa using this
    have hob2 := (hs2 w.heap.size H.out.j.base (heap_some HO0.out) (relab_ge (Nat.le_refl _))).trans HO0.out
    have yo := Lib.cell_of_heap hob2
    have ye := row_at h2.j.rowE (map_get ptrV gs j 0 hj)
    have yr := row_at h2.j.rowR (map_get ptrV rs j 0 hjr)
    rw [HG1.out] at ye
    rw [HR1.out] at yr
    exact ⟨y0, y1, ye, yr, yo 0, yo 1, yo 2, yo 3, yo 4, yo 5, yo 6, yo 7, yo 8, yo 9, yo 10, yo 11, yo 12, yo 13, yo 14, yo 15, yo 16⟩
  have xS0 := XS0.out
  clear o0 o1 o2 o3 o4 o5 o6 o7 o8 o9 o10 o11 o12 o13 o14 o15 o16 p0 p1 re0 rr0 ho0
  go_region_held3 (fun w' => w'.cell? ⟨gW, 0, none⟩ = some (.slice (some ⟨ge, oe, none⟩) gs.length ke) ∧ w'.cell? ⟨gW, 1, none⟩ = some (.slice (some ⟨gr, or, none⟩) rs.length kr) ∧ w'.cell? ⟨ge, oe + j, none⟩ = some (ptrV g1) ∧ w'.cell? ⟨gr, or + j, none⟩ = some (ptrV r1) ∧ w'.cell? ⟨w.heap.size, 0, none⟩ = some (.int .i64 k) ∧ w'.cell? ⟨w.heap.size, 1, none⟩ = some (.int .i64 A) ∧ w'.cell? ⟨w.heap.size, 2, none⟩ = some (.int .i64 Bb) ∧ w'.cell? ⟨w.heap.size, 3, none⟩ = some (.int .i64 D) ∧ w'.cell? ⟨w.heap.size, 4, none⟩ = some (.int .i64 W) ∧ w'.cell? ⟨w.heap.size, 5, none⟩ = some (.string s) ∧ w'.cell? ⟨w.heap.size, 6, none⟩ = some (.slice a n cap) ∧ w'.cell? ⟨w.heap.size, 7, none⟩ = some (.int .i64 c0) ∧ w'.cell? ⟨w.heap.size, 8, none⟩ = some (.int .i64 c1) ∧ w'.cell? ⟨w.heap.size, 9, none⟩ = some (.int .i64 c2) ∧ w'.cell? ⟨w.heap.size, 10, none⟩ = some (.int .i64 c3) ∧ w'.cell? ⟨w.heap.size, 11, none⟩ = some (.int .i64 c4) ∧ w'.cell? ⟨w.heap.size, 12, none⟩ = some (.int .i64 c5) ∧ w'.cell? ⟨w.heap.size, 13, none⟩ = some (.int .i64 c6) ∧ w'.cell? ⟨w.heap.size, 14, none⟩ = some (.int .i64 c7) ∧ w'.cell? ⟨w.heap.size, 15, none⟩ = some (.int .i64 c8) ∧ w'.cell? ⟨w.heap.size, 16, none⟩ = some (.int .i64 c9))
    (first
      | exact xS0
      | exact xS)
    (first
      | (go_at_call 36
         refine (HSN.out _ HB0.out.drew.drew).mono ?_
         rintro e w2 ⟨rfl, hb2, hs2, lab2, m2, h2, hm2⟩
         have xS := HXS.out w2 hs2 lab2 m2 h2))
  have H2 := hid h2
  have HM2 := hid hm2
  have HB2 := hid ((HB0.out.drew.drew.mono H.out.j.base).trans hb2)
  clear h2 hm2 hb2 hs2 xS xS0
  go_wp2_with fail
  go_ret
  refine ⟨rfl, HB2.out, lab2, _, _, vl, vm, xs, ms, gs, rs, _, H2.out, by omega, Nat.le_succ _, fun i hi => ?_⟩
  unfold setAt
  split
  · exact HM2.out
  · exact (HS.out i hi).mono (Nat.le_succ N)
end Go.Proofs.Ytnclmbolfpojoaa
