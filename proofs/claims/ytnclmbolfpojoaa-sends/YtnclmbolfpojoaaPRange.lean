/-
  A range over a method value, whose body always goes on: the program's sums over its streams.
-/
import Derived.RangeFuncNested
import Derived.RangeFuncBound
import Derived.RangeFuncCalls
import Derived.RangeFuncLeaves
import Derived.RangeFuncFrom
import Derived.Shelf.Abstract
import Derived.Shelf.RegionOpen
import Derived.WalkKit
import Derived.OwnWalkIn
import Derived.TacticsInMore
import Derived.LoopNIn
import Derived.LoopIn
import Derived.RegionIn
import Derived.TacticsIn
import Derived.Test.YtnclmbolfpojoaaPWrt
namespace Go.Proofs.Ytnclmbolfpojoaa
open Go.RowKit Go.Shelf
attribute [local go_sem] Oper.semAt_some
theorem cell_box {W : World} {B : Nat} {v : Value} {t : TypeId} (h : W.heap[B]? = some (.cells #[v] t (0, 0))) : W.cell? ⟨B, 0, none⟩ = some v ∧ W.frozen? ⟨B, 0, none⟩ = false :=
  ⟨Lib.cell_of_heap h 0, unfrozen h 0⟩
theorem cell_new_l (W : World) (v : Value) (t : TypeId) : (W.alloc (.cells #[v] t)).cell? ⟨W.heap.size, 0, none⟩ = some v ∧ (W.alloc (.cells #[v] t)).frozen? ⟨W.heap.size, 0, none⟩ = false := cell_box (World.alloc_heap_new W _)
theorem cell_alloc_l {W : World} {a : Addr} {v : Value} (o : Obj) (h : W.cell? a = some v) : (W.alloc o).cell? a = some v := (Chg.alloc (F := fun _ => False) W o).cell id h
theorem frozen_alloc_l {W : World} {a : Addr} {v : Value} (o : Obj) (h : W.cell? a = some v) (hf : W.frozen? a = false) : (W.alloc o).frozen? a = false := (Chg.alloc (F := fun _ => False) W o).frozen (World.block_lt_of_cell? W a h) id hf
theorem below_put {B : Nat} (W : World) (l : Nat) (o : Obj) (h : B ≤ l) : Below B W (W.putObj l o) := ⟨rfl, rfl, rfl, by simp [World.putObj], fun k hk => World.putObj_heap_other (by omega)⟩
/-- a block that is no cells and was laid behind a world's end -/
def Aside (n : Nat) (W : World) (l : Nat) : Prop := n ≤ l ∧ ∃ o, W.heap[l]? = some o ∧ o.isCells = false
/-- what m rounds leave, if each of them keeps I and goes on -/
theorem range_method {F : Fence} {n : Nat} {P : Program} {gv : Operand} {ps : Array Tmp} {assign body : Code} {Q : Exit → Act → World → Prop} {a : Act} {w : World} (hro : F.round = none) (h1 : 1 ≤ n) {gf : Nat} {ba : Array Value}
    (hg : a.eval gv = .func (.func gf) ba #[]) (hFg : F.fn gf) (eg : ∀ args w, (callFunc gf args).run P w = .ok (.enter gf args) w) (m B : Nat) (encs : Nat → Array Value) (hps : ∀ k, (encs k).size = ps.size) (hBw : B ≤ w.heap.size)
    (hseq : ∀ (l : Nat) (J : Nat → World → Prop) (W : World), Below B w W → (∀ k W1, k < m → J k W1 → YieldAt F (n - 1 - 1) P l (encs k) W1 fun e W' => e = .returned (.bool true) ∧ J (k + 1) W' ∧ Below B W1 W') → J 0 W →
      CallsIn F (n - 1) P gf (ba ++ #[.func (.yield l) #[] #[]]) W fun e W' => (∃ v, e = .returned v) ∧ J m W')
    (I : Nat → World → Prop) (hIa : ∀ k W o, I k W → I k (W.alloc o)) (hIp : ∀ k W l o', I k W → Aside w.heap.size W l → I k (W.putObj l o')) (h0 : I 0 w) (a1 : Nat → Act)
    (hassign : ∀ (l k : Nat) (W : World) (K : Act → World → Prop), K (a1 k) W → assign.wpIn (F.inRound l) (n - 1 - 1) P (Exit.then K (fun _ _ _ => False)) { tmps := (ps.zip (encs k)).foldl (fun t (p, v) => t.setIfInBounds p v) a.tmps, defers := [] } W)
    (hbody : ∀ (l k : Nat) (W : World), k < m → I k W → body.wpIn (F.inRound l) (n - 1 - 1) P (fun e _ W' => e = .normal ∧ KeepsOthers W W' ∧ Below B W W' ∧ I (k + 1) W') (a1 k) W)
    (hdone : ∀ (D : Nat) (W : World), w.heap.size ≤ D → I m W → W.heap[D]? = some (.deferred (some [])) → Q .normal { a with defers := { target := .collected D, args := #[] } :: a.defers } W) :
    (Code.rangeFunc gv ps assign body).wpIn F n P Q a w := by
  refine wpIn_rangeFunc ?_
  intro fn hfn
  rw [hro]
  obtain ⟨rc, hrc⟩ : ∃ rc : LoopState → Option Code → Loop, rc = fun st pe => { state := st, pending := pe, fn, tmps := a.tmps, params := ps, assign, body, defers := w.heap.size } := ⟨_, rfl⟩
  obtain ⟨W1, hW1⟩ : ∃ W1, (w.alloc (.deferred (some []))).alloc (.loop (rc .ready none)) = W1 := ⟨_, rfl⟩
  have hL1 : W1.heap[w.heap.size + 1]? = some (.loop (rc .ready none)) := by
    rw [← hW1]
    have := World.alloc_heap_new (w.alloc (.deferred (some []))) (.loop (rc .ready none))
    rwa [World.size_alloc] at this
  have hK1 : W1.heap[w.heap.size]? = some (.deferred (some [])) := by
    rw [← hW1]
    exact (Below.heap_alloc _ _ _ (by simp)).trans (World.alloc_heap_new w _)
  have hb1 : Below B w W1 := by
    rw [← hW1]
    exact ((Below.refl _ w).alloc hBw _).alloc (by simp; omega) _
  have hI1 : I 0 W1 := by rw [← hW1]; exact hIa _ _ _ (hIa _ _ _ h0)
  refine ⟨w.heap.size + 1, [{ target := .collected w.heap.size, args := #[] }], W1, { target := .fn (.func gf) #[], args := ba ++ #[.func (.yield (w.heap.size + 1)) #[] #[]] }, W1, gf, ba ++ #[.func (.yield (w.heap.size + 1)) #[] #[]], W1, ?_, ?_, ?_, ?_, fun _ => h1, ?_⟩
  · rw [← hW1, hrc]
    exact run_enterLoop_outer _ _ _ _ _
  · simp only [resolve, hg]
    simp [go_sem]
  · intro f' hf'
    simp [Target.leads] at hf'
    subst hf'
    exact hFg
  · simp [invoke, go_sem, eg]
  · refine (hseq (w.heap.size + 1) (fun k W => I k W ∧ W.heap[w.heap.size + 1]? = some (.loop (rc .ready none)) ∧ W.heap[w.heap.size]? = some (.deferred (some []))) W1 hb1 ?_ ⟨hI1, hL1, hK1⟩).mono ?_
    · rintro k W hk ⟨hi, hl, hd⟩
      have hlt := (Array.getElem?_eq_some_iff.1 hl).1
      have hy := run_yield (P := P) (args := encs k) hl (by rw [hrc]; exact hps k)
      rw [hrc] at hy
      refine ⟨fn, _, assign, body, hy, roundIn_of_wpIn hfn (hassign _ k W _ ⟨_, run_beginRound hl (by rw [hrc]), ?_⟩)⟩
      have hl2 : (W.putObj (w.heap.size + 1) (.loop { rc .ready none with state := .busy })).heap[w.heap.size + 1]? = some (.loop { rc .ready none with state := .busy }) := World.putObj_heap_same hlt
      have hd2 : (W.putObj (w.heap.size + 1) (.loop { rc .ready none with state := .busy })).heap[w.heap.size]? = some (.deferred (some [])) := (World.putObj_heap_other (by omega)).trans hd
      have hi2 := hIp k W (w.heap.size + 1) (.loop { rc .ready none with state := .busy }) hi ⟨by omega, _, hl, rfl⟩
      have hB2 : Below B W (W.putObj (w.heap.size + 1) (.loop { rc .ready none with state := .busy })) := belowK_b (w := w) hBw W (w.heap.size + 1) _ _ (by omega) hl rfl rfl
      refine wpIn_mono (hbody _ k _ hk hi2) ?_
      rintro e a3 W3 ⟨rfl, hk3, hB3, hi3⟩
      have hl3 := hk3.same _ _ hl2 rfl
      have hr3 := run_endRound (P := P) none hl3
      rw [hrc] at hr3
      have hlt3 := (Array.getElem?_eq_some_iff.1 hl3).1
      refine ⟨_, _, hr3, rfl, ⟨hIp _ _ _ _ hi3 ⟨by omega, _, hl3, rfl⟩, ?_, (World.putObj_heap_other (by omega)).trans (hk3.same _ _ hd2 rfl)⟩, (hB2.trans hB3).trans (belowK_b (w := w) hBw W3 (w.heap.size + 1) _ _ (by omega) hl3 rfl rfl)⟩
      rw [hrc]
      exact World.putObj_heap_same hlt3
    · rintro e W2 ⟨⟨v, rfl⟩, hi, hl, hd⟩
      have he : (Instr.endLoop (w.heap.size + 1)).run P W2 = .ok none (W2.putObj (w.heap.size + 1) (.loop { rc .ready none with state := .exhausted })) := by
        have := run_endLoop (P := P) hl (by rw [hrc]; simp)
        rw [hrc] at this ⊢
        exact this
      exact ⟨none, _, he, hdone _ _ (Nat.le_refl _) (hIp _ _ _ _ hi ⟨by omega, _, hl, rfl⟩) ((World.putObj_heap_other (by omega)).trans hd)⟩
set_option maxHeartbeats 1000000 in
set_option maxRecDepth 100000 in
/-- all, for a body that always goes on -/
theorem pall_in (F : Fence) (n : Nat) (h52 : F.fn 82) (hro : F.round = none) (hn : 1 ≤ n) (l B g gm N : Nat) (bs : List Nat) (hl : bs.length = N) (hN : N ≤ 4) (hgB : g < B) (hmB : gm < B) (W : World)
    (k0 : W.cell? ⟨g, 0, none⟩ = some (.int .i64 N)) (k10 : W.cell? ⟨g, 10, none⟩ = some (.map (some gm))) (hm : W.heap[gm]? = some (.map (ents bs 0).toArray bs.length)) (J : Nat → World → Prop)
    (hY : ∀ k W1, k < N → J k W1 → YieldAt F (n - 1) Try.prog l #[.int .i64 k, ptrV (bs.getD k 0)] W1 fun e W' => e = .returned (.bool true) ∧ J (k + 1) W' ∧ Below B W1 W') (h0 : J 0 W) :
    CallsIn F n Try.prog 82 #[ptrV g, .func (.yield l) #[] #[]] W fun e W' => (∃ v, e = .returned v) ∧ J N W' := by
  refine callsIn_of_wp Try.func82 rfl h52 ?_ hro
  unfold ptrV
  simp only [Try.ntmps82, List.size_toArray, List.length_cons, List.length_nil, Nat.reduceAdd, Nat.reduceSub, Array.replicate_succ, Array.replicate_zero, List.push_toArray, List.append_toArray, List.nil_append, List.cons_append]
  gi_wp2
  gi_loopw [4, 10] (fun _ i wr => ∃ k : Nat, k ≤ N ∧ i = .int .i64 k ∧ J k wr ∧ Below B W wr) (fun _ i _ => N - (intOf i).toNat)
  case atStart => exact ⟨0, Nat.zero_le _, rfl, h0, Below.refl _ _⟩
  case round =>
    obtain ⟨k, hk, rfl, hJs, hB⟩ := hrel
    by_cases hlt : k < N
    · obtain ⟨fn, tmps, assign, body, hy, hR⟩ := hY k wr hlt hJs
      unfold ptrV at hy
      have k10' : wr.cell? ⟨g, 10, none⟩ = some (.map (some gm)) := (hB.cell (p := ⟨g, 10, none⟩) hgB).trans k10
      have hm' : wr.heap[gm]? = some (.map (ents bs 0).toArray bs.length) := (hB.block gm hmB).trans hm
      have hlk : (Instr.lookup 66 (.map (some gm)) (.int .i64 k) false).run Try.prog wr = .ok (.pointer (some ⟨bs.getD k 0, 0, none⟩)) wr := by
        rw [run_lookup_stm hm']
        rw [if_neg (by decide), if_pos (by omega), show ((k : Nat) : Int).toNat = k by omega]
        rfl
      obtain ⟨b, hb⟩ : ∃ b, bs.getD k 0 = b := ⟨_, rfl⟩
      rw [hb] at hy hlk
      clear hm' hb
      gi_wp2
      refine hR.mono ?_
      rintro e W3 ⟨rfl, hJ3, hk3⟩
      gi_wp2
      go_roundw
      case rel => exact ⟨k + 1, by omega, by simp, hJ3, hB.trans hk3⟩
      case measure => simp [intOf]; omega
    · obtain rfl : k = N := by omega
      gi_wp2
      go_end0
      exact ⟨⟨_, rfl⟩, hJs⟩
set_option maxHeartbeats 2000000 in
set_option maxRecDepth 100000 in
/-- sum, of what a function tells that only reads -/
theorem psumq_calls {w : World} {g gm N : Nat} {bs : List Nat} (hl : bs.length = N) (hN : N ≤ 4) (k0 : w.cell? ⟨g, 0, none⟩ = some (.int .i64 N)) (k10 : w.cell? ⟨g, 10, none⟩ = some (.map (some gm))) (hm : w.heap[gm]? = some (.map (ents bs 0).toArray bs.length))
    (tell : Nat → Nat) (hq : ∀ k W, k < N → Below w.heap.size w W → Calls Try.prog 83 #[ptrV (bs.getD k 0)] W fun e w' => e = .returned (.int .i64 (tell k)) ∧ w' = W) (hs : ∀ k, k ≤ N → sumL ((List.range k).map tell) ≤ 1000000) :
    Calls Try.prog 49 #[ptrV g] w fun e w' => e = .returned (.int .i64 (sumL ((List.range N).map tell))) ∧ Below w.heap.size w w' := by
  have hg := World.block_lt_of_cell? w ⟨g, 0, none⟩ k0
  have hgm := heap_some hm
  refine (callsIn_wide (n := 3)).1 ?_
  refine callsIn_of_wp_marks Try.func49 rfl trivial ?_ rfl
  unfold ptrV
  simp only [Try.ntmps49, List.size_toArray, List.length_cons, List.length_nil, Nat.reduceAdd, Nat.reduceSub, Array.replicate_succ, Array.replicate_zero, List.push_toArray, List.append_toArray, List.nil_append, List.cons_append]
  gi_wp2
  have hmx : Try.prog.follows .mixedOrders = true := by kernel_rfl
  obtain ⟨w0, hw0⟩ : ∃ w0, w.alloc (.cells #[.int .i64 0] 3) = w0 := ⟨_, rfl⟩
  have hs0 : w0.heap.size = w.heap.size + 1 := by rw [← hw0]; simp
  have hB0 : Below w.heap.size w w0 := by rw [← hw0]; exact (Below.refl _ w).alloc (Nat.le_refl _) _
  have hc1 : w0.cell? ⟨w.heap.size, 0, none⟩ = some (.int .i64 0) ∧ w0.frozen? ⟨w.heap.size, 0, none⟩ = false := by
    rw [← hw0]
    exact cell_new_l w (.int .i64 0) 3
  rw [hw0]
  refine range_method rfl (by omega) (gf := 82) (ba := #[.pointer (some ⟨g, 0, none⟩)]) rfl trivial (enters_of Try.func82 (by kernel_rfl) rfl) N w.heap.size (fun k => #[.int .i64 k, ptrV (bs.getD k 0)]) (fun _ => rfl) (by omega)
    (fun l J W hW hY hJ => pall_in .wide _ trivial rfl (by omega) l w.heap.size g gm N bs hl hN hg hgm W (((hB0.trans hW).cell (p := ⟨g, 0, none⟩) hg).trans k0) (((hB0.trans hW).cell (p := ⟨g, 10, none⟩) hg).trans k10) (((hB0.trans hW).block gm hgm).trans hm) J hY hJ)
    (fun k W => (W.cell? ⟨w.heap.size, 0, none⟩ = some (.int .i64 (sumL ((List.range k).map tell) : Nat)) ∧ W.frozen? ⟨w.heap.size, 0, none⟩ = false) ∧ True ∧ Below w.heap.size w W)
    ?alloc ?put ⟨hc1, trivial, hB0⟩
    (fun k => { tmps := #[.pointer (some ⟨g, 0, none⟩), undef, .int .i64 0, .pointer (some ⟨w.heap.size, 0, none⟩), undef, ptrV (bs.getD k 0), .pointer (some ⟨g, 0, none⟩), .func (.func 82) #[.pointer (some ⟨g, 0, none⟩)] #[], .int .i64 k, ptrV (bs.getD k 0), undef, undef, undef, undef, undef], defers := [] }) ?assign ?body ?done
  case alloc =>
    rintro k W o ⟨⟨a1, a2⟩, a3, a4⟩
    exact ⟨⟨cell_alloc_l _ a1, frozen_alloc_l _ a1 a2⟩, trivial, a4.alloc a4.size _⟩
  case put =>
    rintro k W l o' ⟨⟨a1, a2⟩, a3, a4⟩ ⟨hl', o, ho, hco⟩
    have hgr := grownBy_putObj' W l o'
    have hr : ∀ r, some l = some r → ∃ o : Obj, W.heap[r]? = some o ∧ o.isCells = false := fun r e => by cases e; exact ⟨o, ho, hco⟩
    exact ⟨⟨cell_kept a1 hgr hr, (frozen_kept a1 hgr hr).trans a2⟩, trivial, a4.trans (below_put W l o' (by omega))⟩
  case assign =>
    intro l k W K hK
    gi_wp2
    exact hK
  case body =>
    rintro l k W hk ⟨⟨hc, hf⟩, ho, hB⟩
    have HQ := hid (hq k W.drew hk (hB.trans (Below.refl _ W).drew))
    have hsum : sumL ((List.range (k + 1)).map tell) = sumL ((List.range k).map tell) + tell k := by
      have := sumL_take_succ ((List.range (k + 1)).map tell) k (by simp)
      rw [List.take_of_length_le (by simp)] at this
      rw [this]
      simp [List.range_succ]
    have hbd := hs (k + 1) hk
    obtain ⟨b, hb⟩ : ∃ b, bs.getD k 0 = b := ⟨_, rfl⟩
    rw [hb] at HQ
    rw [hb]
    unfold ptrV at HQ ⊢
    generalize sumL ((List.range k).map tell) = S at *
    have HSUM := hid hsum
    rw [hsum] at hbd
    clear hsum hb
    gi_wp2
    gi_region_with_o (refine ⟨trivial, ?_⟩; gi_at_call 83; refine (CallsIn.inRound l (callsIn_wide.2 HQ.out)).mono ?_; rintro e w' ⟨rfl, rfl⟩)
    all_goals gi_wp2
    all_goals have hwr : IntKind.i64.wrap ((S : Int) + (tell k : Int)) = ((S + tell k : Nat) : Int) := by simp [IntKind.wrap, IntKind.bits, IntKind.signed]; omega
    all_goals have hrs := HSUM.out
    all_goals rw [List.range_succ, List.map_append, List.map_singleton] at hrs
    all_goals have hB3 : ∀ v, Below w.heap.size W (W.setCell ⟨w.heap.size, 0, none⟩ v).drew := fun v => ((Below.refl w.heap.size W).setCell (p := ⟨w.heap.size, 0, none⟩) (Nat.le_refl _) v).drew
    all_goals exact ⟨(KeepsOthers.setCell W _ _).trans (KeepsOthers.drew _), hB3 _, by rw [hrs]; exact hwr, hB.trans (hB3 _)⟩
  case done =>
    rintro D W hD ⟨⟨hc, hf⟩, ho, hB⟩ hK
    gi_wp2
    refine ⟨by simp, .inl ⟨_, _, rfl, run_takeDeferred hK, ?_⟩⟩
    exact ⟨_, results_tmp rfl _ _ _, rfl, hB.trans (belowK_b (w := w) (Nat.le_refl _) W D _ _ (by omega) hK rfl rfl)⟩
end Go.Proofs.Ytnclmbolfpojoaa
