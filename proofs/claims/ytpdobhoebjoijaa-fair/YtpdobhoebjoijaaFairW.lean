/-
  The walk of Fair: for every configuration and every size of messages it tells true.
-/
import Derived.Test.YtpdobhoebjoijaaPNew
import Derived.Test.YtpdobhoebjoijaaSpotted
import Derived.Test.YtpdobhoebjoijaaFairS
import Derived.Deep.CutBlock
import Derived.Deep.DeepCutAuto
namespace Go.Proofs.Ytpdobhoebjoijaa
open Go.RowKit
/-- the configuration of Fair -/
def Cfg.two (c : Cfg) : Cfg := { c with n := 2, window := 250, queue := 600 }
theorem Cfg.Ok.two {c : Cfg} (h : c.Ok) (hw : ∀ i, i < 4 → 1 ≤ c.weight i ∧ c.weight i ≤ 4 ∧ c.raw i = (c.weight i : Nat)) : c.two.Ok :=
  ⟨by show 1 ≤ 2; omega, by show 2 ≤ 4; omega, fun i hi => ⟨(hw i (by have : i < 2 := hi; omega)).1, (hw i (by have : i < 2 := hi; omega)).2.1⟩, h.q1, h.q8, h.c1, h.c8, by show 8 ≤ 250; omega, by show 250 ≤ 250; omega, by show 1 ≤ 600; omega, by show 600 ≤ 600; omega, h.p1, h.p9⟩
/-- two rows of numbers, which lie apart -/
def Rows2 (B : Nat) (w : World) (vl vm : Value) (ls ms : List Nat) : Prop :=
  ∃ Fl Fm : Nat → Prop, (∀ k, Fl k → B ≤ k ∧ k < w.heap.size) ∧ (∀ k, Fm k → B ≤ k ∧ k < w.heap.size) ∧ (∀ k, Fl k → ¬ Fm k) ∧ QRow w Fl 3 vl (ls.map fun x => .int .i64 (x : Nat)) ∧ QRow w Fm 3 vm (ms.map fun x => .int .i64 (x : Nat))
theorem Rows2.below {B : Nat} {w w1 : World} {vl vm : Value} {ls ms : List Nat} (h : Rows2 B w vl vm ls ms) (hb : Below w.heap.size w w1) : Rows2 B w1 vl vm ls ms := by
  obtain ⟨Fl, Fm, h1, h2, h3, h4, h5⟩ := h
  exact ⟨Fl, Fm, fun k e => ⟨(h1 k e).1, Nat.lt_of_lt_of_le (h1 k e).2 hb.size⟩, fun k e => ⟨(h2 k e).1, Nat.lt_of_lt_of_le (h2 k e).2 hb.size⟩, h3, h4.keeps (G := fun _ => False) (.of_below hb) (fun _ _ _ _ _ => id), h5.keeps (G := fun _ => False) (.of_below hb) (fun _ _ _ _ _ => id)⟩
theorem Rows2.nil (B : Nat) (w : World) : Rows2 B w (.slice none 0 0) (.slice none 0 0) [] [] := ⟨fun _ => False, fun _ => False, fun _ e => e.elim, fun _ e => e.elim, fun _ e => e.elim, QRow.nil _ _ _, QRow.nil _ _ _⟩
theorem rows2_pushL {B : Nat} {W w' : World} {Fl Fm : Nat → Prop} {vm v' : Value} {ls ms : List Nat} {x : Nat} (hW : B ≤ W.heap.size) (h1 : ∀ k, Fl k → B ≤ k ∧ k < W.heap.size) (h2 : ∀ k, Fm k → B ≤ k ∧ k < W.heap.size) (h3 : ∀ k, Fl k → ¬ Fm k) (h5 : QRow W Fm 3 vm (ms.map fun x => .int .i64 (x : Nat)))
    {N : Nat} (hN : W.heap.size = N) (hq : QRow w' (Up Fl N) 3 v' ((ls.map fun x => .int .i64 (x : Nat)) ++ [.int .i64 (x : Nat)])) (hc : Chg (RowOf W Fl 3) W w') : Rows2 B w' v' vm (ls ++ [x]) ms := by
  subst hN
  refine ⟨fun k => Up Fl W.heap.size k ∧ k < w'.heap.size, Fm, fun k e => ⟨?_, e.2⟩, fun k e => ⟨(h2 k e).1, Nat.lt_of_lt_of_le (h2 k e).2 hc.size⟩, fun k e hm => ?_, ?_, h5.keeps hc (fun k _ _ hk _ e => h3 k e.1 hk)⟩
  · rcases e.1 with e | e
    · exact (h1 k e).1
    · exact Nat.le_trans hW e
  · rcases e.1 with e | e
    · exact h3 k e hm
    · have := (h2 k hm).2
      omega
  · rw [List.map_append, List.map_singleton]
    exact hq.mono (fun k hk e => ⟨e, hk⟩)
theorem rows2_pushM {B : Nat} {W w' : World} {Fl Fm : Nat → Prop} {vl v' : Value} {ls ms : List Nat} {x : Nat} (hW : B ≤ W.heap.size) (h1 : ∀ k, Fl k → B ≤ k ∧ k < W.heap.size) (h2 : ∀ k, Fm k → B ≤ k ∧ k < W.heap.size) (h3 : ∀ k, Fl k → ¬ Fm k) (h5 : QRow W Fl 3 vl (ls.map fun x => .int .i64 (x : Nat)))
    {N : Nat} (hN : W.heap.size = N) (hq : QRow w' (Up Fm N) 3 v' ((ms.map fun x => .int .i64 (x : Nat)) ++ [.int .i64 (x : Nat)])) (hc : Chg (RowOf W Fm 3) W w') : Rows2 B w' vl v' ls (ms ++ [x]) := by
  subst hN
  refine ⟨Fl, fun k => Up Fm W.heap.size k ∧ k < w'.heap.size, fun k e => ⟨(h1 k e).1, Nat.lt_of_lt_of_le (h1 k e).2 hc.size⟩, fun k e => ⟨?_, e.2⟩, fun k hl e => ?_, h5.keeps hc (fun k _ _ hk _ e => h3 k hk e.1), ?_⟩
  · rcases e.1 with e | e
    · exact (h2 k e).1
    · exact Nat.le_trans hW e
  · rcases e.1 with e | e
    · exact h3 k hl e
    · have := (h1 k hl).2
      omega
  · rw [List.map_append, List.map_singleton]
    exact hq.mono (fun k hk e => ⟨e, hk⟩)
theorem two_cell (w : World) (o : Obj) (x : Value) (T : TypeId) : ((w.alloc o).alloc (.cells #[x] T)).cell? ⟨w.heap.size + 1, 0, none⟩ = some x := by
  have := cell_one (w.alloc o) x T
  rwa [World.size_alloc] at this
theorem info_int : (Try.prog.info? 3).map (fun i => (i.zero, i.size, i.bytes)) = some (some (.int .i64 0), 1, 8) := by kernel_rfl
/-- what lies in what is written, at the next frame -/
theorem frame_at {S out p : ByteArray} {k t : Nat} {m1 : Mod} (h : S = (Mod.write k m1 (out ++ frameB 1 t p)).1) : out.size + 4 + p.size ≤ S.size ∧ S.data.toList.getD out.size 0 = 1 ∧ S.data.toList.getD (out.size + 1) 0 = UInt8.ofNat t ∧ S.data.toList.getD (out.size + 2) 0 = UInt8.ofNat p.size := by
  obtain ⟨r, hr⟩ := write_front k m1 (out ++ frameB 1 t p)
  obtain ⟨x, hx⟩ := frame_list t p
  rw [← h, ByteArray.data_append, Array.toList_append, hx] at hr
  have hl : S.size = out.size + (4 + p.size) + r.length := by
    have := congrArg List.length hr
    rw [ba_len] at this
    simp only [List.length_append, List.length_cons, ba_len] at this
    omega
  have hg : ∀ j, S.data.toList.getD (out.size + j) 0 = ((1 :: UInt8.ofNat t :: UInt8.ofNat p.size :: x :: p.data.toList) ++ r).getD j 0 := by
    intro j
    rw [hr, List.append_assoc, List.getD_eq_getElem?_getD, List.getElem?_append_right (by rw [ba_len]; omega), ba_len, List.getD_eq_getElem?_getD, show out.size + j - out.size = j by omega]
  exact ⟨by omega, hg 0, hg 1, hg 2⟩
/-- what is told of the configuration and of the sums -/
structure Told (B : Nat) (w0 : World) (c : Cfg) (bC bS : Nat) (L M : Nat) (w : World) : Prop where
  cfg : w.heap[bC]? = some (.cells (cfgCells c) 40 (0, 0))
  sums : w.heap[bS]? = some (.cells #[.int .i64 L, .int .i64 M] 47 (0, 0))
  bel : Below B w0 w
/-- each of the pairs is fair -/
def FairL (c : Cfg) (ls ms : List Nat) : Prop :=
  ls.length = ms.length ∧ ∀ i, i < ls.length → ls.getD i 0 ≤ 240 ∧ ms.getD i 0 ≤ 240 ∧ ms.getD i 0 * c.weight 0 ≤ ls.getD i 0 * c.weight 1 ∧ ls.getD i 0 * c.weight 1 ≤ ms.getD i 0 * c.weight 0 + c.quantum * c.weight 0 * c.weight 1
theorem Rows2.set {B : Nat} {w w1 : World} {vl vm : Value} {ls ms : List Nat} {bS : Nat} {cs : Array Value} {T : TypeId} (h : Rows2 B w vl vm ls ms) (hs : w.heap[bS]? = some (.cells cs T (0, 0))) (hT : T ≠ 3) (hc : Chg (fun k => k = bS) w w1) : Rows2 B w1 vl vm ls ms := by
  obtain ⟨Fl, Fm, h1, h2, h3, h4, h5⟩ := h
  have hn : ∀ k cur fz, w.heap[k]? = some (.cells cur 3 fz) → ¬ k = bS := by
    rintro k cur fz e rfl
    rw [hs] at e
    simp at e
    exact hT e.2.1
  exact ⟨Fl, Fm, fun k e => ⟨(h1 k e).1, Nat.lt_of_lt_of_le (h1 k e).2 hc.size⟩, fun k e => ⟨(h2 k e).1, Nat.lt_of_lt_of_le (h2 k e).2 hc.size⟩, h3, h4.keeps hc (fun k cur fz _ e => hn k cur fz e), h5.keeps hc (fun k cur fz _ e => hn k cur fz e)⟩
theorem Told.set {B : Nat} {w0 w : World} {c : Cfg} {bC bS L M : Nat} (h : Told B w0 c bC bS L M w) (hB : B ≤ bS) (j x : Nat) (hj : j < 2) : Told B w0 c bC bS (if j = 0 then x else L) (if j = 1 then x else M) (w.setCell ⟨bS, j, none⟩ (.int .i64 (x : Nat))).drew := by
  have hc : Chg (fun k => k = bS) w (w.setCell ⟨bS, j, none⟩ (.int .i64 (x : Nat))).drew := (Chg.setCell (F := fun k => k = bS) w _ _ rfl).drew
  refine ⟨hc.keeps h.cfg ?_, ?_, (h.bel.setCell (p := ⟨bS, j, none⟩) hB _).drew⟩
  · rintro rfl
    have := h.cfg
    rw [h.sums] at this
    simp at this
  · show (w.setCell ⟨bS, j, none⟩ (.int .i64 (x : Nat))).heap[bS]? = _
    match j, hj with
    | 0, _ => simp [World.setCell, Array.getElem?_modify, h.sums]
    | 1, _ => simp [World.setCell, Array.getElem?_modify, h.sums]
theorem Told.row {w0 w w1 : World} {c : Cfg} {bC bS L M : Nat} {F : Nat → Prop} (h : Told w0.heap.size w0 c bC bS L M w) (hF : ∀ k, F k → w0.heap.size ≤ k) (hc : Chg (RowOf w F 3) w w1) : Told w0.heap.size w0 c bC bS L M w1 :=
  ⟨hc.rowKind h.cfg (by decide), hc.rowKind h.sums (by decide), h.bel.trans (hc.below h.bel.size (fun k e => hF k e.1))⟩
theorem Told.below {w0 w w1 : World} {c : Cfg} {bC bS L M : Nat} (h : Told w0.heap.size w0 c bC bS L M w) (hb : Below w.heap.size w w1) : Told w0.heap.size w0 c bC bS L M w1 :=
  ⟨(hb.block _ (heap_some h.cfg)).trans h.cfg, (hb.block _ (heap_some h.sums)).trans h.sums, h.bel.trans (hb.mono h.bel.size)⟩
theorem FairL.push {c : Cfg} {ls ms : List Nat} {L M a b : Nat} {m : Mod} (h : FairL c ls ms) (hf : FI c m a b L M) (hL : L ≤ 240) (hM : M ≤ 240) : FairL c (ls ++ [L]) (ms ++ [M]) := by
  refine ⟨by simp [h.1], fun i hi => ?_⟩
  have hg : ∀ (l : List Nat) (x : Nat), (l ++ [x]).getD l.length 0 = x := fun l x => by simp
  have hg2 : ∀ (l : List Nat) (x i : Nat), i < l.length → (l ++ [x]).getD i 0 = l.getD i 0 := fun l x i hi => by
    rw [List.getD_eq_getElem?_getD, List.getElem?_append_left hi, ← List.getD_eq_getElem?_getD]
  by_cases e : i < ls.length
  · rw [hg2 ls L i e, hg2 ms M i (by rw [← h.1]; exact e)]
    exact h.2 i e
  · have e' : i = ls.length := by simp at hi; omega
    have e2 : i = ms.length := by rw [e', h.1]
    rw [show (ls ++ [L]).getD i 0 = L by rw [e']; exact hg ls L, show (ms ++ [M]).getD i 0 = M by rw [e2]; exact hg ms M]
    exact ⟨hL, hM, hf.fair.bound⟩
theorem fair_arith {QQ CC v u x1 x2 y1 y2 : Nat} (hQ8 : QQ ≤ 8) (hC8 : CC ≤ 8) (hv4 : v ≤ 4) (hu4 : u ≤ 4)
    (hf1 : x1 ≤ 240 ∧ y1 ≤ 240 ∧ y1 * v ≤ x1 * u ∧ x1 * u ≤ y1 * v + QQ * v * u) (hf2 : x2 ≤ 240 ∧ y2 ≤ 240 ∧ y2 * v ≤ x2 * u ∧ x2 * u ≤ y2 * v + QQ * v * u) :
    ∃ (D1 D2 D q1 q2 q3 p1 p2 : Int), IntKind.i64.wrap ((x1 : Int) - (x2 : Int)) = (x1 : Int) - (x2 : Int) ∧ IntKind.i64.wrap ((y1 : Int) - (y2 : Int)) = (y1 : Int) - (y2 : Int) ∧
      IntKind.i64.wrap (((x1 : Int) - (x2 : Int)) * (u : Int)) = D1 ∧ IntKind.i64.wrap (((y1 : Int) - (y2 : Int)) * (v : Int)) = D2 ∧ IntKind.i64.wrap (D1 - D2) = D ∧
      (wrap64 (2 * (QQ : Int)) = q1 ∧ wrap64 (2 * (CC : Int)) = q2 ∧ wrap64 (q1 + q2) = q3) ∧ wrap64 (q3 * (v : Int)) = p1 ∧ wrap64 (p1 * (u : Int)) = p2 ∧ wrap64 (-D) = -D ∧ D ≤ p2 ∧ -D ≤ p2 := by
  obtain ⟨hx1, hy1, b1, b2⟩ := hf1
  obtain ⟨hx2, hy2, b3, b4⟩ := hf2
  have a1 : x1 * u ≤ 960 := Nat.mul_le_mul hx1 hu4
  have a2 : x2 * u ≤ 960 := Nat.mul_le_mul hx2 hu4
  have a3 : y1 * v ≤ 960 := Nat.mul_le_mul hy1 hv4
  have a4 : y2 * v ≤ 960 := Nat.mul_le_mul hy2 hv4
  have e1 : ((x1 : Int) - (x2 : Int)) * (u : Int) = ((x1 * u : Nat) : Int) - ((x2 * u : Nat) : Int) := by rw [Int.sub_mul, Int.natCast_mul, Int.natCast_mul]
  have e2 : ((y1 : Int) - (y2 : Int)) * (v : Int) = ((y1 * v : Nat) : Int) - ((y2 * v : Nat) : Int) := by rw [Int.sub_mul, Int.natCast_mul, Int.natCast_mul]
  obtain ⟨p1, hp1⟩ : ∃ x : Nat, (2 * QQ + 2 * CC) * v = x := ⟨_, rfl⟩
  obtain ⟨p2, hp2⟩ : ∃ x : Nat, p1 * u = x := ⟨_, rfl⟩
  have hp1b : p1 ≤ 128 := by rw [← hp1]; exact Nat.mul_le_mul (show 2 * QQ + 2 * CC ≤ 32 by omega) hv4
  have hp2b : p2 ≤ 512 := by rw [← hp2]; exact Nat.mul_le_mul hp1b hu4
  have hBp : QQ * v * u ≤ p2 := by rw [← hp2, ← hp1]; exact Nat.mul_le_mul_right _ (Nat.mul_le_mul_right _ (by omega))
  generalize QQ * v * u = B at *
  generalize x1 * u = X1 at *
  generalize x2 * u = X2 at *
  generalize y1 * v = Y1 at *
  generalize y2 * v = Y2 at *
  have hw : ∀ z : Int, -100000 ≤ z → z ≤ 100000 → IntKind.i64.wrap z = z := by
    intro z h1 h2
    simp [IntKind.wrap, IntKind.bits, IntKind.signed]
    omega
  refine ⟨(X1 : Int) - X2, (Y1 : Int) - Y2, (X1 : Int) - X2 - (Y1 - Y2), 2 * (QQ : Int), 2 * (CC : Int), 2 * (QQ : Int) + 2 * (CC : Int), (p1 : Int), (p2 : Int), hw _ (by omega) (by omega), hw _ (by omega) (by omega), by rw [e1]; exact hw _ (by omega) (by omega), by rw [e2]; exact hw _ (by omega) (by omega), hw _ (by omega) (by omega), ⟨by unfold wrap64; omega, by unfold wrap64; omega, by unfold wrap64; omega⟩, ?_, ?_, ?_, by omega, by omega⟩
  · have e : (2 * (QQ : Int) + 2 * (CC : Int)) * (v : Int) = (p1 : Int) := by rw [← hp1]; simp [Int.natCast_mul, Int.natCast_add]
    rw [e]
    exact wrap_small p1 (by omega)
  · have e : (p1 : Int) * (u : Int) = (p2 : Int) := by rw [← hp2]; simp [Int.natCast_mul]
    rw [e]
    exact wrap_small p2 (by omega)
  · unfold wrap64
    omega
theorem fair_start (c : Cfg) : FairL c [0] [0] := by
  refine ⟨rfl, fun i hi => ?_⟩
  simp only [List.length_singleton] at hi
  obtain rfl : i = 0 := by omega
  simp
set_option maxHeartbeats 4000000 in
set_option maxRecDepth 100000 in
theorem fair_walk (s0 s1 s2 s3 s4 s5 a0 a1 a2 a3 : Int) (gr sm : Int) (c : Cfg) (hc : c.Ok) (hw : ∀ i, i < 4 → 1 ≤ c.weight i ∧ c.weight i ≤ 4 ∧ c.raw i = (c.weight i : Nat)) (p q : Nat) (hp : p < 15) (hq : q < 15)
    (HC : ∀ w : World, Calls Try.prog 13 #[.agg #[.int .i64 s0, .int .i64 s1, .int .i64 s2, .int .i64 s3, .int .i64 s4, .int .i64 s5, .int .i64 a0, .int .i64 a1, .int .i64 a2, .int .i64 a3]] w fun e w' => e = .returned (.agg (cfgCells c)) ∧ Below w.heap.size w w')
    (P : ∀ w : World, Calls Try.prog 11 #[.int .i64 gr, .int .i64 15] w fun e w' => e = .returned (.int .i64 p) ∧ w' = w)
    (Q : ∀ w : World, Calls Try.prog 11 #[.int .i64 sm, .int .i64 15] w fun e w' => e = .returned (.int .i64 q) ∧ w' = w) (w : World) :
    Calls Try.prog 5 #[.agg #[.int .i64 s0, .int .i64 s1, .int .i64 s2, .int .i64 s3, .int .i64 s4, .int .i64 s5, .int .i64 a0, .int .i64 a1, .int .i64 a2, .int .i64 a3], .int .i64 gr, .int .i64 sm] w fun e w' => e = .returned (.bool true) ∧ Below w.heap.size w w' := by
  have HOK := hid (hc.two hw)
  have HCC := hid HC
  have HPP := hid P
  have HQQ := hid Q
  have HWT := hid hw
  clear HC P Q hw hc
  go_enter Try.func5, Try.ntmps5
  go_wp2_with fail
  refine (HCC.out _).mono ?_
  rintro e w1 ⟨rfl, hb1⟩
  have HB1 := hid ((below_alloc1 w _).trans (hb1.mono (by simp)))
  clear hb1
  unfold cfgCells
  go_wp2_with fail
  refine (pnew_calls c.two HOK.out _).mono ?_
  rintro e w2 ⟨g, rfl, hpe, hb2⟩
  replace hpe := hpe.mono (G := fun k => w1.heap.size < k) (fun k _ e => by simp at e; omega)
  have HE2 := hid hpe
  have hcf2 : w2.heap[w1.heap.size]? = some (.cells (cfgCells c.two) 40 (0, 0)) := (hb2.block _ (by simp)).trans (heap_alloc_new w1 _)
  have HCF2 := hid hcf2
  have HB2 := hid (HB1.out.trans (((below_alloc1 w1 _).trans (hb2.mono (by simp))).mono HB1.out.size))
  have HPR2 := hid (Pre.fresh HOK.out rfl rfl)
  have hs12 : w1.heap.size < w2.heap.size := heap_some hcf2
  clear hpe hb2 hcf2
  unfold ptrV
  go_wp2_with fail
  refine (HPP.out _).mono ?_
  rintro e wz ⟨rfl, hz⟩
  replace hz := hz.symm
  subst hz
  go_wp2_with fail
  have hs1 := submitted_calls HE2.out HPR2.out rfl rfl rfl 0 (1 + p) (by omega) (by omega) (by omega) (fun _ _ => by simp) rfl
  rw [show ((1 + p : Nat) : Int) = 1 + (p : Int) by omega] at hs1
  refine hs1.mono ?_
  rintro e w3 ⟨a, m3, F3, rfl, ha0, ha1, hpe3, hc3, hF3, hpr3⟩
  clear hs1
  have hg3 : ∀ k, F3 k → w1.heap.size < k := fun k e => by
    by_cases hk : k < w2.heap.size
    · exact hF3 k hk e
    · omega
  have HG3 := hid hg3
  have HE3 := hid hpe3
  have HPR3 := hid hpr3
  have HCF3 := hid (hc3.keeps HCF2.out (Nat.lt_irrefl _))
  have HB3 := hid (HB2.out.trans (hc3.below HB2.out.size (fun k e => Nat.le_trans HB1.out.size (Nat.le_of_lt e))))
  clear hpe3 hpr3 hc3 hF3 hg3 HE2 HPR2 HCF2
  go_wp2_with fail
  refine (HQQ.out _).mono ?_
  rintro e wz ⟨rfl, hz⟩
  replace hz := hz.symm
  subst hz
  go_wp2_with fail
  have hs1 := submitted_calls HE3.out HPR3.out rfl rfl rfl 1 (1 + q) (by omega) (by omega) (by omega) (fun j _ => by show (if j = 0 then a else 0) ≤ 240; split <;> omega) rfl
  rw [show ((1 + q : Nat) : Int) = 1 + (q : Int) by omega] at hs1
  refine hs1.mono ?_
  rintro e w4 ⟨b, m4, F4, rfl, hb0, hb1, hpe4, hc4, hF4, hpr4⟩
  clear hs1
  have hg4 : ∀ k, F4 k → w1.heap.size < k := fun k e => by
    by_cases hk : k < w3.heap.size
    · exact HG3.out k (hF4 k hk e)
    · have := heap_some HCF3.out
      omega
  have HG4 := hid hg4
  have HE4 := hid hpe4
  have HFI4 : Hid (FI c.two m4 a b 0 0) := by have := hpr4.fi rfl; rw [if_neg (by decide), if_pos rfl, if_pos rfl] at this; exact this
  have HCF4 := hid (hc4.keeps HCF3.out (fun e => Nat.lt_irrefl _ (HG3.out _ e)))
  have HB4 := hid (HB3.out.trans (hc4.below HB3.out.size (fun k e => Nat.le_trans HB1.out.size (Nat.le_of_lt (HG3.out k e)))))
  clear hpe4 hpr4 hc4 hF4 hg4 HE3 HPR3 HCF3 HG3
  go_wp2_with fail
  have hsz4 := (write_grows 1048576 m4 noB).2
  have hw4 := pwrite_calls HE4.out HFI4.out.inv HFI4.out.live 1048576 (by omega) (by show (Mod.write 1048576 m4 noB).1.size ≤ _; rw [noB_size] at hsz4; omega)
  refine hw4.mono ?_
  rintro e w5 ⟨rfl, _, hc5⟩
  have HCF5 := hid (hc5.keeps HCF4.out (fun e => Nat.lt_irrefl _ (HG4.out _ e)))
  have HB5 := hid (HB4.out.trans (hc5.below HB4.out.size (fun k e => Nat.le_trans HB1.out.size (Nat.le_of_lt (HG4.out k e)))))
  have hS0 : (Mod.write (1048576 : Int).toNat m4 noB).1.size ≤ 1048576 := by show (Mod.write 1048576 m4 noB).1.size ≤ _; rw [noB_size] at hsz4; omega
  obtain ⟨S, hS⟩ : ∃ S, (Mod.write (1048576 : Int).toNat m4 noB).1 = S := ⟨_, rfl⟩
  rw [hS] at hS0 ⊢
  have HS : Hid (S = (Mod.write 1048576 m4 noB).1) := hS.symm
  clear hc5 hw4 hsz4 hS HE4 HCF4 HG4 HB4 HB3 HB2 hs12 HCC HPP HQQ
  have hbC := heap_some HCF5.out
  obtain ⟨bC, hbCe⟩ : ∃ bC, w1.heap.size = bC := ⟨_, rfl⟩
  rw [hbCe] at HCF5 hbC ⊢
  have HBC := hid (hbCe ▸ HB1.out.size : w.heap.size ≤ bC)
  clear hbCe HB1
  obtain ⟨ii, hii, hz0⟩ := Option.map_eq_some_iff.1 info_int
  simp only [Prod.mk.injEq] at hz0
  have HI := hid hii
  have HZ := hid hz0
  clear hii hz0
  have hT0 : ∀ W : World, Below (w5.heap.size + 1) (w5.alloc (.cells #[.int .i64 0, .int .i64 0] 47)) W → Told w.heap.size w c.two bC w5.heap.size 0 0 W := by
    intro W hb
    refine ⟨(hb.block _ (by omega)).trans ((Below.heap_alloc _ _ _ hbC).trans HCF5.out), (hb.block _ (by omega)).trans (heap_alloc_new w5 _), HB5.out.trans (((below_alloc1 w5 _).mono HB5.out.size).trans (hb.mono (by have := HB5.out.size; omega)))⟩
  have HT0 := hid hT0
  clear hT0
  go_wp2_with (at_builtin; refine wpList_append_r _ rfl _ _ 48 rfl (fun _ => False) 3 ii (.int .i64 0) 8 Try.underlying48 HI.out HZ.out.1 HZ.out.2.1 HZ.out.2.2 rfl _ [] rfl (QRow.nil _ _ _) ⟨w5.heap.size + 1, 0, none⟩ 1 (.int .i64 0) rfl (two_cell w5 _ _ _) rfl (by simp [maxLen]) (by simp) ?_)
  intro v6 w6 hq6 hc6
  obtain ⟨al, cl, rfl⟩ := hq6.slice
  have hb6 : Below (w5.heap.size + 1) (w5.alloc (.cells #[.int .i64 0, .int .i64 0] 47)) w6 := ((below_alloc1 (w5.alloc _) _).mono (by simp)).trans (hc6.below (by simp) (fun k e => e.1.elim))
  have HR6 : Hid (Rows2 w.heap.size w6 (.slice al 1 cl) (.slice none 0 0) [0] []) := rows2_pushL (Fl := fun _ => False) (Fm := fun _ => False) (ls := []) (ms := []) (x := 0) (by have := HB5.out.size; simp; omega) (fun _ e => e.elim) (fun _ e => e.elim) (fun _ e => e.elim) (QRow.nil _ _ _) (by simp) hq6 hc6
  have HB6 := hid hb6
  have hs6 := hb6.size
  rw [World.size_alloc] at hs6
  clear hq6 hc6 hb6
  obtain ⟨Fl, Fm, hF1, hF2, hF3', hF4', hF5⟩ := HR6.out
  go_wp2_with (at_builtin; refine wpList_append_r _ rfl _ _ 48 rfl (fun _ => False) 3 ii (.int .i64 0) 8 Try.underlying48 HI.out HZ.out.1 HZ.out.2.1 HZ.out.2.2 rfl _ [] rfl (QRow.nil _ _ _) ⟨w6.heap.size, 0, none⟩ 1 (.int .i64 0) rfl (cell_one w6 _ _) rfl (by simp [maxLen]) (by simp) ?_)
  intro v7 w7 hq7 hc7
  obtain ⟨am, cm, rfl⟩ := hq7.slice
  have HB7 := hid (HB6.out.trans ((((below_alloc1 w6 _).mono hs6).trans (hc7.below (by simp; omega) (fun k e => e.1.elim)))))
  have hr7 := (HR6.out.below (below_alloc1 w6 (.cells #[.int .i64 0] 3)))
  have HR7 : Hid (Rows2 w.heap.size w7 (.slice al 1 cl) (.slice am 1 cm) [0] [0]) := by
    obtain ⟨Fl, Fm, hF1, hF2, hF3', hF4', hF5⟩ := hr7
    exact rows2_pushM (Fl := Fl) (Fm := fun _ => False) (ls := [0]) (ms := []) (x := 0) (by have := HB5.out.size; simp; omega) hF1 (fun _ e => e.elim) (fun _ _ e => e.elim) hF4' (by simp) hq7 hc7
  have HT7 := hid (HT0.out w7 HB7.out)
  have HB5s := hid HB5.out.size
  clear hq7 hc7 hr7 hF1 hF2 hF3' hF4' hF5 HR6 HB6 HB7 hs6 HT0 HCF5 HB5 hbC
  go_upto_block 0 with fail
  go_cut [14, 15, 16, 17] (fun vl vm _ _ wx => ∃ (ls ms : List Nat) (L M : Nat), Rows2 w.heap.size wx vl vm ls ms ∧ FairL c.two ls ms ∧ 0 < ls.length ∧ ls.length ≤ 1000 ∧ Told w.heap.size w c.two bC w5.heap.size L M wx ∧ 0 < L + M ∧ L ≤ 240 ∧ M ≤ 240)
  case first =>
    go_wp2_with fail
    go_loopw [14, 15, 16, 17] (fun vl vm vt _ wr => ∃ (ls ms : List Nat) (L M A k : Nat) (m1 : Mod) (out : ByteArray), vt = .int .i64 A ∧ out.size = A ∧ k + A = 1048576 ∧ A ≤ 5 * (L + M) ∧ S = (Mod.write k m1 out).1 ∧ FI c.two m1 a b L M ∧ L < a ∧ M < b ∧ Rows2 w.heap.size wr vl vm ls ms ∧ FairL c.two ls ms ∧ 0 < ls.length ∧ ls.length ≤ 1 + L + M ∧ Told w.heap.size w c.two bC w5.heap.size L M wr) (fun _ _ vt _ _ => S.size - (intOf vt).toNat)
    case atStart => exact ⟨[0], [0], 0, 0, 0, 1048576, m4, noB, rfl, rfl, rfl, by omega, HS.out, HFI4.out, ha0, hb0, HR7.out, fair_start _, by simp, by simp, HT7.out⟩
    case round =>
      obtain ⟨ls, ms, L, M, A, k, m1, out, rfl, hA, hk, hA5, hSw, hFI, hLa, hMb, hR, hFL, hl0, hl1, hT⟩ := hrel
      obtain ⟨t, pl, m2, hnx, hp1, hpc, hn2, hst⟩ := hFI.step ha1 hb1 hLa hMb
      have hpc8 : pl.size ≤ 8 := Nat.le_trans hpc HOK.out.c8
      have hSw2 : S = (Mod.write (k - (4 + pl.size)) m2 (out ++ frameB 1 t pl)).1 := by rw [hSw, writes_frame hnx hn2 (by omega)]
      obtain ⟨hz, g0, g1, g2⟩ := frame_at hSw2
      rw [hA] at hz g0 g1 g2
      have ht2 : t < 2 := by rcases hst with h | h <;> omega
      obtain ⟨n, hn⟩ : ∃ n, pl.size = n := ⟨_, rfl⟩
      have HR := hid hR
      have HFL := hid hFL
      have HST := hid hst
      have HT := hid hT
      have HSW := hid hSw2
      have HHA := hid hA
      have HHN := hid hn
      rw [hn] at hpc hpc8 hp1 hz g2
      clear hR hFL hst hT hSw hSw2 hnx hn2 hFI hA hn
      have hA0 : A < S.size := by omega
      have e0 : (S[A]'hA0).toNat = 1 := by rw [byte_at S A hA0, g0]; rfl
      have hA1 : A + 1 < S.size := by omega
      have e1 : (S[A + 1]'hA1).toNat = t := by rw [byte_at S (A + 1) hA1, g1]; exact byte_back t (by omega)
      have hA2 : A + 2 < S.size := by omega
      have e2 : (S[A + 2]'hA2).toNat = n := by rw [byte_at S (A + 2) hA2, g2]; exact byte_back n (by omega)
      have c6 : wr.cell? ⟨bC, 6, none⟩ = some (.int .i64 c.chunk) := Lib.cell_of_heap HT.out.cfg 6
      have hpc' : n ≤ c.chunk := hpc
      have l0 : wr.cell? ⟨w5.heap.size, 0, none⟩ = some (.int .i64 L) := Lib.cell_of_heap HT.out.sums 0
      have l1 : wr.cell? ⟨w5.heap.size, 1, none⟩ = some (.int .i64 M) := Lib.cell_of_heap HT.out.sums 1
      have lf := unfrozen HT.out.sums
      have HA5 := hid hA5
      have HK := hid hk
      clear hpc g0 g1 g2 hA5 hk
      go_upto_region 23 with fail
      have hw1 : IntKind.i64.wrap ((A : Int) + 4 + (n : Int) - (n : Int)) = (A : Int) + 4 := by simp [IntKind.wrap, IntKind.bits, IntKind.signed]; omega
      have hw2 : IntKind.i64.wrap ((A : Int) + 4 - 3) = (A : Int) + 1 := by simp [IntKind.wrap, IntKind.bits, IntKind.signed]; omega
      have hw3 : IntKind.i64.wrap ((L : Int) + (n : Int)) = ((L + n : Nat) : Int) := by simp [IntKind.wrap, IntKind.bits, IntKind.signed]; omega
      have hw4 : IntKind.i64.wrap ((M : Int) + (n : Int)) = ((M + n : Nat) : Int) := by simp [IntKind.wrap, IntKind.bits, IntKind.signed]; omega
      have hi0 : (0 : Int) ≤ (A : Int) + 1 := by omega
      have hi1 : (A : Int) + 1 < (S.size : Int) := by omega
      have hi2 : ((A : Int) + 1).toNat = A + 1 := by omega
      go_cut [97] from 58 to 133 (fun _ wx => ∃ L' M' : Nat, Told w.heap.size w c.two bC w5.heap.size L' M' wx ∧ Rows2 w.heap.size wx u14 u15 ls ms ∧ L' ≤ a ∧ M' ≤ b ∧ L' + M' = L + M + n ∧ (L' < a → M' < b → FI c.two m2 a b L' M'))
      case first =>
        have hB5 : w.heap.size ≤ w5.heap.size := HB5s.out
        rcases HST.out with ⟨rfl, hle, hnx⟩ | ⟨rfl, hle, hnx⟩
        · rw [HHN.out] at hle hnx
          go_big_region
          go_wp2_with fail
          go_meet
          have ht := HT.out.set hB5 0 (L + n) (by omega)
          rw [if_pos rfl, if_neg (by decide)] at ht
          exact ⟨L + n, M, ht, HR.out.set HT.out.sums (by decide) (Chg.setCell (F := fun k => k = w5.heap.size) wr _ _ rfl).drew, hle, Nat.le_of_lt hMb, by omega, fun e _ => hnx e⟩
        · rw [HHN.out] at hle hnx
          go_big_region
          go_wp2_with fail
          go_meet
          have ht := HT.out.set hB5 1 (M + n) (by omega)
          rw [if_neg (by decide), if_pos rfl] at ht
          exact ⟨L, M + n, ht, HR.out.set HT.out.sums (by decide) (Chg.setCell (F := fun k => k = w5.heap.size) wr _ _ rfl).drew, Nat.le_of_lt hLa, hle, by omega, fun _ e => hnx e⟩
      case rest =>
        obtain ⟨L', M', hT2, hR2, hLa2, hMb2, hLM, hFI2⟩ := hcut
        clear hw1 hw2 hw3 hw4 hi0 hi1 hi2 l0 l1 lf
        have l0 : wc.cell? ⟨w5.heap.size, 0, none⟩ = some (.int .i64 L') := Lib.cell_of_heap hT2.sums 0
        have l1 : wc.cell? ⟨w5.heap.size, 1, none⟩ = some (.int .i64 M') := Lib.cell_of_heap hT2.sums 1
        have HT2 := hid hT2
        have HR2 := hid hR2
        by_cases hfin : L' < a ∧ M' < b
        · have hfi := hFI2 hfin.1 hfin.2
          have HFI2 := hid hfi
          have h1a := hfin.1
          have h1b := hfin.2
          obtain ⟨Fl', Fm', f1, f2, f3, f4, f5⟩ := hR2
          obtain ⟨al', cl', rfl⟩ := f4.slice
          obtain ⟨am', cm', rfl⟩ := f5.slice
          simp only [List.length_map] at f4 f5 HR2 ⊢
          have F1 := hid f1
          have F2 := hid f2
          have F3' := hid f3
          have F4' := hid f4
          have F5 := hid f5
          clear hT2 f1 f2 f3 f4 f5 hfi hFI2 hfin e0 e1 e2
          go_wp2_with (at_builtin; refine wpList_append_r _ rfl _ _ 48 rfl Fl' 3 ii (.int .i64 0) 8 Try.underlying48 HI.out HZ.out.1 HZ.out.2.1 HZ.out.2.2 rfl _ (ls.map fun x => .int .i64 (x : Nat)) rfl (F4'.out.alloc _) ⟨wc.heap.size, 0, none⟩ 1 (.int .i64 L') rfl (cell_one wc _ _) rfl (by rw [List.length_map]; unfold maxLen; omega) (by rw [List.length_map]; omega) ?_)
          intro v8 w8 hq8 hc8
          obtain ⟨al8, cl8, rfl⟩ := hq8.slice
          simp only [List.length_append, List.length_map, List.length_singleton] at hq8
          have HT8 := hid ((HT2.out.below (below_alloc1 wc _)).row (fun k e => (F1.out k e).1) hc8)
          have HR8 : Hid (Rows2 w.heap.size w8 (.slice al8 (ls.length + 1) cl8) (.slice am' ms.length cm') (ls ++ [L']) ms) :=
            rows2_pushL (W := wc.alloc (.cells #[.int .i64 L'] 3)) (Fl := Fl') (Fm := Fm') (by have := HT2.out.bel.size; simp; omega) (fun k e => ⟨(F1.out k e).1, by have := (F1.out k e).2; simp; omega⟩) (fun k e => ⟨(F2.out k e).1, by have := (F2.out k e).2; simp; omega⟩) F3'.out (F5.out.alloc _) (by simp) hq8 hc8
          have m1' : w8.cell? ⟨w5.heap.size, 1, none⟩ = some (.int .i64 M') := Lib.cell_of_heap HT8.out.sums 1
          clear hq8 hc8 F1 F2 F3' F4' F5 l0 l1
          obtain ⟨Fl', Fm', f1, f2, f3, f4, f5⟩ := HR8.out
          have F1 := hid f1
          have F2 := hid f2
          have F3' := hid f3
          have F4' := hid f4
          have F5 := hid f5
          clear f1 f2 f3 f4 f5
          simp only [List.length_append, List.length_map, List.length_singleton]
          go_wp2_with (at_builtin; refine wpList_append_r _ rfl _ _ 48 rfl Fm' 3 ii (.int .i64 0) 8 Try.underlying48 HI.out HZ.out.1 HZ.out.2.1 HZ.out.2.2 rfl _ (ms.map fun x => .int .i64 (x : Nat)) rfl (F5.out.alloc _) ⟨w8.heap.size, 0, none⟩ 1 (.int .i64 M') rfl (cell_one w8 _ _) rfl (by rw [List.length_map, ← HFL.out.1]; unfold maxLen; omega) (by rw [List.length_map, ← HFL.out.1]; omega) ?_)
          intro v9 w9 hq9 hc9
          obtain ⟨am9, cm9, rfl⟩ := hq9.slice
          simp only [List.length_append, List.length_map, List.length_singleton] at hq9
          have HT9 := hid ((HT8.out.below (below_alloc1 w8 _)).row (fun k e => (F2.out k e).1) hc9)
          have HR9 : Hid (Rows2 w.heap.size w9 (.slice al8 (ls.length + 1) cl8) (.slice am9 (ms.length + 1) cm9) (ls ++ [L']) (ms ++ [M'])) :=
            rows2_pushM (W := w8.alloc (.cells #[.int .i64 M'] 3)) (Fl := Fl') (Fm := Fm') (by have := HT8.out.bel.size; simp; omega) (fun k e => ⟨(F1.out k e).1, by have := (F1.out k e).2; simp; omega⟩) (fun k e => ⟨(F2.out k e).1, by have := (F2.out k e).2; simp; omega⟩) F3'.out (F4'.out.alloc _) (by simp) hq9 hc9
          clear hq9 hc9 F1 F2 F3' F4' F5 m1'
          simp only [List.length_append, List.length_map, List.length_singleton]
          go_wp2_with fail
          refine ⟨?_, ?measure⟩
          (repeat apply Exists.intro)
          refine ⟨?rel, rfl⟩
          case rel =>
            have hk := HK.out
            have hA5 := HA5.out
            refine ⟨ls ++ [L'], ms ++ [M'], L', M', A + 4 + n, k - (4 + n), m2, out ++ frameB 1 t pl, by go_num, ?_, by omega, by omega, ?_, HFI2.out, h1a, h1b, HR9.out, HFL.out.push HFI2.out (by omega) (by omega), by simp, by simp; omega, HT9.out⟩
            · rw [ByteArray.size_append, frameB_size, HHA.out, HHN.out]
              omega
            · have := HSW.out
              rw [HHN.out] at this
              exact this
          case measure =>
            show S.size - ((A : Int) + 4 + (n : Int)).toNat < S.size - (A : Int).toNat
            omega
        · clear hT2 hR2 hFI2 e0 e1 e2
          by_cases hLx : L' < a
          · have hMx : b ≤ M' := by omega
            go_wp2_with fail
            go_meet
            exact ⟨ls, ms, L', M', HR2.out, HFL.out, hl0, by omega, HT2.out, by omega, by omega, by omega⟩
          · go_wp2_with fail
            go_meet
            exact ⟨ls, ms, L', M', HR2.out, HFL.out, hl0, by omega, HT2.out, by omega, by omega, by omega⟩
  case rest =>
    obtain ⟨ls, ms, L, M, hR, hFL, hl0, hl1, hT, hLM, hL, hM⟩ := hcut
    obtain ⟨Fl', Fm', f1, f2, f3, f4, f5⟩ := hR
    obtain ⟨gl, ol, kl, rfl, _, _, hkl, _, _, hcl⟩ := f4.at (by rw [List.length_map]; exact hl0)
    obtain ⟨gm, om, km, rfl, _, _, hkm, _, _, hcm⟩ := f5.at (by rw [List.length_map, ← hFL.1]; exact hl0)
    have HCL : Hid (∀ j, j < ls.length → wc.cell? ⟨gl, ol + j, none⟩ = some (.int .i64 (ls.getD j 0 : Nat))) := fun j hj => hcl j _ (map_get (fun x : Nat => Value.int .i64 x) ls j 0 hj)
    have HCM : Hid (∀ j, j < ls.length → wc.cell? ⟨gm, om + j, none⟩ = some (.int .i64 (ms.getD j 0 : Nat))) := fun j hj => hcm j _ (map_get (fun x : Nat => Value.int .i64 x) ms j 0 (by rw [← hFL.1]; exact hj))
    simp only [List.length_map]
    rw [← hFL.1]
    have HFL := hid hFL
    have HT := hid hT
    obtain ⟨v, hv⟩ : ∃ v, c.weight 0 = v := ⟨_, rfl⟩
    obtain ⟨u, hu⟩ : ∃ v, c.weight 1 = v := ⟨_, rfl⟩
    have hwv := HWT.out 0 (by omega)
    have hwu := HWT.out 1 (by omega)
    rw [hv] at hwv
    rw [hu] at hwu
    have hv1 := hwv.1
    have hv4 := hwv.2.1
    have hu1 := hwu.1
    have hu4 := hwu.2.1
    have k1 : wc.cell? ⟨bC, 1, none⟩ = some (.int .i64 v) := (Lib.cell_of_heap hT.cfg 1).trans (congrArg (fun x => some (Value.int .i64 x)) hwv.2.2)
    have k2 : wc.cell? ⟨bC, 2, none⟩ = some (.int .i64 u) := (Lib.cell_of_heap hT.cfg 2).trans (congrArg (fun x => some (Value.int .i64 x)) hwu.2.2)
    have KQ : Hid (wc.cell? ⟨bC, 5, none⟩ = some (.int .i64 c.quantum)) := Lib.cell_of_heap hT.cfg 5
    have KC : Hid (wc.cell? ⟨bC, 6, none⟩ = some (.int .i64 c.chunk)) := Lib.cell_of_heap hT.cfg 6
    have hQ8 : c.quantum ≤ 8 := HOK.out.q8
    have hC8 : c.chunk ≤ 8 := HOK.out.c8
    have HVU := hid (And.intro hv hu)
    clear hcl hcm f1 f2 f3 f4 f5 hT hFL hwv hwu hv hu
    go_upto_region 27 with fail
    go_big_region
    go_wp2_with fail
    clear k1 k2
    go_loopw [20, 21, 22] (fun vi _ _ wr => ∃ I q : Nat, I ≤ ls.length ∧ vi = .int .i64 I ∧ wr = wc.drewN q) (fun vi _ _ _ => ls.length - (intOf vi).toNat)
    case atStart => exact ⟨0, 1, Nat.zero_le _, rfl, rfl⟩
    case round =>
      obtain ⟨I, q1, hI, rfl, hwr⟩ := hrel
      subst hwr
      by_cases hlt : I < ls.length
      · go_wp2_with fail
        go_loopw [21, 22] (fun vk _ wr => ∃ K q : Nat, K ≤ I ∧ vk = .int .i64 K ∧ wr = wc.drewN q) (fun vk _ _ => I - (intOf vk).toNat)
        case atStart => exact ⟨0, q1, Nat.zero_le _, rfl, rfl⟩
        case round =>
          obtain ⟨K, q2, hK, rfl, hwr⟩ := hrel
          subst hwr
          by_cases hlt2 : K < I
          · have x1c := HCL.out I hlt
            have x2c := HCL.out K (by omega)
            have y1c := HCM.out I hlt
            have y2c := HCM.out K (by omega)
            have hf1 := HFL.out.2 I hlt
            have hf2 := HFL.out.2 K (by omega)
            have e1 : c.two.weight 0 = v := HVU.out.1
            have e2 : c.two.weight 1 = u := HVU.out.2
            have e3 : c.two.quantum = c.quantum := rfl
            rw [e1, e2, e3] at hf1 hf2
            generalize ls.getD I 0 = x1 at *
            generalize ls.getD K 0 = x2 at *
            generalize ms.getD I 0 = y1 at *
            generalize ms.getD K 0 = y2 at *
            obtain ⟨D1, D2, D, z1, z2, z3, p1, p2, r1, r2, r3, r4, r5, r0, r6, r7, r8, r9, r10⟩ := fair_arith hQ8 hC8 hv4 hu4 hf1 hf2
            have hI0 : (0 : Int) ≤ (I : Int) := Int.natCast_nonneg I
            have hI1 : (I : Int) < (ls.length : Int) := Int.ofNat_lt.2 hlt
            have hK0 : (0 : Int) ≤ (K : Int) := Int.natCast_nonneg K
            have hK1 : (K : Int) < (ls.length : Int) := Int.ofNat_lt.2 (Nat.lt_trans hlt2 hlt)
            have R0 := hid r0
            have R6 := hid r6
            have R7 := hid r7
            have R8 := hid r8
            have R9 := hid r9
            have R10 := hid r10
            clear hf1 hf2 r0 r6 r7 r8 r9 r10 e1 e2 e3 hQ8 hC8 hv1 hu1 hv4 hu4
            go_upto_region 34 with fail
            go_big_region
            have kq := KQ.out
            have kc := KC.out
            clear x1c x2c y1c y2c r1 r2 r3 r4 r5 hI0 hI1 hK0 hK1
            obtain ⟨r01, r02, r03⟩ := R0.out
            have r6 := R6.out
            have r7 := R7.out
            have r8 := R8.out
            have r9 := R9.out
            have r10 := R10.out
            go_upto_region 33 with fail
            clear r01 r02 r03 r6 r7 r8 r9 r10 R0 R6 R7 R8 R9 R10 kq kc
            go_wp2_with fail
            refine ⟨?_, ?ms1⟩
            (repeat apply Exists.intro)
            refine ⟨?rl1, rfl⟩
            case rl1 => exact ⟨K + 1, q2 + 1, hlt2, by go_num, rfl⟩
            case ms1 =>
              show I - ((K : Int) + 1).toNat < I - (K : Int).toNat
              omega
          · go_wp2_with fail
            refine ⟨⟨I + 1, q2, hlt, by go_num, rfl⟩, ?_⟩
            show ls.length - ((I : Int) + 1).toNat < ls.length - (I : Int).toNat
            omega
      · have l0 : wc.cell? ⟨w5.heap.size, 0, none⟩ = some (.int .i64 L) := Lib.cell_of_heap HT.out.sums 0
        have l1 : wc.cell? ⟨w5.heap.size, 1, none⟩ = some (.int .i64 M) := Lib.cell_of_heap HT.out.sums 1
        have hLM' : 0 < wrap64 ((L : Int) + (M : Int)) := by rw [wrap_small2 L M (by omega)]; omega
        go_wp2
        go_ret
        refine ⟨ret_bool ?_, below_draws HT.out.bel q1⟩
        simp
        omega
end Go.Proofs.Ytpdobhoebjoijaa
