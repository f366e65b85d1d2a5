/-
  The program's turns: whose it is, and what it sends.
-/
import Derived.Test.YtnclmbolfpojoaaPCut
namespace Go.Proofs.Ytnclmbolfpojoaa
open Go.RowKit
theorem row_end {w w1 : World} {F : Nat → Prop} {g : Nat} {cs : Array Value} {T : TypeId} {v : Value} {xs : List Value} (h : QRow w F T v xs) (hb : w.heap[g]? = some (.cells cs 72 (0, 0))) (hT : T ≠ 72) (hc : Chg (fun k => k = g) w w1) : QRow w1 F T v xs :=
  h.keeps hc (by rintro k cur fz _ hk rfl; rw [hb] at hk; simp at hk; exact hT hk.2.1.symm)
theorem PEndWith.setObj {w w1 : World} {F : Nat → Prop} {g : Nat} {m : Mod} {lab : Nat → Nat} {gm : Nat} {vW vC : Value} {bs : List Nat} (h : PEndWith w F g m lab gm vW vC bs) (m1 : Mod) (hc : Chg (fun k => k = g) w w1)
    (ho : w1.heap[g]? = some (.cells (peCells m1 (.map (some gm)) vW vC) 72 (0, 0))) (h1 : m1.control = m.control) (h2 : m1.ss = m.ss) (h3 : m1.c = m.c) (h4 : m1.inn = m.inn) (h5 : m1.died = m.died) : PEndWith w1 F g m1 lab gm vW vC bs where
  own := h.own
  ownM := h.ownM
  obj := ho
  map := hc.keeps h.map (by rintro rfl; have := h.map; rw [h.obj] at this; simp at this)
  rowW := by rw [h1]; exact row_end h.rowW h.obj (by decide) hc
  rowC := by rw [h4]; exact row_end h.rowC h.obj (by decide) hc
  len := by rw [h2]; exact h.len
  n := by rw [h2, h3]; exact h.n
  stm := fun i hi => by
    have := (h.stm i hi).keeps hc (by rintro k hk rfl; exact h.own.ne (by omega) hk) (by rintro k hk rfl; exact h.own.ne (by omega) hk)
    unfold Mod.flow Mod.at at this ⊢
    rw [h2, h5]
    exact this
  zero := fun hd i hi => by
    unfold Mod.at
    rw [h2]
    exact h.zero (by rw [← h5]; exact hd) i hi
theorem PEndWith.below {w w1 : World} {F : Nat → Prop} {g : Nat} {m : Mod} {lab : Nat → Nat} {gm : Nat} {vW vC : Value} {bs : List Nat} (h : PEndWith w F g m lab gm vW vC bs) (hb : Below w.heap.size w w1) : PEndWith w1 F g m lab gm vW vC bs :=
  h.keeps (G := fun _ => False) (Chg.of_below hb) (fun _ _ => id)
def PassPost (w : World) (F : Nat → Prop) (g : Nat) (m1 : Mod) (lab : Nat → Nat) (gm : Nat) (vW vC : Value) (bs : List Nat) (e : Ending) (w' : World) : Prop := e = .returned (.tuple #[]) ∧ PEndWith w' F g m1 lab gm vW vC bs ∧ Chg (fun k => k = g) w w'
theorem below_alloc1 (w : World) (o : Obj) : Below w.heap.size w (w.alloc o) := (Below.refl _ _).alloc (Nat.le_refl _) _
set_option maxHeartbeats 1000000 in
set_option maxRecDepth 100000 in
/-- pass -/
theorem ppass_calls {w : World} {F : Nat → Prop} {g : Nat} {m : Mod} {lab : Nat → Nat} {gm : Nat} {vW vC : Value} {bs : List Nat} (h : PEndWith w F g m lab gm vW vC bs) (ht : m.turn < m.ss.length) (hn : m.ss.length ≤ 4) :
    Calls Try.prog 86 #[.pointer (some ⟨g, 11, none⟩), .agg (cfgCells m.c)] w fun e w' => PassPost w F g m.passes lab gm vW vC bs e w' := by
  have hg : g < w.heap.size := heap_some h.obj
  have hne : ¬ w.heap.size = g := by omega
  obtain ⟨_, _, _, _, _, _, _, _, _, _, _, k11, k12, _⟩ := pe_cells h.obj
  have hz := unfrozen h.obj
  have hnn := h.n
  have ht4 : (m.turn : Int) < 4 := by omega
  have hmod : ((m.turn : Int) + 1) % (m.c.n : Int) = (m.passes.turn : Int) := by
    unfold Mod.passes
    simp only
    rw [hnn]
    split
    · rename_i e
      rw [← e]
      simp
    · rw [Int.emod_eq_of_lt (by omega) (by omega)]
      omega
  have hnz : ((m.c.n : Int) == 0) = false := by rw [beq_eq_false_iff_ne]; omega
  have hnz' : ¬ (m.c.n : Int) = 0 := by omega
  have HFin : Hid (∀ o, PassPost w F g m.passes lab gm vW vC bs (.returned (.tuple #[])) ((((w.setCell ⟨g, 11, none⟩ (.int .i64 m.passes.turn)).setCell ⟨g, 12, none⟩ (.bool false)).alloc o).drew)) := by
    intro o
    have hch : Chg (fun k => k = g) w ((w.setCell ⟨g, 11, none⟩ (.int .i64 m.passes.turn)).setCell ⟨g, 12, none⟩ (.bool false)) := (Chg.setCell (F := fun k => k = g) w ⟨g, 11, none⟩ _ rfl).trans' (Chg.setCell (F := fun k => k = g) _ ⟨g, 12, none⟩ _ rfl)
    refine ⟨rfl, ((h.setObj m.passes hch ?_ rfl rfl rfl rfl rfl).below (below_alloc1 _ o).drew), (hch.trans' (Chg.alloc _ o)).drew⟩
    simp [World.setCell, Array.getElem?_modify, h.obj, peCells, Mod.passes]
  have HM := hid hmod
  clear h hnn hmod
  unfold cfgCells
  go_enter Try.func86, Try.ntmps86
  go_wp2
  go_region
  go_wp2
  go_end0
  rw [HM.out]
  exact HFin.out _
/-- a stream has turned -/
theorem PEndWith.setStm {w w1 : World} {F : Nat → Prop} {g : Nat} {m : Mod} {lab : Nat → Nat} {gm : Nat} {vW vC : Value} {bs : List Nat} (h : PEndWith w F g m lab gm vW vC bs) (i : Nat) (hi : i < bs.length) (s : Stm) (hl : m.died = 0)
    (hc : Chg (Lab F lab (2 * i + 3)) w w1) (hs : PStm w1 (Lab F lab (2 * i + 3)) (Lab F lab (2 * i + 4)) (bs.getD i 0) s) (hz : s.queue = [] → s.deficit = 0) : PEndWith w1 F g (m.upd i s) lab gm vW vC bs where
  own := h.own
  ownM := h.ownM
  obj := hc.keeps h.obj (h.own.ne (by omega))
  map := hc.keeps h.map (h.ownM.ne (by omega))
  rowW := h.rowW.keeps hc (fun k _ _ hk _ => hk.ne (by omega))
  rowC := h.rowC.keeps hc (fun k _ _ hk _ => hk.ne (by omega))
  len := by rw [len_upd]; exact h.len
  n := by rw [len_upd]; exact h.n
  stm := fun j hj => by
    have hf : ∀ q : Mod, q.died = 0 → q.flow j = q.at j := fun q hq => by unfold Mod.flow; rw [if_neg (by simpa using hq)]
    rw [hf (m.upd i s) hl]
    by_cases e : i = j
    · subst e
      rw [at_upd_eq (by rw [← h.len]; exact hi)]
      exact hs
    · rw [at_upd_ne e, ← hf m hl]
      exact (h.stm j hj).keeps hc (fun k hk => hk.ne (by omega)) (fun k hk => hk.ne (by omega))
  zero := fun _ j hj => by
    by_cases e : i = j
    · subst e
      rw [at_upd_eq (by rw [← h.len]; exact hi)]
      exact hz
    · rw [at_upd_ne e]
      exact h.zero hl j hj
theorem PEndWith.stmAt {w : World} {F : Nat → Prop} {g : Nat} {m : Mod} {lab : Nat → Nat} {gm : Nat} {vW vC : Value} {bs : List Nat} (h : PEndWith w F g m lab gm vW vC bs) (hl : m.died = 0) {i : Nat} (hi : i < m.ss.length) : PStm w (Lab F lab (2 * i + 3)) (Lab F lab (2 * i + 4)) (bs.getD i 0) (m.at i) := by
  have := h.stm i (by rw [h.len]; exact hi)
  unfold Mod.flow at this
  rw [if_neg (by simpa using hl)] at this
  exact this
theorem lab_apart {F : Nat → Prop} {lab : Nat → Nat} {i j : Nat} (h : i ≠ j) : ∀ k, Lab F lab i k → ¬ Lab F lab j k := fun _ hk => hk.ne h
/-- what a stream that has its share sends: the end behind it, and the bytes -/
def Mod.cutE (m : Mod) : Mod :=
  let s := m.at m.turn
  let t := s.cut (s.cutN m.c.chunk) m.share
  if t.over then (m.upd m.turn t).passes else m.upd m.turn t
def Mod.cutB (m : Mod) : ByteArray := ((m.at m.turn).queue.headD noB).extract 0 ((m.at m.turn).cutN m.c.chunk)
theorem framed_cut (m : Mod) : m.framed = { m.cutE with now := frameB 1 m.turn m.cutB } := by
  unfold Mod.framed Mod.cutE Mod.cutB
  simp only
  split <;> rfl
theorem done_cut (s : Stm) (n share : Nat) : (s.pcut n).done share = s.cut n share := by
  unfold Stm.pcut Stm.done Stm.cut Stm.cutD
  simp only [Stm.mk.injEq, true_and, and_true]
  cases hq : s.cutQ n with
  | nil => simp
  | cons x r => simp
theorem over_cut (s : Stm) (n share : Nat) : ((s.pcut n).queue.isEmpty || (s.pcut n).deficit == 0 || (s.pcut n).credit == 0) = (s.cut n share).over := by
  unfold Stm.over Stm.pcut Stm.cut Stm.cutD
  simp only
  cases hq : s.cutQ n with
  | nil => simp
  | cons x r =>
    simp only [List.isEmpty_cons, Bool.false_or, List.cons_ne_nil, if_false]
    by_cases e : s.credit - n = 0
    · rw [e]; simp
    · rw [if_neg (fun x => e x.1)]
theorem cut_zero (s : Stm) (n share : Nat) : (s.cut n share).queue = [] → (s.cut n share).deficit = 0 := by
  intro h
  replace h : s.cutQ n = [] := h
  show s.cutD n share = 0
  unfold Stm.cutD
  rw [if_pos h]
theorem PEndWith.monoF {w : World} {F G : Nat → Prop} {g : Nat} {m : Mod} {lab : Nat → Nat} {gm : Nat} {vW vC : Value} {bs : List Nat} (h : PEndWith w F g m lab gm vW vC bs) (hn : ∀ k, k < w.heap.size → F k → G k) : PEndWith w G g m lab gm vW vC bs :=
  ⟨⟨hn _ (heap_some h.obj) h.own.1, h.own.2⟩, ⟨hn _ (heap_some h.map) h.ownM.1, h.ownM.2⟩, h.obj, h.map, h.rowW.mono (fun k hk e => ⟨hn k hk e.1, e.2⟩), h.rowC.mono (fun k hk e => ⟨hn k hk e.1, e.2⟩), h.len, h.n,
    fun i hi => (h.stm i hi).mono (fun k hk e => ⟨hn k hk e.1, e.2⟩) (fun k hk e => ⟨hn k hk e.1, e.2⟩), h.zero⟩
/-- what was there -/
def Old (F : Nat → Prop) (n : Nat) : Nat → Prop := fun k => F k ∧ k < n
theorem PEndWith.old {w : World} {F : Nat → Prop} {g : Nat} {m : Mod} {lab : Nat → Nat} {gm : Nat} {vW vC : Value} {bs : List Nat} (h : PEndWith w F g m lab gm vW vC bs) : PEndWith w (Old F w.heap.size) g m lab gm vW vC bs := h.monoF (fun _ hk e => ⟨e, hk⟩)
def SendPost (w : World) (F : Nat → Prop) (g : Nat) (m1 : Mod) (lab : Nat → Nat) (gm : Nat) (vW vC : Value) (bs : List Nat) (v : Value) (e : Ending) (w' : World) : Prop := e = .returned v ∧ PEndWith w' F g m1 lab gm vW vC bs ∧ Chg F w w'
theorem raw_cell (m : Mod) (w : World) (h : m.turn < 4) : (w.alloc (.cells #[.int .i64 m.c.n, .int .i64 m.c.w0, .int .i64 m.c.w1, .int .i64 m.c.w2, .int .i64 m.c.w3, .int .i64 m.c.quantum, .int .i64 m.c.chunk, .int .i64 m.c.window, .int .i64 m.c.queue, .int .i64 m.c.patience] 47)).cell? ⟨w.heap.size, 1 + m.turn, none⟩ = some (.int .i64 (m.c.raw m.turn)) := by
  have : m.turn = 0 ∨ m.turn = 1 ∨ m.turn = 2 ∨ m.turn = 3 := by omega
  rcases this with e | e | e | e <;> rw [e] <;> simp [Cfg.raw]
theorem wrap_small (n : Nat) (h : n ≤ 100000) : wrap64 (n : Int) = n := by unfold wrap64; omega
theorem wrap_small2 (a b : Nat) (h : a + b ≤ 100000) : wrap64 ((a : Int) + (b : Int)) = ((a + b : Nat) : Int) := by unfold wrap64; omega
/-- what holds while a stream that can send is served -/
structure Serve (m : Mod) : Prop where
  live : m.died = 0
  turn : m.turn < m.ss.length
  n4 : m.ss.length ≤ 4
  q : (m.at m.turn).queue ≠ []
  sz : ∀ x ∈ (m.at m.turn).queue, x.size ≤ 1000
  cr : (m.at m.turn).credit ≤ 1000
  df : (m.at m.turn).deficit ≤ 1000
  raw : m.c.raw m.turn = (m.c.weight m.turn : Nat)
  share : 1 ≤ m.share
  sh : m.share ≤ 1000
set_option maxHeartbeats 2000000 in
set_option maxRecDepth 100000 in
/-- send, where the share is given already -/
theorem psend_paid' {w : World} {F : Nat → Prop} {g : Nat} {m : Mod} {lab : Nat → Nat} {gm : Nat} {vW vC : Value} {bs : List Nat} (h : PEndWith w F g m lab gm vW vC bs) (hs : Serve m) (hb : m.begun = false) (hF : ∀ k, F k → k < w.heap.size) :
    Calls Try.prog 85 #[.pointer (some ⟨g, 11, none⟩), .agg (cfgCells m.c), ptrV (bs.getD m.turn 0)] w fun e w' => SendPost w F g m.cutE lab gm vW vC bs (.string m.cutB) e w' := by
  obtain ⟨R, hR⟩ : ∃ R, m.cutE = R := ⟨_, rfl⟩
  obtain ⟨Bv, hBv⟩ : ∃ B, m.cutB = B := ⟨_, rfl⟩
  rw [hR, hBv]
  have HRR := hid hR
  have HBV := hid hBv
  clear hR hBv
  obtain ⟨f, r, hq⟩ : ∃ f r, (m.at m.turn).queue = f :: r := by
    cases hx : (m.at m.turn).queue with
    | nil => exact absurd hx hs.q
    | cons f r => exact ⟨f, r, rfl⟩
  have hst := h.stmAt hs.live hs.turn
  have hti : m.turn < bs.length := by rw [h.len]; exact hs.turn
  obtain ⟨b, hbb⟩ : ∃ b, bs.getD m.turn 0 = b := ⟨_, rfl⟩
  rw [hbb] at hst ⊢
  obtain ⟨_, _, _, _, _, _, _, _, _, _, _, k11, k12, _⟩ := pe_cells h.obj
  have hg : g < w.heap.size := heap_some h.obj
  have hne : ¬ w.heap.size = g := by omega
  rw [hb] at k12
  have hraw := raw_cell m w (by have := hs.turn; have := hs.n4; omega)
  rw [hs.raw] at hraw
  have hmul : (m.c.quantum : Int) * ((m.c.weight m.turn : Nat) : Int) = ((m.share : Nat) : Int) := by unfold Mod.share; simp
  have hsh := hs.sh
  have ht4 : (m.turn : Int) < 4 := by have := hs.turn; have := hs.n4; omega
  have hm0 : 0 ≤ (m.c.quantum : Int) * ((m.c.weight m.turn : Nat) : Int) := by rw [hmul]; omega
  have HW : Hid (∀ o q, PEndWith ((w.alloc o).drewN q) F g m lab gm vW vC bs) := fun o q => h.keeps (G := fun _ => False) ((Chg.alloc w o).drewN q) (fun _ _ => id)
  have HS := hid hs
  have HF := hid hF
  have HQ := hid hq
  have HM := hid hmul
  have HBB := hid hbb
  have HTI := hid hti
  clear h hs hq hst hbb hmul hti hF
  unfold cfgCells
  unfold ptrV
  go_enter Try.func85, Try.ntmps85
  go_wp2
  go_quiet (fail)
  rw [HM.out]
  clear hraw hm0 k11
  go_wp2_with fail
  obtain ⟨W, hW⟩ : ∃ W, (w.alloc (.cells #[.int .i64 m.c.n, .int .i64 m.c.w0, .int .i64 m.c.w1, .int .i64 m.c.w2, .int .i64 m.c.w3, .int .i64 m.c.quantum, .int .i64 m.c.chunk, .int .i64 m.c.window, .int .i64 m.c.queue, .int .i64 m.c.patience] 47)).drewN nq = W := ⟨_, rfl⟩
  have hWP : PEndWith W F g m lab gm vW vC bs := by rw [← hW]; exact HW.out _ _
  have hWC : Chg F w W := by rw [← hW]; exact (Chg.alloc w _).drewN _
  have hbox : W.heap[w.heap.size]? = some (.cells #[.int .i64 m.c.n, .int .i64 m.c.w0, .int .i64 m.c.w1, .int .i64 m.c.w2, .int .i64 m.c.w3, .int .i64 m.c.quantum, .int .i64 m.c.chunk, .int .i64 m.c.window, .int .i64 m.c.queue, .int .i64 m.c.patience] 47 (0, 0)) := by rw [← hW]; exact heap_alloc_new w _
  rw [hW]
  have hst1 := hWP.stmAt HS.out.live HS.out.turn
  rw [HBB.out] at hst1
  refine (pcut_calls hst1 (lab_apart (by omega)) f r HQ.out m.c.chunk (HS.out.sz f (by rw [HQ.out]; exact List.mem_cons_self ..)) HS.out.cr HS.out.df).mono ?_
  rintro e w1 ⟨rfl, hp1, hc1⟩
  have HW1 : Hid (wrap64 ((m.share : Nat) : Int) = (m.share : Nat)) := by
    exact wrap_small _ (by have := HS.out.sh; omega)
  rw [HW1.out]
  have HP1 := hid hp1
  have HC1 := hid hc1
  have hnL : ∀ i, ¬ Lab F lab i w.heap.size := fun i e => absurd (HF.out _ e.1) (by omega)
  have hbox1 := hc1.keeps hbox (hnL _)
  have hcfg1 : ∀ j, w1.cell? ⟨w.heap.size, j, none⟩ = (#[.int .i64 m.c.n, .int .i64 m.c.w0, .int .i64 m.c.w1, .int .i64 m.c.w2, .int .i64 m.c.w3, .int .i64 m.c.quantum, .int .i64 m.c.chunk, .int .i64 m.c.window, .int .i64 m.c.queue, .int .i64 m.c.patience] : Array Value)[j]? := fun j => Lib.cell_of_heap hbox1 j
  have HNL := hid hnL
  have HBOX1 := hid hbox1
  clear hp1 hc1 hst1 hbox hnL hbox1
  go_wp2_with fail
  refine (pover_calls HP1.out m.share).mono ?_
  rintro e w2 ⟨rfl, hp2, hc2⟩
  rw [done_cut] at hp2
  rw [over_cut _ _ m.share]
  have hbox2 := hc2.keeps HBOX1.out (HNL.out _)
  have hch2 := HC1.out.trans' hc2
  have hend := hWP.setStm m.turn HTI.out ((m.at m.turn).cut ((m.at m.turn).cutN m.c.chunk) m.share) HS.out.live hch2 (by rw [HBB.out]; exact hp2) (cut_zero _ _ _)
  have hch : Chg F w w2 := hWC.trans' (hch2.mono (fun _ _ e => e.1))
  have hcut : ((m.at m.turn).queue.headD noB).extract 0 ((m.at m.turn).cutN m.c.chunk) = f.extract 0 ((m.at m.turn).cutN m.c.chunk) := by rw [HQ.out]; rfl
  have HB : Hid (Bv = f.extract 0 ((m.at m.turn).cutN m.c.chunk)) := HBV.out.symm.trans hcut
  have HE : Hid (R = if ((m.at m.turn).cut ((m.at m.turn).cutN m.c.chunk) m.share).over then (m.upd m.turn ((m.at m.turn).cut ((m.at m.turn).cutN m.c.chunk) m.share)).passes else m.upd m.turn ((m.at m.turn).cut ((m.at m.turn).cutN m.c.chunk) m.share)) := HRR.out.symm
  obtain ⟨t, ht⟩ : ∃ t, (m.at m.turn).cut ((m.at m.turn).cutN m.c.chunk) m.share = t := ⟨_, rfl⟩
  rw [ht] at hend HE ⊢
  have HEND := hid hend
  have HCH := hid hch
  have HTL : Hid ((m.upd m.turn t).turn < (m.upd m.turn t).ss.length ∧ (m.upd m.turn t).ss.length ≤ 4) := by
    rw [len_upd]
    exact ⟨HS.out.turn, HS.out.n4⟩
  clear hend hch hcut hp2 hc2 hch2 ht hcfg1
  cases hov : t.over
  · rw [hov] at HE
    have HE2 : Hid (R = m.upd m.turn t) := HE.out
    clear HE
    go_wp2_with fail
    go_ret
    rw [HB.out, HE2.out]
    exact ⟨rfl, HEND.out, HCH.out⟩
  · rw [hov] at HE
    have HE2 : Hid (R = (m.upd m.turn t).passes) := HE.out
    clear HE
    have hcells := Lib.cell_of_heap hbox2
    have HPS := hid (ppass_calls HEND.out HTL.out.1 HTL.out.2)
    unfold cfgCells at HPS
    have hx0 := hcells 0
    have hx1 := hcells 1
    have hx2 := hcells 2
    have hx3 := hcells 3
    have hx4 := hcells 4
    have hx5 := hcells 5
    have hx6 := hcells 6
    have hx7 := hcells 7
    have hx8 := hcells 8
    have hx9 := hcells 9
    clear hcells
    go_wp2_with fail
    refine HPS.out.mono ?_
    rintro e w3 ⟨rfl, hp3, hc3⟩
    have HP3 := hid hp3
    have HC3 := hid hc3
    clear hp3 hc3 hx0 hx1 hx2 hx3 hx4 hx5 hx6 hx7 hx8 hx9
    go_wp2_with fail
    go_ret
    rw [HB.out, HE2.out]
    exact ⟨rfl, HP3.out, HCH.out.trans' (HC3.out.mono (by rintro k _ rfl; exact HEND.out.own.1))⟩
set_option maxHeartbeats 2000000 in
set_option maxRecDepth 100000 in
/-- send, where a turn has just begun -/
theorem psend_begun' {w : World} {F : Nat → Prop} {g : Nat} {m : Mod} {lab : Nat → Nat} {gm : Nat} {vW vC : Value} {bs : List Nat} (h : PEndWith w F g m lab gm vW vC bs) (hs : Serve (begun1 m)) (hb : m.begun = true) (hd : (m.at m.turn).deficit + m.share ≤ 1000) (hF : ∀ k, F k → k < w.heap.size) :
    Calls Try.prog 85 #[.pointer (some ⟨g, 11, none⟩), .agg (cfgCells m.c), ptrV (bs.getD m.turn 0)] w fun e w' => SendPost w F g (begun1 m).cutE lab gm vW vC bs (.string (begun1 m).cutB) e w' := by
  obtain ⟨R, hR⟩ : ∃ R, (begun1 m).cutE = R := ⟨_, rfl⟩
  obtain ⟨Bv, hBv⟩ : ∃ B, (begun1 m).cutB = B := ⟨_, rfl⟩
  rw [hR, hBv]
  have HRR := hid hR
  have HBV := hid hBv
  clear hR hBv
  obtain ⟨f, r, hq⟩ : ∃ f r, ((begun1 m).at m.turn).queue = f :: r := by
    cases hx : ((begun1 m).at m.turn).queue with
    | nil => exact absurd hx hs.q
    | cons f r => exact ⟨f, r, rfl⟩
  have hst := h.stmAt hs.live (show m.turn < m.ss.length by have := hs.turn; rw [show (begun1 m).ss.length = m.ss.length from len_upd _ _ _] at this; exact this)
  have hti : m.turn < bs.length := by have := hs.turn; rw [show (begun1 m).ss.length = m.ss.length from len_upd _ _ _] at this; rw [h.len]; exact this
  have hraw0 : m.c.raw m.turn = (m.c.weight m.turn : Nat) := hs.raw
  have hn4 : m.turn < 4 := by have := hs.turn; have := hs.n4; have e : (begun1 m).turn = m.turn := rfl; omega
  obtain ⟨b, hbb⟩ : ∃ b, bs.getD m.turn 0 = b := ⟨_, rfl⟩
  rw [hbb] at hst ⊢
  obtain ⟨_, _, _, _, _, _, _, _, _, _, _, k11, k12, _⟩ := pe_cells h.obj
  have hg : g < w.heap.size := heap_some h.obj
  have hne : ¬ w.heap.size = g := by omega
  rw [hb] at k12
  have hraw := raw_cell m w hn4
  rw [hraw0] at hraw
  have hmul : (m.c.quantum : Int) * ((m.c.weight m.turn : Nat) : Int) = ((m.share : Nat) : Int) := by unfold Mod.share; simp
  have hsh : m.share ≤ 1000 := hs.sh
  have ht4 : (m.turn : Int) < 4 := by omega
  have hm0 : 0 ≤ (m.c.quantum : Int) * ((m.c.weight m.turn : Nat) : Int) := by rw [hmul]; omega
  have hbg : ¬ b = g := by
    obtain ⟨vq, vw, ws, co, hx⟩ := hst
    rintro rfl
    have := hx.obj
    rw [h.obj] at this
    simp at this
  have hblt : b < w.heap.size := by
    obtain ⟨vq, vw, ws, co, hx⟩ := hst
    exact heap_some hx.obj
  have hneb : ¬ w.heap.size = b := by omega
  obtain ⟨kd, hzb⟩ : w.cell? ⟨b, 2, none⟩ = some (.int .i64 (m.at m.turn).deficit) ∧ (∀ j, w.frozen? ⟨b, j, none⟩ = false) := by
    obtain ⟨vq, vw, ws, co, hx⟩ := hst
    exact ⟨(ps_cells hx.obj).2.2.1, unfrozen hx.obj⟩
  have hz := unfrozen h.obj
  have hw2 : ∀ W, PEndWith W F g m lab gm vW vC bs → PEndWith ((W.setCell ⟨b, 2, none⟩ (.int .i64 (((m.at m.turn).deficit + m.share : Nat) : Int))).setCell ⟨g, 12, none⟩ (.bool true)) F g (begun1 m) lab gm vW vC bs ∧
      Chg F W ((W.setCell ⟨b, 2, none⟩ (.int .i64 (((m.at m.turn).deficit + m.share : Nat) : Int))).setCell ⟨g, 12, none⟩ (.bool true)) := by
    intro W hW
    obtain ⟨vq, vw, ws, co, hx⟩ := hW.stmAt hs.live (show m.turn < m.ss.length by rw [← hW.len]; exact hti)
    rw [hbb] at hx
    have hch : Chg (fun k => k = b) W (W.setCell ⟨b, 2, none⟩ (.int .i64 (((m.at m.turn).deficit + m.share : Nat) : Int))) := Chg.setCell (F := fun k => k = b) W ⟨b, 2, none⟩ _ rfl
    have hw1 : PEndWith (W.setCell ⟨b, 2, none⟩ (.int .i64 (((m.at m.turn).deficit + m.share : Nat) : Int))) F g (m.upd m.turn { m.at m.turn with deficit := (m.at m.turn).deficit + m.share }) lab gm vW vC bs := by
      refine hW.setStm m.turn hti _ hs.live (hch.mono (by rintro k _ rfl; exact hx.own)) ?_ ?_
      · rw [hbb]
        refine ⟨vq, vw, ws, co, hx.set _ vq hch ?_ (row_stm hx.rowQ hx.obj hch) rfl⟩
        simp [World.setCell, Array.getElem?_modify, hx.obj, psCells]
      · intro e
        have e2 : ((begun1 m).at m.turn).queue = (m.at m.turn).queue := by rw [begun1_at (by rw [← h.len]; exact hti)]
        rw [e2] at hq
        rw [hq] at e
        cases e
    refine ⟨?_, (hch.mono (by rintro k _ rfl; exact hx.own.1)).trans' (Chg.setCell (F := F) _ ⟨g, 12, none⟩ _ h.own.1)⟩
    have hch2 : Chg (fun k => k = g) (W.setCell ⟨b, 2, none⟩ (.int .i64 (((m.at m.turn).deficit + m.share : Nat) : Int))) ((W.setCell ⟨b, 2, none⟩ (.int .i64 (((m.at m.turn).deficit + m.share : Nat) : Int))).setCell ⟨g, 12, none⟩ (.bool true)) := Chg.setCell (F := fun k => k = g) _ ⟨g, 12, none⟩ _ rfl
    refine hw1.setObj (begun1 m) hch2 ?_ rfl rfl rfl rfl rfl
    have ho := hw1.obj
    generalize W.setCell ⟨b, 2, none⟩ (.int .i64 (((m.at m.turn).deficit + m.share : Nat) : Int)) = W1 at ho ⊢
    have e1 : peCells (m.upd m.turn { m.at m.turn with deficit := (m.at m.turn).deficit + m.share }) (.map (some gm)) vW vC = peCells m (.map (some gm)) vW vC := rfl
    have e2 : peCells (begun1 m) (.map (some gm)) vW vC = (peCells m (.map (some gm)) vW vC).setIfInBounds 12 (.bool true) := rfl
    rw [e1] at ho
    rw [e2]
    generalize peCells m (.map (some gm)) vW vC = cs at ho ⊢
    simp [World.setCell, Array.getElem?_modify, ho]
  have hadd : wrap64 (((m.at m.turn).deficit : Int) + ((m.share : Nat) : Int)) = (((m.at m.turn).deficit + m.share : Nat) : Int) := wrap_small2 _ _ (by omega)
  have HADD := hid hadd
  have HW2 := hid hw2
  have HW : Hid (∀ o q, PEndWith ((w.alloc o).drewN q) F g m lab gm vW vC bs) := fun o q => h.keeps (G := fun _ => False) ((Chg.alloc w o).drewN q) (fun _ _ => id)
  have HWR : Hid (wrap64 ((m.share : Nat) : Int) = (m.share : Nat)) := wrap_small _ (by omega)
  have HS := hid hs
  have HF := hid hF
  have HQ := hid hq
  have HM := hid hmul
  have HBB := hid hbb
  have HTI := hid hti
  clear h hs hq hst hbb hmul hti hF hw2 hadd hd hraw0
  unfold cfgCells
  unfold ptrV
  go_enter Try.func85, Try.ntmps85
  go_wp2
  go_quiet (fail)
  rw [HM.out, HWR.out]
  clear hraw hm0 k11
  go_wp2_with fail
  rw [HADD.out]
  obtain ⟨W0, hW0⟩ : ∃ W, (w.alloc (.cells #[.int .i64 m.c.n, .int .i64 m.c.w0, .int .i64 m.c.w1, .int .i64 m.c.w2, .int .i64 m.c.w3, .int .i64 m.c.quantum, .int .i64 m.c.chunk, .int .i64 m.c.window, .int .i64 m.c.queue, .int .i64 m.c.patience] 47)).drewN nq = W := ⟨_, rfl⟩
  have hWP0 : PEndWith W0 F g m lab gm vW vC bs := by rw [← hW0]; exact HW.out _ _
  have hWC0 : Chg F w W0 := by rw [← hW0]; exact (Chg.alloc w _).drewN _
  have hbox0 : W0.heap[w.heap.size]? = some (.cells #[.int .i64 m.c.n, .int .i64 m.c.w0, .int .i64 m.c.w1, .int .i64 m.c.w2, .int .i64 m.c.w3, .int .i64 m.c.quantum, .int .i64 m.c.chunk, .int .i64 m.c.window, .int .i64 m.c.queue, .int .i64 m.c.patience] 47 (0, 0)) := by rw [← hW0]; exact heap_alloc_new w _
  rw [hW0]
  obtain ⟨hWP, hWc⟩ := HW2.out W0 hWP0
  have hWC := hWC0.trans' hWc
  have hbox := hWc.keeps hbox0 (fun e => absurd (HF.out _ e) (by omega))
  generalize (W0.setCell ⟨b, 2, none⟩ (.int .i64 (((m.at m.turn).deficit + m.share : Nat) : Int))).setCell ⟨g, 12, none⟩ (.bool true) = W at *
  clear hWP0 hWC0 hbox0 hWc kd hzb hz
  have hst1 : PStm W (Lab F lab (2 * m.turn + 3)) (Lab F lab (2 * m.turn + 4)) (bs.getD m.turn 0) ((begun1 m).at m.turn) := hWP.stmAt HS.out.live HS.out.turn
  rw [HBB.out] at hst1
  refine (pcut_calls hst1 (lab_apart (by omega)) f r HQ.out m.c.chunk (HS.out.sz f (by show f ∈ ((begun1 m).at m.turn).queue; rw [HQ.out]; exact List.mem_cons_self ..)) HS.out.cr HS.out.df).mono ?_
  rintro e w1 ⟨rfl, hp1, hc1⟩
  have HP1 := hid hp1
  have HC1 := hid hc1
  have hnL : ∀ i, ¬ Lab F lab i w.heap.size := fun i e => absurd (HF.out _ e.1) (by omega)
  have hbox1 := hc1.keeps hbox (hnL _)
  have hcfg1 : ∀ j, w1.cell? ⟨w.heap.size, j, none⟩ = (#[.int .i64 m.c.n, .int .i64 m.c.w0, .int .i64 m.c.w1, .int .i64 m.c.w2, .int .i64 m.c.w3, .int .i64 m.c.quantum, .int .i64 m.c.chunk, .int .i64 m.c.window, .int .i64 m.c.queue, .int .i64 m.c.patience] : Array Value)[j]? := fun j => Lib.cell_of_heap hbox1 j
  have HNL := hid hnL
  have HBOX1 := hid hbox1
  clear hp1 hc1 hst1 hbox hnL hbox1
  go_wp2_with fail
  refine (pover_calls HP1.out m.share).mono ?_
  rintro e w2 ⟨rfl, hp2, hc2⟩
  rw [done_cut] at hp2
  rw [over_cut _ _ m.share]
  have hbox2 := hc2.keeps HBOX1.out (HNL.out _)
  have hch2 := HC1.out.trans' hc2
  have hend := hWP.setStm m.turn HTI.out (((begun1 m).at m.turn).cut (((begun1 m).at m.turn).cutN m.c.chunk) m.share) HS.out.live hch2 (by rw [HBB.out]; exact hp2) (cut_zero _ _ _)
  have hch : Chg F w w2 := hWC.trans' (hch2.mono (fun _ _ e => e.1))
  have hcut : (((begun1 m).at m.turn).queue.headD noB).extract 0 (((begun1 m).at m.turn).cutN m.c.chunk) = f.extract 0 (((begun1 m).at m.turn).cutN m.c.chunk) := by rw [HQ.out]; rfl
  have HB : Hid (Bv = f.extract 0 (((begun1 m).at m.turn).cutN m.c.chunk)) := HBV.out.symm.trans hcut
  have HE : Hid (R = if (((begun1 m).at m.turn).cut (((begun1 m).at m.turn).cutN m.c.chunk) m.share).over then ((begun1 m).upd m.turn (((begun1 m).at m.turn).cut (((begun1 m).at m.turn).cutN m.c.chunk) m.share)).passes else (begun1 m).upd m.turn (((begun1 m).at m.turn).cut (((begun1 m).at m.turn).cutN m.c.chunk) m.share)) := HRR.out.symm
  obtain ⟨t, ht⟩ : ∃ t, ((begun1 m).at m.turn).cut (((begun1 m).at m.turn).cutN m.c.chunk) m.share = t := ⟨_, rfl⟩
  rw [ht] at hend HE ⊢
  have HEND := hid hend
  have HCH := hid hch
  have HTL : Hid (((begun1 m).upd m.turn t).turn < ((begun1 m).upd m.turn t).ss.length ∧ ((begun1 m).upd m.turn t).ss.length ≤ 4) := by
    rw [len_upd]
    exact ⟨HS.out.turn, HS.out.n4⟩
  clear hend hch hcut hp2 hc2 hch2 ht hcfg1
  cases hov : t.over
  · rw [hov] at HE
    have HE2 : Hid (R = (begun1 m).upd m.turn t) := HE.out
    clear HE
    go_wp2_with fail
    go_ret
    rw [HB.out, HE2.out]
    exact ⟨rfl, HEND.out, HCH.out⟩
  · rw [hov] at HE
    have HE2 : Hid (R = ((begun1 m).upd m.turn t).passes) := HE.out
    clear HE
    have hcells := Lib.cell_of_heap hbox2
    have HPS := hid (ppass_calls HEND.out HTL.out.1 HTL.out.2)
    unfold cfgCells at HPS
    have hx0 := hcells 0
    have hx1 := hcells 1
    have hx2 := hcells 2
    have hx3 := hcells 3
    have hx4 := hcells 4
    have hx5 := hcells 5
    have hx6 := hcells 6
    have hx7 := hcells 7
    have hx8 := hcells 8
    have hx9 := hcells 9
    clear hcells
    go_wp2_with fail
    refine HPS.out.mono ?_
    rintro e w3 ⟨rfl, hp3, hc3⟩
    have HP3 := hid hp3
    have HC3 := hid hc3
    clear hp3 hc3 hx0 hx1 hx2 hx3 hx4 hx5 hx6 hx7 hx8 hx9
    go_wp2_with fail
    go_ret
    rw [HB.out, HE2.out]
    exact ⟨rfl, HP3.out, HCH.out.trans' (HC3.out.mono (by rintro k _ rfl; exact HEND.out.own.1))⟩
end Go.Proofs.Ytnclmbolfpojoaa
