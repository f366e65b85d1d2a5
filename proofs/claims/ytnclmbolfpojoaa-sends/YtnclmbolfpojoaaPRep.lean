/-
  The program's end in memory: how what is kept lies there; the small functions of a stream.
-/
import Derived.Test.YtnclmbolfpojoaaGen
import Derived.WalkKit
import Derived.WalkSpells
import Derived.BigRegion
import Derived.BigQuiet
import Derived.Deep.QuietTactic
import Derived.OwnWalk
import Derived.Deep.RegionHeld
import Derived.MapKept
namespace Go.Proofs.Ytnclmbolfpojoaa
open Go.RowKit
/-- the bytes of a message that is coming: it is none that is wrong, and none that is whole -/
def coOk (L : List UInt8) : Prop := sizeE L = 0 ∧ (sizeV L = 0 ∨ L.length < sizeV L)
/-- what came on a stream, as the program keeps it: messages that are whole, and the one that is coming -/
structure Came (came : ByteArray) (ws : List ByteArray) (co : ByteArray) : Prop where
  all : came.data.toList = (ws.flatMap fun b => b.data.toList) ++ co.data.toList
  whole : ∀ x ∈ ws, ∃ ps, properB ps = true ∧ packL ps = x.data.toList
  co : coOk co.data.toList
theorem Came.no : Came noB [] noB := ⟨rfl, by simp, rfl, .inl rfl⟩
/-- what is kept of the message that is coming: its bytes, and how long it has stood still -/
structure Co where
  b : ByteArray
  still : Nat
def psCells (vq _vw : Value) (_co : Co) (s : Stm) : Array Value :=
  #[.int .i64 s.credit, .int .i64 s.owed, .int .i64 s.deficit, .bool s.noSend, .bool s.noRecv, vq]
structure PStmWith (w : World) (F G : Nat → Prop) (b : Nat) (s : Stm) (vq vw : Value) (ws : List ByteArray) (co : Co) : Prop where
  own : F b
  obj : w.heap[b]? = some (.cells (psCells vq vw co s) 100 (0, 0))
  rowQ : QRow w F 9 vq (s.queue.map Value.string)
  rowW : QRow w G 9 vw (ws.map Value.string)
  came : Came s.came ws co.b
def PStm (w : World) (F G : Nat → Prop) (b : Nat) (s : Stm) : Prop := ∃ vq vw ws co, PStmWith w F G b s vq vw ws co
theorem PStmWith.keeps {w w1 : World} {F G H : Nat → Prop} {b : Nat} {s : Stm} {vq vw : Value} {ws : List ByteArray} {co : Co} (h : PStmWith w F G b s vq vw ws co) (hc : Chg H w w1) (hn : ∀ k, F k → ¬ H k) (hg : ∀ k, G k → ¬ H k) : PStmWith w1 F G b s vq vw ws co :=
  ⟨h.own, hc.keeps h.obj (hn _ h.own), h.rowQ.keeps hc (fun k _ _ hk _ => hn k hk), h.rowW.keeps hc (fun k _ _ hk _ => hg k hk), h.came⟩
theorem PStm.keeps {w w1 : World} {F G H : Nat → Prop} {b : Nat} {s : Stm} (h : PStm w F G b s) (hc : Chg H w w1) (hn : ∀ k, F k → ¬ H k) (hg : ∀ k, G k → ¬ H k) : PStm w1 F G b s := by
  obtain ⟨vq, vw, ws, co, h⟩ := h
  exact ⟨vq, vw, ws, co, h.keeps hc hn hg⟩
theorem PStm.mono {w : World} {F G F' G' : Nat → Prop} {b : Nat} {s : Stm} (h : PStm w F G b s) (hn : ∀ k, k < w.heap.size → F k → F' k) (hg : ∀ k, k < w.heap.size → G k → G' k) : PStm w F' G' b s := by
  obtain ⟨vq, vw, ws, co, h⟩ := h
  exact ⟨vq, vw, ws, co, hn _ (heap_some h.obj) h.own, h.obj, h.rowQ.mono hn, h.rowW.mono hg, h.came⟩
/-- the entries of the map of streams -/
def ents : List Nat → Nat → List MapEntry
  | [], _ => []
  | b :: r, k => ⟨.int .i64 k, ptrV b, k⟩ :: ents r (k + 1)
theorem ents_snoc (bs : List Nat) (b : Nat) : ∀ k, ents (bs ++ [b]) k = ents bs k ++ [⟨.int .i64 ((k + bs.length : Nat) : Int), ptrV b, k + bs.length⟩] := by
  induction bs with
  | nil => intro k; rfl
  | cons a r ih =>
    intro k
    simp only [List.cons_append, ents, ih, List.length_cons]
    rw [show k + 1 + r.length = k + (r.length + 1) by omega]
theorem ents_find (bs : List Nat) (j : Int) : ∀ (k i : Nat), Instr.findNow (.int .i64) (.int .i64 j) (ents bs k) i = some (if (k : Int) ≤ j ∧ j < k + bs.length then some (i + (j - k).toNat, ptrV (bs.getD (j - k).toNat 0)) else none) := by
  induction bs with
  | nil =>
    intro k i
    rw [if_neg (by simp only [List.length_nil]; omega)]
    rfl
  | cons b r ih =>
    intro k i
    simp only [ents, Instr.findNow, Instr.sameNow, if_true]
    by_cases e : j = k
    · subst e
      rw [show ((k : Int) == (k : Int)) = true by simp]
      simp only
      rw [if_pos (by simp only [List.length_cons]; omega)]
      simp
    · rw [show (j == (k : Int)) = false by rw [beq_eq_false_iff_ne]; exact e]
      simp only
      rw [ih (k + 1) (i + 1)]
      by_cases h : (k : Int) ≤ j ∧ j < k + (b :: r).length
      · rw [if_pos h, if_pos (by simp only [List.length_cons] at h; omega)]
        have e1 : (j - k).toNat = (j - ((k + 1 : Nat) : Int)).toNat + 1 := by omega
        rw [e1, List.getD_cons_succ, show i + 1 + (j - ((k + 1 : Nat) : Int)).toNat = i + ((j - ((k + 1 : Nat) : Int)).toNat + 1) by omega]
      · rw [if_neg h, if_neg (by simp only [List.length_cons] at h; omega)]
def peCells (m : Mod) (vM vW _vC : Value) : Array Value :=
  #[.int .i64 m.c.n, .int .i64 m.c.w0, .int .i64 m.c.w1, .int .i64 m.c.w2, .int .i64 m.c.w3, .int .i64 m.c.quantum, .int .i64 m.c.chunk, .int .i64 m.c.window, .int .i64 m.c.queue, .int .i64 m.c.patience,
    vM, .int .i64 m.turn, .bool (!m.begun), .string m.now, vW, .int .i64 m.died]
structure PEndWith (w : World) (F : Nat → Prop) (g : Nat) (m : Mod) (lab : Nat → Nat) (gm : Nat) (vW vC : Value) (bs : List Nat) : Prop where
  own : Lab F lab 0 g
  ownM : Lab F lab 0 gm
  obj : w.heap[g]? = some (.cells (peCells m (.map (some gm)) vW vC) 72 (0, 0))
  map : w.heap[gm]? = some (.map (ents bs 0).toArray bs.length)
  rowW : QRow w (Lab F lab 1) 9 vW (m.control.map Value.string)
  rowC : QRow w (Lab F lab 2) 5 vC (m.inn.data.toList.map fun b => .int .u8 b.toNat)
  len : bs.length = m.ss.length
  n : m.c.n = m.ss.length
  stm : ∀ i, i < bs.length → PStm w (Lab F lab (2 * i + 3)) (Lab F lab (2 * i + 4)) (bs.getD i 0) (m.flow i)
  zero : m.died = 0 → ∀ i, i < bs.length → (m.at i).queue = [] → (m.at i).deficit = 0
def PEnd (w : World) (F : Nat → Prop) (g : Nat) (m : Mod) : Prop := ∃ lab gm vW vC bs, PEndWith w F g m lab gm vW vC bs
theorem PEndWith.keeps {w w1 : World} {F G : Nat → Prop} {g : Nat} {m : Mod} {lab : Nat → Nat} {gm : Nat} {vW vC : Value} {bs : List Nat} (h : PEndWith w F g m lab gm vW vC bs) (hc : Chg G w w1) (hn : ∀ k, F k → ¬ G k) : PEndWith w1 F g m lab gm vW vC bs :=
  ⟨h.own, h.ownM, hc.keeps h.obj (hn _ h.own.1), hc.keeps h.map (hn _ h.ownM.1), h.rowW.keeps hc (fun k _ _ hk _ => hn k hk.1), h.rowC.keeps hc (fun k _ _ hk _ => hn k hk.1), h.len, h.n, fun i hi => (h.stm i hi).keeps hc (fun k hk => hn k hk.1) (fun k hk => hn k hk.1), h.zero⟩
theorem PEnd.keeps {w w1 : World} {F G : Nat → Prop} {g : Nat} {m : Mod} (h : PEnd w F g m) (hc : Chg G w w1) (hn : ∀ k, F k → ¬ G k) : PEnd w1 F g m := by
  obtain ⟨lab, gm, vW, vC, bs, h⟩ := h
  exact ⟨lab, gm, vW, vC, bs, h.keeps hc hn⟩
theorem PEnd.mono {w : World} {F G : Nat → Prop} {g : Nat} {m : Mod} (h : PEnd w F g m) (hn : ∀ k, k < w.heap.size → F k → G k) : PEnd w G g m := by
  obtain ⟨lab, gm, vW, vC, bs, h⟩ := h
  exact ⟨lab, gm, vW, vC, bs, ⟨hn _ (heap_some h.obj) h.own.1, h.own.2⟩, ⟨hn _ (heap_some h.map) h.ownM.1, h.ownM.2⟩, h.obj, h.map, h.rowW.mono (fun k hk e => ⟨hn k hk e.1, e.2⟩), h.rowC.mono (fun k hk e => ⟨hn k hk e.1, e.2⟩), h.len, h.n,
    fun i hi => (h.stm i hi).mono (fun k hk e => ⟨hn k hk e.1, e.2⟩) (fun k hk e => ⟨hn k hk e.1, e.2⟩), h.zero⟩
theorem ps_cells {w : World} {b : Nat} {vq vw : Value} {co : Co} {s : Stm} (h : w.heap[b]? = some (.cells (psCells vq vw co s) 100 (0, 0))) :
    w.cell? ⟨b, 0, none⟩ = some (.int .i64 s.credit) ∧ w.cell? ⟨b, 1, none⟩ = some (.int .i64 s.owed) ∧ w.cell? ⟨b, 2, none⟩ = some (.int .i64 s.deficit) ∧ w.cell? ⟨b, 3, none⟩ = some (.bool s.noSend) ∧ w.cell? ⟨b, 4, none⟩ = some (.bool s.noRecv) ∧
    w.cell? ⟨b, 5, none⟩ = some vq ∧ True := by
  have c := Lib.cell_of_heap h
  exact ⟨c 0, c 1, c 2, c 3, c 4, c 5, trivial⟩
theorem pe_cells {w : World} {g : Nat} {m : Mod} {vM vW vC : Value} (h : w.heap[g]? = some (.cells (peCells m vM vW vC) 72 (0, 0))) :
    w.cell? ⟨g, 0, none⟩ = some (.int .i64 m.c.n) ∧ w.cell? ⟨g, 1, none⟩ = some (.int .i64 m.c.w0) ∧ w.cell? ⟨g, 2, none⟩ = some (.int .i64 m.c.w1) ∧ w.cell? ⟨g, 3, none⟩ = some (.int .i64 m.c.w2) ∧ w.cell? ⟨g, 4, none⟩ = some (.int .i64 m.c.w3) ∧
    w.cell? ⟨g, 5, none⟩ = some (.int .i64 m.c.quantum) ∧ w.cell? ⟨g, 6, none⟩ = some (.int .i64 m.c.chunk) ∧ w.cell? ⟨g, 7, none⟩ = some (.int .i64 m.c.window) ∧ w.cell? ⟨g, 8, none⟩ = some (.int .i64 m.c.queue) ∧ w.cell? ⟨g, 9, none⟩ = some (.int .i64 m.c.patience) ∧
    w.cell? ⟨g, 10, none⟩ = some vM ∧ w.cell? ⟨g, 11, none⟩ = some (.int .i64 m.turn) ∧ w.cell? ⟨g, 12, none⟩ = some (.bool (!m.begun)) ∧ w.cell? ⟨g, 13, none⟩ = some (.string m.now) ∧ w.cell? ⟨g, 14, none⟩ = some vW ∧ True ∧ w.cell? ⟨g, 15, none⟩ = some (.int .i64 m.died) := by
  have c := Lib.cell_of_heap h
  exact ⟨c 0, c 1, c 2, c 3, c 4, c 5, c 6, c 7, c 8, c 9, c 10, c 11, c 12, c 13, c 14, trivial, c 15⟩
/-- a look into the map of streams -/
theorem run_lookup_stm {w : World} {gm : Nat} {bs : List Nat} {k : Nat} (h : w.heap[gm]? = some (.map (ents bs 0).toArray k)) (j : Int) (co : Bool) :
    (Instr.lookup 66 (.map (some gm)) (.int .i64 j) co).run Try.prog w =
      .ok (if co then .tuple #[if 0 ≤ j ∧ j < bs.length then ptrV (bs.getD j.toNat 0) else .pointer none, .bool (decide (0 ≤ j ∧ j < bs.length))] else if 0 ≤ j ∧ j < bs.length then ptrV (bs.getD j.toNat 0) else .pointer none) w := by
  have hk : Try.prog.underlying 3 = some (.int .i64) := Try.underlying3
  have hm : Try.prog.underlying 66 = some (.map 3 73) := Try.underlying66
  have hf := ents_find bs j 0 0
  have hc : ∀ e, (Instr.checkKey e 10000 3 (.int .i64 j)).run Try.prog w = .ok () w := fun e => MapKept.run_checkKey (k := .int .i64 j) hk (by simp [MapKept.IsKey]) e 9999
  have hz := Try.zeroValue73
  by_cases hj : 0 ≤ j ∧ j < bs.length
  · rw [if_pos (by omega)] at hf
    rw [show (j - ((0 : Nat) : Int)).toNat = j.toNat by omega, Nat.zero_add] at hf
    have hfk := MapKept.run_findKey (w := w) hk hf
    cases co <;> simp [Instr.lookup, run_underlying hm, MapKept.run_getObj_map h, hc, hfk, Result.andThen, hj]
  · rw [if_neg (by omega)] at hf
    have hfk := MapKept.run_findKey (w := w) hk hf
    cases co <;> simp [Instr.lookup, run_underlying hm, MapKept.run_getObj_map h, hc, hfk, Result.andThen, hj, hz]
/-- a stream is laid into the map -/
theorem run_mapUpdate_stm {w : World} {gm : Nat} {bs : List Nat} (h : w.heap[gm]? = some (.map (ents bs 0).toArray bs.length)) (b : Nat) :
    (Instr.mapUpdate 66 (.map (some gm)) (.int .i64 bs.length) (ptrV b)).run Try.prog w =
      .ok () { w with heap := w.heap.setIfInBounds gm (.map (ents (bs ++ [b]) 0).toArray (bs ++ [b]).length) } := by
  have hk : Try.prog.underlying 3 = some (.int .i64) := Try.underlying3
  have hm : Try.prog.underlying 66 = some (.map 3 73) := Try.underlying66
  have hf := ents_find bs bs.length 0 0
  rw [if_neg (by omega)] at hf
  have hfk := MapKept.run_findKey (w := w) hk hf
  have hc : (Instr.checkKey false 10000 3 (.int .i64 bs.length)).run Try.prog w = .ok () w := MapKept.run_checkKey (k := .int .i64 bs.length) hk (by simp [MapKept.IsKey]) false 9999
  have he : (ents (bs ++ [b]) 0).toArray = (ents bs 0).toArray.push ⟨.int .i64 bs.length, ptrV b, bs.length⟩ := by
    rw [ents_snoc]
    simp
  rw [he, List.length_append, List.length_singleton]
  simp [Instr.mapUpdate, run_underlying hm, MapKept.run_getObj_map h, hc, hfk, MapKept.run_setObj_map _ h, Result.andThen]
/-- Idle -/
theorem pidle_calls {w : World} {F G : Nat → Prop} {b : Nat} {s : Stm} (h : PStm w F G b s) : Calls Try.prog 104 #[ptrV b] w fun e w' => e = .returned (.bool (s.queue.isEmpty)) ∧ w' = w := by
  obtain ⟨vq, vw, ws, co, h⟩ := h
  obtain ⟨a, c, rfl⟩ := h.rowQ.slice
  have c5 := (ps_cells h.obj).2.2.2.2.2.1
  rw [List.length_map] at c5
  have HE : Hid (((s.queue.length : Int) == 0) = s.queue.isEmpty) := by
    show _ = _
    cases s.queue with
    | nil => rfl
    | cons x r => simp; omega
  clear h
  unfold ptrV
  go_enter Try.func104, Try.ntmps104
  go_wp2
  go_ret
  exact ⟨ret_bool HE.out, rfl⟩
/-- CanSend -/
theorem pcan_calls {w : World} {F G : Nat → Prop} {b : Nat} {s : Stm} (h : PStm w F G b s) : Calls Try.prog 84 #[ptrV b] w fun e w' => e = .returned (.bool (!s.stuck)) ∧ w' = w := by
  have H : Hid (PStm w F G b s) := h
  obtain ⟨vq, vw, ws, co, h⟩ := h
  have c0 := (ps_cells h.obj).1
  have HS : Hid ((!s.stuck) = (!s.queue.isEmpty && decide (0 < (s.credit : Int)))) := by
    show _ = _
    unfold Stm.stuck
    cases s.queue.isEmpty
    · simp only [Bool.false_or, Bool.not_false, Bool.true_and]
      by_cases e : s.credit = 0
      · rw [e]; rfl
      · rw [show (s.credit == 0) = false by rw [beq_eq_false_iff_ne]; exact e, decide_eq_true (by omega)]
        rfl
    · rfl
  clear h
  obtain ⟨q, hq⟩ : ∃ q, s.queue.isEmpty = q := ⟨_, rfl⟩
  rw [HS.out, hq]
  have HC : Hid (Calls Try.prog 104 #[ptrV b] w fun e w' => e = .returned (.bool q) ∧ w' = w) := by rw [← hq]; exact pidle_calls H.out
  unfold ptrV at HC ⊢
  cases q
  · go_enter Try.func84, Try.ntmps84
    go_wp2_with fail
    refine HC.out.mono ?_
    rintro e w1 ⟨rfl, hw⟩
    replace hw := hw.symm
    subst hw
    go_wp2_with fail
    all_goals go_ret
    all_goals exact ⟨ret_bool (by first | (simp_all; done) | (simp_all; omega)), rfl⟩
  · go_enter Try.func84, Try.ntmps84
    go_wp2_with fail
    refine HC.out.mono ?_
    rintro e w1 ⟨rfl, hw⟩
    replace hw := hw.symm
    subst hw
    go_wp2_with fail
    go_ret
    exact ⟨ret_bool rfl, rfl⟩
set_option maxHeartbeats 2000000 in
set_option maxRecDepth 100000 in
/-- Queued -/
theorem pqueued1_calls {w : World} {F G : Nat → Prop} {b : Nat} {s : Stm} (h : PStm w F G b s) (hl : s.left ≤ 1000000) : Calls Try.prog 83 #[ptrV b] w fun e w' => e = .returned (.int .i64 s.left) ∧ w' = w := by
  obtain ⟨vq, vw, ws, co, h⟩ := h
  have c5 := (ps_cells h.obj).2.2.2.2.2.1
  have hmax := h.rowQ.len
  have HQ := hid h.rowQ
  obtain ⟨a, c, rfl⟩ := h.rowQ.slice
  obtain ⟨q, hq⟩ : ∃ q, s.queue = q := ⟨_, rfl⟩
  have hs : s.left = sizes q := by unfold Stm.left; rw [hq]
  rw [hq] at hmax HQ c5
  rw [hs] at hl ⊢
  rw [List.length_map] at hmax HQ c5
  unfold maxLen at hmax
  clear h hs
  unfold ptrV
  go_enter Try.func83, Try.ntmps83
  go_wp2
  go_loopw [3, 5, 11] (fun n _ j wr => ∃ i : Nat, i ≤ q.length ∧ j = .int .i64 i ∧ n = .int .i64 (sizes (q.take i) : Nat) ∧ wr = w) (fun _ _ j _ => q.length - (intOf j).toNat)
  case atStart => exact ⟨0, Nat.zero_le _, rfl, int_val (by simp [sizes]), rfl⟩
  case round =>
    obtain ⟨i, hi, rfl, rfl, hw⟩ := hrel
    replace hw := hw.symm
    subst hw
    have hs1 := sizes_take_le q i
    by_cases hlt : i < q.length
    · obtain ⟨g, off, cap, e, hF, hg, hcap, hcm, _, hc⟩ := HQ.out.at (by rw [List.length_map]; omega)
      injection e with e1 e2 e3
      subst e1 e3
      have hci := hc i _ (map_get Value.string q i noB hlt)
      have hsn := sizes_take_succ q i hlt
      have hgl := getD_le hlt
      obtain ⟨x, hx⟩ : ∃ x, q.getD i noB = x := ⟨_, rfl⟩
      rw [hx] at hsn hgl hci
      have HSN : Hid (sizes (q.take (i + 1)) = sizes (q.take i) + x.size) := hsn
      clear hc hsn hx hcap hcm hg hF e2
      go_wp2
      go_roundw
      case rel => exact ⟨i + 1, by omega, by go_num, int_val (by rw [HSN.out]; omega), trivial⟩
      case measure => simp [intOf]; omega
    · go_wp2
      go_ret
      have : q.take i = q := List.take_of_length_le (by omega)
      exact ⟨ret_int (by rw [this]), rfl⟩
end Go.Proofs.Ytnclmbolfpojoaa
