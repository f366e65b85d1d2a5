/-
  What may turn in memory (a set of blocks and what is new), and rows that are cut at their head and appended to at their end.
-/
import Derived.Test.YtnclmbolfpojoaaProg
import Derived.WalkKit
import Derived.WalkSpells
import Derived.OwnWalk
import Derived.Lib.Builder
import Derived.ArgAppend
import Derived.Deep.Draws
namespace Go.Proofs.Ytnclmbolfpojoaa
open Go.RowKit
/-- nothing of what was there has turned but blocks of F -/
structure Chg (F : Nat → Prop) (w w' : World) : Prop where
  os : w'.os = w.os
  tape : w'.tape = w.tape
  output : w'.output = w.output
  size : w.heap.size ≤ w'.heap.size
  block : ∀ k, k < w.heap.size → ¬ F k → w'.heap[k]? = w.heap[k]?
/-- F, and what is new -/
def Up (F : Nat → Prop) (n : Nat) : Nat → Prop := fun k => F k ∨ n ≤ k
theorem Chg.refl (F : Nat → Prop) (w : World) : Chg F w w := ⟨rfl, rfl, rfl, Nat.le_refl _, fun _ _ _ => rfl⟩
theorem Chg.trans {F : Nat → Prop} {w w1 w2 : World} (h : Chg F w w1) (k : Chg (Up F w.heap.size) w1 w2) : Chg F w w2 :=
  ⟨k.os.trans h.os, k.tape.trans h.tape, k.output.trans h.output, Nat.le_trans h.size k.size, fun i hi hF =>
    (k.block i (Nat.lt_of_lt_of_le hi h.size) (fun e => e.elim hF (fun e => absurd hi (Nat.not_lt.2 e)))).trans (h.block i hi hF)⟩
theorem Chg.mono {F G : Nat → Prop} {w w1 : World} (h : Chg F w w1) (hFG : ∀ k, k < w.heap.size → F k → G k) : Chg G w w1 :=
  ⟨h.os, h.tape, h.output, h.size, fun i hi hG => h.block i hi (fun e => hG (hFG i hi e))⟩
theorem Chg.trans' {F : Nat → Prop} {w w1 w2 : World} (h : Chg F w w1) (k : Chg F w1 w2) : Chg F w w2 := h.trans (k.mono fun _ _ e => .inl e)
theorem Chg.of_below {F : Nat → Prop} {w w1 : World} (h : Below w.heap.size w w1) : Chg F w w1 := ⟨h.os, h.tape, h.output, h.size, fun i hi _ => h.block i hi⟩
theorem Chg.below {F : Nat → Prop} {B : Nat} {w w1 : World} (h : Chg F w w1) (hB : B ≤ w.heap.size) (hF : ∀ k, F k → B ≤ k) : Below B w w1 :=
  ⟨h.os, h.tape, h.output, h.size, fun i hi => h.block i (Nat.lt_of_lt_of_le hi hB) (fun e => absurd hi (Nat.not_lt.2 (hF i e)))⟩
theorem Chg.below0 {w w1 : World} (h : Chg (fun _ => False) w w1) : Below w.heap.size w w1 := ⟨h.os, h.tape, h.output, h.size, fun i hi => h.block i hi id⟩
theorem Chg.setCell {F : Nat → Prop} (w : World) (a : Addr) (v : Value) (h : F a.block) : Chg F w (w.setCell a v) :=
  ⟨rfl, rfl, rfl, by simp [World.setCell], fun k _ hk => Below.heap_setCell _ _ _ _ (fun e => hk (by rw [e]; exact h))⟩
theorem Chg.drewN {F : Nat → Prop} {w w1 : World} (h : Chg F w w1) (n : Nat) : Chg F w (w1.drewN n) := ⟨h.os, h.tape, h.output, h.size, h.block⟩
theorem Chg.drew {F : Nat → Prop} {w w1 : World} (h : Chg F w w1) : Chg F w w1.drew := ⟨h.os, h.tape, h.output, h.size, h.block⟩
theorem Chg.alloc {F : Nat → Prop} (w : World) (o : Obj) : Chg F w (w.alloc o) := .of_below ((Below.refl _ _).alloc (Nat.le_refl _) _)
theorem Chg.grown {F : Nat → Prop} {w w1 : World} {row : Option Nat} (h : w.grownBy w1 row) (hF : ∀ k, row = some k → F k) : Chg F w w1 :=
  ⟨h.os, h.tape, h.output, h.size, fun k hk hn => h.block k hk (fun e => hn (hF k e.symm))⟩
theorem Up.le {F : Nat → Prop} {n m : Nat} (h : n ≤ m) {k : Nat} (e : Up (Up F n) m k) : Up F n k := e.elim id (fun e => .inr (Nat.le_trans h e))
theorem heap_some {w : World} {b : Nat} {o : Obj} (h : w.heap[b]? = some o) : b < w.heap.size := (Array.getElem?_eq_some_iff.1 h).1
theorem Chg.keeps {F : Nat → Prop} {w w1 : World} (h : Chg F w w1) {b : Nat} {o : Obj} (hb : w.heap[b]? = some o) (hn : ¬ F b) : w1.heap[b]? = some o := (h.block b (heap_some hb) hn).trans hb
/-- a row whose elements are of one cell: it may have been cut at its head -/
def QRow (w : World) (F : Nat → Prop) (e : TypeId) (v : Value) (xs : List Value) : Prop :=
  (v = .slice none 0 0 ∧ xs = []) ∨
  ∃ g off cap cur, v = .slice (some ⟨g, off, none⟩) xs.length cap ∧ F g ∧ w.heap[g]? = some (.cells cur e (0, 0)) ∧ xs.length ≤ cap ∧ cap ≤ maxLen ∧ off + cap ≤ cur.size ∧ ∀ j, j < xs.length → cur[off + j]? = xs[j]?
theorem QRow.nil (w : World) (F : Nat → Prop) (e : TypeId) : QRow w F e (.slice none 0 0) [] := .inl ⟨rfl, rfl⟩
theorem QRow.mono {w : World} {F G : Nat → Prop} {e : TypeId} {v : Value} {xs : List Value} (h : QRow w F e v xs) (hFG : ∀ k, k < w.heap.size → F k → G k) : QRow w G e v xs :=
  h.imp id fun ⟨g, off, cap, cur, h1, h2, h3, h4⟩ => ⟨g, off, cap, cur, h1, hFG g (heap_some h3) h2, h3, h4⟩
/-- a row is as it was, where its block is -/
theorem QRow.keeps {w w1 : World} {F G : Nat → Prop} {e : TypeId} {v : Value} {xs : List Value} (h : QRow w F e v xs) (hc : Chg G w w1)
    (hn : ∀ k cur fz, F k → w.heap[k]? = some (.cells cur e fz) → ¬ G k) : QRow w1 F e v xs :=
  h.imp id fun ⟨g, off, cap, cur, h1, h2, h3, h4⟩ => ⟨g, off, cap, cur, h1, h2, hc.keeps h3 (hn g cur _ h2 h3), h4⟩
theorem QRow.slice {w : World} {F : Nat → Prop} {e : TypeId} {v : Value} {xs : List Value} (h : QRow w F e v xs) : ∃ a c, v = .slice a xs.length c := by
  rcases h with ⟨rfl, rfl⟩ | ⟨g, off, cap, cur, rfl, _⟩
  · exact ⟨none, 0, rfl⟩
  · exact ⟨_, cap, rfl⟩
theorem QRow.len {w : World} {F : Nat → Prop} {e : TypeId} {v : Value} {xs : List Value} (h : QRow w F e v xs) : xs.length ≤ maxLen := by
  rcases h with ⟨rfl, rfl⟩ | ⟨g, off, cap, cur, rfl, _, _, h1, h2, _⟩
  · simp
  · omega
/-- where the elements lie, if there are any -/
theorem QRow.at {w : World} {F : Nat → Prop} {e : TypeId} {v : Value} {xs : List Value} (h : QRow w F e v xs) (h0 : 0 < xs.length) :
    ∃ g off cap, v = .slice (some ⟨g, off, none⟩) xs.length cap ∧ F g ∧ g < w.heap.size ∧ xs.length ≤ cap ∧ cap ≤ maxLen ∧ (∃ cur, w.heap[g]? = some (.cells cur e (0, 0))) ∧ ∀ j x, xs[j]? = some x → w.cell? ⟨g, off + j, none⟩ = some x := by
  rcases h with ⟨rfl, rfl⟩ | ⟨g, off, cap, cur, rfl, hF, hg, h1, h2, h3, h4⟩
  · simp at h0
  · refine ⟨g, off, cap, rfl, hF, heap_some hg, h1, h2, ⟨cur, hg⟩, fun j x hx => ?_⟩
    rw [Lib.cell_of_heap hg]
    rw [h4 j (List.getElem?_eq_some_iff.1 hx).1, hx]
/-- the head is cut off: where no room is left the address stands -/
theorem QRow.tail' {w : World} {F : Nat → Prop} {e : TypeId} {g off n cap : Nat} {x : Value} {xs : List Value} (h : QRow w F e (.slice (some ⟨g, off, none⟩) n cap) (x :: xs)) :
    QRow w F e (.slice (if cap = 1 then some ⟨g, off, none⟩ else some ⟨g, off + 1, none⟩) xs.length (cap - 1)) xs := by
  rcases h with ⟨h, _⟩ | ⟨g', off', cap', cur, h, hF, hg, h1, h2, h3, h4⟩
  · simp at h
  · simp only [Value.slice.injEq, Option.some.injEq, Addr.mk.injEq] at h
    obtain ⟨⟨rfl, rfl, _⟩, rfl, rfl⟩ := h
    simp only [List.length_cons] at h1 h4
    by_cases hc : cap = 1
    · subst hc
      have : xs = [] := List.eq_nil_of_length_eq_zero (by omega)
      subst this
      exact .inr ⟨g, off, 0, cur, by simp, hF, hg, by simp, by omega, by omega, fun j hj => by simp at hj⟩
    · refine .inr ⟨g, off + 1, cap - 1, cur, by simp [hc], hF, hg, by omega, by omega, by omega, fun j hj => ?_⟩
      have := h4 (j + 1) (by omega)
      rw [show off + 1 + j = off + (j + 1) by omega, this]
      rfl
/-- the head is cut off -/
theorem QRow.tail {w : World} {F : Nat → Prop} {e : TypeId} {g off n cap : Nat} {x : Value} {xs : List Value} (h : QRow w F e (.slice (some ⟨g, off, none⟩) n cap) (x :: xs)) :
    QRow w F e (.slice (some ⟨g, off + 1, none⟩) (n - 1) (cap - 1)) xs := by
  rcases h with ⟨h, _⟩ | ⟨g', off', cap', cur, h, hF, hg, h1, h2, h3, h4⟩
  · simp at h
  · simp only [Value.slice.injEq, Option.some.injEq, Addr.mk.injEq] at h
    obtain ⟨⟨rfl, rfl, _⟩, rfl, rfl⟩ := h
    simp only [List.length_cons] at h1 h4 ⊢
    refine .inr ⟨g, off + 1, cap - 1, cur, by simp, hF, hg, by omega, by omega, by omega, fun j hj => ?_⟩
    have := h4 (j + 1) (by omega)
    rw [show off + 1 + j = off + (j + 1) by omega, this]
    rfl
theorem QRow.of_own {w : World} {F : Nat → Prop} {B e n : Nat} {v : Value} {xs : List Value} (h : w.ownsRow B e 1 v n xs) (hF : ∀ k, B ≤ k → F k) : QRow w F e v xs := by
  obtain ⟨h1, h2⟩ := h
  rw [Nat.mul_one] at h1
  rcases h2 with ⟨rfl, rfl⟩ | ⟨g, cap, cur, rfl, hb, hg, h3, h4, h5, h6⟩
  · exact .inl ⟨rfl, List.eq_nil_of_length_eq_zero h1⟩
  · refine .inr ⟨g, 0, cap, cur, by rw [h1], hF g hb, hg, by omega, h4, by omega, fun j hj => ?_⟩
    rw [Nat.zero_add, ← h6, Nat.mul_one, List.getElem?_take, if_pos (by omega), Array.getElem?_toList]
/-- a cell of the row is set -/
theorem QRow.set {w : World} {F : Nat → Prop} {e : TypeId} {g off n cap : Nat} {xs : List Value} (h : QRow w F e (.slice (some ⟨g, off, none⟩) n cap) xs) (j : Nat) (x : Value) (hj : j < xs.length) :
    QRow (w.setCell ⟨g, off + j, none⟩ x) F e (.slice (some ⟨g, off, none⟩) n cap) (xs.set j x) := by
  rcases h with ⟨h, _⟩ | ⟨g', off', cap', cur, h, hF, hg, h1, h2, h3, h4⟩
  · simp at h
  · simp only [Value.slice.injEq, Option.some.injEq, Addr.mk.injEq] at h
    obtain ⟨⟨rfl, rfl, _⟩, rfl, rfl⟩ := h
    refine .inr ⟨g, off, cap, cur.setIfInBounds (off + j) x, by simp, hF, ?_, by simpa using h1, h2, by simpa using h3, fun k hk => ?_⟩
    · simp [World.setCell, Array.getElem?_modify, hg]
    · rw [List.length_set] at hk
      rw [Array.getElem?_setIfInBounds, List.getElem?_set]
      by_cases hjk : j = k
      · subst hjk
        rw [if_pos rfl, if_pos rfl, if_pos (by omega), if_pos hj]
      · rw [if_neg (by omega), if_neg hjk, h4 k hk]
section
variable {P : Program} (w : World)
/-- one value appended -/
theorem run_append_q (F : Nat → Prop) (t ty e : TypeId) (i : TypeInfo) (z : Value) (bytes : Nat) (ht : P.underlying t = some (.slice e)) (hi : P.info? e = some i) (hz : i.zero = some z)
    (hsize : i.size = 1) (hby : i.bytes = bytes) (hzs : z.cells.size = 1) (v : Value) (xs : List Value) (hq : QRow w F e v xs)
    (a : Addr) (x : Value) (c : Nat) (hx : w.cell? a = some x) (h1 : x.oneCell' = true) (h63 : xs.length + 1 ≤ maxLen) (hbytes : (xs.length + 1) * bytes ≤ 140737488355328) :
    ∃ v' w', (Builtin.append_ #[t, t] ty #[v, .slice (some a) 1 c]).run P w = .ok v' w' ∧ QRow w' (Up F w.heap.size) e v' (xs ++ [x]) ∧ Chg (fun k => F k ∧ ∃ cur fz, w.heap[k]? = some (.cells cur e fz)) w w' := by
  have hnews : ∀ j u, [x][j]? = some u → w.cell? (a.add j) = some u := by
    intro j u hj
    match j, hj with
    | 0, hj =>
      simp at hj
      subst hj
      have : a.add 0 = a := by cases a with | mk b o s => cases s <;> simp [Addr.add]
      rw [this]
      exact hx
  have h1' : ∀ u ∈ [x], u.oneCell' = true := by intro u hu; simp at hu; subst hu; exact h1
  rcases hq with ⟨rfl, rfl⟩ | ⟨g, off, cap, cur, rfl, hF, hg, hl, hm, hs, hc⟩
  · obtain ⟨v', w', hr, ho, hgr, _⟩ := run_append_own (P := P) w w.heap.size t ty e i z 1 bytes ht hi hz hsize hby hzs (by decide) (.slice none 0 0) 0 [] (World.ownsRow_nil w _ e 1) a 1 c [x] rfl hnews h1' (by simpa using h63) (by simpa using hbytes) (Nat.le_refl _)
    exact ⟨v', w', hr, QRow.of_own ho (fun k hk => .inr hk), Chg.grown hgr (by simp [Value.ownBlock])⟩
  · by_cases hroom : xs.length + 1 ≤ cap
    · have hcell : (w.cell? ⟨g, off + xs.length * i.size + 0, none⟩).isSome = true := by
        rw [hsize, Lib.cell_of_heap hg]
        simp only [Nat.mul_one, Nat.add_zero]
        rw [Array.getElem?_eq_getElem (by omega)]
        rfl
      have hr := run_append_room_cells (P := P) w t ty e i ht hi g off xs.length cap a 1 c [x] (by rw [hsize]; rfl) hnews h1' hroom
        (fun j hj => by match j, hj with | 0, _ => exact hcell) (fun j hj => by unfold World.frozen?; rw [hg]; simp)
      rw [hsize, Nat.mul_one] at hr
      refine ⟨_, _, hr, ?_, ?_⟩
      · refine .inr ⟨g, off, cap, cur.setIfInBounds (off + xs.length) x, by simp, .inl hF, ?_, by simpa using hroom, hm, by simpa using hs, fun k hk => ?_⟩
        · simp [World.setCells, World.setCell, Array.getElem?_modify, hg]
        · rw [List.length_append, List.length_singleton] at hk
          rw [Array.getElem?_setIfInBounds]
          by_cases hk2 : k = xs.length
          · subst hk2
            rw [if_pos rfl, if_pos (by omega)]
            simp
          · rw [if_neg (by omega), hc k (by omega), List.getElem?_append_left (by omega)]
      · exact Chg.setCell w ⟨g, off + xs.length, none⟩ x ⟨hF, cur, _, hg⟩
    · have holds : ∀ j u, xs[j]? = some u → w.cell? ((⟨g, off, none⟩ : Addr).add j) = some u := by
        intro j u hu
        rw [Addr.add_lit, Lib.cell_of_heap hg]
        rw [hc j (List.getElem?_eq_some_iff.1 hu).1, hu]
      obtain ⟨v', w', hr, ho, hgr⟩ := run_append_arg_grows (P := P) w t ty e i z 1 bytes ht hi hz hsize hby hzs (by decide) ⟨g, off, none⟩ xs.length cap xs (by simp) holds a 1 c [x] rfl hnews (by omega) h63 hbytes
      exact ⟨v', w', hr, QRow.of_own ho (fun k hk => .inr hk), Chg.grown hgr (by simp)⟩
theorem wpList_append_q {ops : Array Oper} {rest : List Oper} {o : Oper} {a : Act} {Q : Exit → Act → World → Prop} (hgd : o.guard = none) (s y : Operand) (t : TypeId)
    (ho : o.op = .call { callee := .builtin .append, args := #[s, y], argTypes := #[t, t] })
    (F : Nat → Prop) (e : TypeId) (i : TypeInfo) (z : Value) (bytes : Nat) (ht : P.underlying t = some (.slice e)) (hi : P.info? e = some i) (hz : i.zero = some z)
    (hsize : i.size = 1) (hby : i.bytes = bytes) (hzs : z.cells.size = 1) (v : Value) (xs : List Value) (hs : a.eval s = v) (hq : QRow w F e v xs)
    (ad : Addr) (c : Nat) (x : Value) (hy : a.eval y = .slice (some ad) 1 c) (hx : w.cell? ad = some x) (h1 : x.oneCell' = true)
    (h63 : xs.length + 1 ≤ maxLen) (hbytes : (xs.length + 1) * bytes ≤ 140737488355328)
    (h : ∀ v' w', QRow w' (Up F w.heap.size) e v' (xs ++ [x]) → Chg (fun k => F k ∧ ∃ cur fz, w.heap[k]? = some (.cells cur e fz)) w w' → wpList P ops Q rest (a.put o.dst v') w') : wpList P ops Q (o :: rest) a w := by
  refine wpList_plain hgd fun K hK => ?_
  obtain ⟨v', w', hr, h2, h3⟩ := run_append_q (P := P) w F t o.type e i z bytes ht hi hz hsize hby hzs v xs hq ad x c hx h1 h63 hbytes
  unfold Oper.wp execOp
  simp only [ho, resolve, invoke, builtin, Sem.run_bind, Sem.run_pure, Result.andThen_ok, List.map_toArray, List.map_cons, List.map_nil, hs, hy, hr]
  exact hK _ _ (h v' w' h2 h3)
/-- at a step of a region that draws its order -/
theorem step_append_q {ops : Array Oper} {o : Oper} {a : Act} {K : Act → World → Prop} {Q : Exit → Act → World → Prop} {E : Prop} (hgd : o.guard = none) (s y : Operand) (t : TypeId)
    (ho : o.op = .call { callee := .builtin .append, args := #[s, y], argTypes := #[t, t] })
    (F : Nat → Prop) (e : TypeId) (i : TypeInfo) (z : Value) (bytes : Nat) (ht : P.underlying t = some (.slice e)) (hi : P.info? e = some i) (hz : i.zero = some z)
    (hsize : i.size = 1) (hby : i.bytes = bytes) (hzs : z.cells.size = 1) (v : Value) (xs : List Value) (hs : a.eval s = v) (hq : QRow w F e v xs)
    (ad : Addr) (c : Nat) (x : Value) (hy : a.eval y = .slice (some ad) 1 c) (hx : w.cell? ad = some x) (h1 : x.oneCell' = true)
    (h63 : xs.length + 1 ≤ maxLen) (hbytes : (xs.length + 1) * bytes ≤ 140737488355328)
    (h : ∀ a' c' w', QRow w' (Up F w.heap.size) e (.slice a' (xs.length + 1) c') (xs ++ [x]) → Chg (fun k => F k ∧ ∃ cur fz, w.heap[k]? = some (.cells cur e fz)) w w' → K (a.put o.dst (.slice a' (xs.length + 1) c')) w') :
    if Region.wanted o (yielded ops a.tmps) = true then Oper.wp P o a w K Q else E := by
  have hw : Region.wanted o (yielded ops a.tmps) = true := by simp [Region.wanted, hgd]
  rw [if_pos hw]
  obtain ⟨v', w', hr, h2, h3⟩ := run_append_q (P := P) w F t o.type e i z bytes ht hi hz hsize hby hzs v xs hq ad x c hx h1 h63 hbytes
  obtain ⟨a', c', rfl⟩ := h2.slice
  rw [List.length_append, List.length_singleton] at h2 hr
  unfold Oper.wp execOp
  simp only [ho, resolve, invoke, builtin, Sem.run_bind, Sem.run_pure, Result.andThen_ok, List.map_toArray, List.map_cons, List.map_nil, hs, hy, hr]
  exact h a' c' w' h2 h3
end
/-- a block of another kind stands behind an append -/
theorem Chg.kind {W w3 : World} {L : Nat → Prop} {T T' : TypeId} (hc : Chg (fun k => L k ∧ ∃ cur fz, W.heap[k]? = some (.cells cur T fz)) W w3) {g : Nat} {cs : Array Value} (ho : W.heap[g]? = some (.cells cs T' (0, 0))) (hne : T' ≠ T) :
    w3.heap[g]? = some (.cells cs T' (0, 0)) := hc.keeps ho (by rintro ⟨_, cur, fz, e⟩; rw [ho] at e; simp at e; exact hne e.2.1)
theorem Chg.kindAt {W w3 : World} {L : Nat → Prop} {T T' : TypeId} (hc : Chg (fun k => L k ∧ ∃ cur fz, W.heap[k]? = some (.cells cur T fz)) W w3) {g : Nat} {cs : Array Value} (ho : W.heap[g]? = some (.cells cs T' (0, 0))) (hne : T' ≠ T) (j : Nat) :
    w3.frozen? ⟨g, j, none⟩ = false ∧ w3.cell? ⟨g, j, none⟩ = cs[j]? := by
  have := hc.kind ho hne
  refine ⟨?_, Lib.cell_of_heap this j⟩
  unfold World.frozen?
  rw [this]
  simp
theorem Chg.kindAlloc {w1 w2 w3 : World} {o : Obj} {L : Nat → Prop} {T T' : TypeId} {g : Nat} {cs : Array Value} (ho : w1.heap[g]? = some (.cells cs T' (0, 0))) (hb : Below w1.heap.size w1 w2)
    (hc : Chg (fun k => L k ∧ ∃ cur fz, (w2.alloc o).heap[k]? = some (.cells cur T fz)) (w2.alloc o) w3) (hne : T' ≠ T) (j : Nat) :
    w3.frozen? ⟨g, j, none⟩ = false ∧ w3.cell? ⟨g, j, none⟩ = cs[j]? :=
  hc.kindAt ((Below.heap_alloc w2 _ g (Nat.lt_of_lt_of_le (heap_some ho) hb.size)).trans ((hb.block g (heap_some ho)).trans ho)) hne j
theorem QRow.alloc {w : World} {F : Nat → Prop} {e : TypeId} {v : Value} {xs : List Value} (h : QRow w F e v xs) (o : Obj) : QRow (w.alloc o) F e v xs :=
  h.keeps (G := fun _ => False) (Chg.alloc w o) (fun _ _ _ _ _ => id)
theorem QRow.drew {w : World} {F : Nat → Prop} {e : TypeId} {v : Value} {xs : List Value} (h : QRow w F e v xs) : QRow w.drew F e v xs := h
theorem Chg.cell {F : Nat → Prop} {w w1 : World} (h : Chg F w w1) {a : Addr} {v : Value} (hn : ¬ F a.block) (hv : w.cell? a = some v) : w1.cell? a = some v := by
  rw [World.cell?_of_block (h.block a.block (World.block_lt_of_cell? w a hv) hn)]
  exact hv
theorem Chg.frozen {F : Nat → Prop} {w w1 : World} (h : Chg F w w1) {a : Addr} (hlt : a.block < w.heap.size) (hn : ¬ F a.block) (hv : w.frozen? a = false) : w1.frozen? a = false := by
  rw [World.frozen?_of_block (h.block a.block hlt hn)]
  exact hv
end Go.Proofs.Ytnclmbolfpojoaa
