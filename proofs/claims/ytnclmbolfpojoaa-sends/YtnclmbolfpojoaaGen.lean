/-
  Small things about memory and footprints.
-/
import Derived.Test.YtnclmbolfpojoaaPlain
import Derived.Test.YtnclmbolfpojoaaMem
namespace Go.Proofs.Ytnclmbolfpojoaa
open Go.RowKit
theorem hid {p : Prop} (h : p) : Hid p := h
def ptrV (b : Nat) : Value := .pointer (some ⟨b, 0, none⟩)
theorem unfrozen {w : World} {b : Nat} {cs : Array Value} {T : TypeId} (h : w.heap[b]? = some (.cells cs T (0, 0))) : ∀ j, w.frozen? ⟨b, j, none⟩ = false := by
  intro j
  unfold World.frozen?
  rw [h]
  simp
theorem lab_old {F : Nat → Prop} {lab : Nat → Nat} {n L i k : Nat} (hk : k < n) (h : Lab F lab i k) : Lab (Up F n) (relab lab n L) i k := ⟨.inl h.1, by unfold relab; rw [if_pos hk]; exact h.2⟩
theorem lab_new {F : Nat → Prop} {lab : Nat → Nat} {n L k : Nat} (h : Up (Lab F lab L) n k) : Lab (Up F n) (relab lab n L) L k := by
  refine ⟨h.elim (fun e => .inl e.1) (fun e => .inr e), ?_⟩
  unfold relab
  split
  · rename_i hlt
    exact h.elim (fun e => e.2) (fun e => absurd hlt (Nat.not_lt.2 e))
  · rfl
theorem map_get {α : Type} (f : α → Value) (l : List α) (i : Nat) (d : α) (h : i < l.length) : (l.map f)[i]? = some (f (l.getD i d)) := by
  rw [List.getElem?_map, List.getElem?_eq_getElem h, List.getD_eq_getElem?_getD, List.getElem?_eq_getElem h]
  rfl
def cfgCells (c : Cfg) : Array Value := #[.int .i64 c.n, .int .i64 c.w0, .int .i64 c.w1, .int .i64 c.w2, .int .i64 c.w3, .int .i64 c.quantum, .int .i64 c.chunk, .int .i64 c.window, .int .i64 c.queue, .int .i64 c.patience]
/-- the blocks of F that hold a row of such elements -/
def RowOf (w : World) (F : Nat → Prop) (e : TypeId) : Nat → Prop := fun k => F k ∧ ∃ cur fz, w.heap[k]? = some (.cells cur e fz)
theorem wpList_append_r {P : Program} (w : World) {ops : Array Oper} {rest : List Oper} {o : Oper} {a : Act} {Q : Exit → Act → World → Prop} (hgd : o.guard = none) (s y : Operand) (t : TypeId)
    (ho : o.op = .call { callee := .builtin .append, args := #[s, y], argTypes := #[t, t] })
    (F : Nat → Prop) (e : TypeId) (i : TypeInfo) (z : Value) (bytes : Nat) (ht : P.underlying t = some (.slice e)) (hi : P.info? e = some i) (hz : i.zero = some z)
    (hsize : i.size = 1) (hby : i.bytes = bytes) (hzs : z.cells.size = 1) (v : Value) (xs : List Value) (hs : a.eval s = v) (hq : QRow w F e v xs)
    (ad : Addr) (c : Nat) (x : Value) (hy : a.eval y = .slice (some ad) 1 c) (hx : w.cell? ad = some x) (h1 : x.oneCell' = true)
    (h63 : xs.length + 1 ≤ maxLen) (hbytes : (xs.length + 1) * bytes ≤ 140737488355328)
    (h : ∀ v' w', QRow w' (Up F w.heap.size) e v' (xs ++ [x]) → Chg (RowOf w F e) w w' → wpList P ops Q rest (a.put o.dst v') w') : wpList P ops Q (o :: rest) a w :=
  wpList_append_q w hgd s y t ho F e i z bytes ht hi hz hsize hby hzs v xs hs hq ad c x hy hx h1 h63 hbytes h
theorem Chg.rowKind {W w3 : World} {L : Nat → Prop} {T T' : TypeId} (hc : Chg (RowOf W L T) W w3) {g : Nat} {cs : Array Value} (ho : W.heap[g]? = some (.cells cs T' (0, 0))) (hne : T' ≠ T) : w3.heap[g]? = some (.cells cs T' (0, 0)) := hc.kind ho hne
end Go.Proofs.Ytnclmbolfpojoaa
