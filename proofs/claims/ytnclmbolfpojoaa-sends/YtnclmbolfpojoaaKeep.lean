/-
  The statements own keeping of lists that came out: what keep does to the lists and marks that are kept, and that nothing else of them turns.
-/
import Derived.Test.YtnclmbolfpojoaaLent
import Derived.Test.YtnclmbolfpojoaaMem
import Derived.WalkKit
import Derived.WalkSpells
import Derived.BigRegion
import Derived.BigQuiet
import Derived.Deep.QuietTactic
import Derived.OwnWalk
import Derived.Maps.AppendAt
namespace Go.Proofs.Ytnclmbolfpojoaa
open Go.RowKit
/-- where the new value lies behind an append of one value: in the old one's row, or in a new block, and then nothing that was there has turned -/
def OneAt (w w' : World) (v v' : Value) (n : Nat) : Prop :=
  (∃ g cap, v = .slice (some ⟨g, 0, none⟩) n cap ∧ v' = .slice (some ⟨g, 0, none⟩) (n + 1) cap) ∨ (v'.ownBlock = some w.heap.size ∧ Below w.heap.size w w')
section
variable {P : Program} (w : World)
/-- one value appended to a row of the call's own: in place, or in a new block, and then nothing that was there has turned -/
theorem run_append_one (base : Nat) (t ty e : TypeId) (i : TypeInfo) (z : Value) (bytes : Nat) (ht : P.underlying t = some (.slice e)) (hi : P.info? e = some i) (hz : i.zero = some z)
    (hsize : i.size = 1) (hby : i.bytes = bytes) (hzs : z.cells.size = 1)
    (v : Value) (n : Nat) (xs : List Value) (hown : w.ownsRow base e 1 v n xs)
    (a : Addr) (x : Value) (hx : w.cell? a = some x) (h1 : x.oneCell' = true)
    (h63 : n + 1 ≤ maxLen) (hbytes : (n + 1) * bytes ≤ 140737488355328) (hbase : base ≤ w.heap.size) :
    ∃ v' w', (Builtin.append_ #[t, t] ty #[v, .slice (some a) 1 1]).run P w = .ok v' w' ∧ w'.ownsRow base e 1 v' (n + 1) (xs ++ [x]) ∧ w.grownBy w' v.ownBlock ∧ OneAt w w' v v' n := by
  have hnews : ∀ j u, [x][j]? = some u → w.cell? (a.add j) = some u := by
    intro j u hj
    match j, hj with
    | 0, hj =>
      simp at hj
      subst hj
      have : a.add 0 = a := by cases a with | mk b o s => cases s <;> simp [Addr.add]
      rw [this]
      exact hx
  have h1' : ∀ u ∈ [x], u.oneCell' = true := by intro u hu; simp at hu; subst hu; exact h1
  obtain ⟨v', w', hr, ho, hg, _, hat⟩ := run_append_own_at (P := P) w base t ty e i z 1 bytes ht hi hz hsize hby hzs (by decide) v n xs hown a 1 1 [x] rfl hnews h1' h63 hbytes hbase
  refine ⟨v', w', hr, ho, hg, ?_⟩
  unfold OneAt
  have hsmall : n + 1 ≤ 9223372036854775807 := by simp only [maxLen] at h63; omega
  have fresh : ∀ c : Array Value, Below w.heap.size w (w.drew.alloc (.cells c e)) := fun c => ((Below.refl _ w).drew).alloc (Nat.le_refl _) _
  rcases hown.2 with ⟨rfl, rfl⟩ | ⟨g, cap, cur, rfl, hbg, hgg, hnc, hcm, hcs, htake⟩
  · have hr2 := run_append_nil (P := P) w t ty e i z ht hi hz a 1 1 [x] (by rw [hsize]; rfl) hnews (by omega) (by omega) (by rw [hby]; omega)
    rw [hr2] at hr
    injection hr with e1 e2
    right
    rw [← e1, ← e2]
    exact ⟨rfl, fresh _⟩
  · by_cases hroom : n + 1 ≤ cap
    · have hr2 := run_append_room (P := P) w t ty e i ht hi g n cap cur hgg a 1 1 [x] (by rw [hsize]; rfl) hnews h1' hroom (by rw [hsize]; simp; omega)
      rw [hr2] at hr
      injection hr with e1 e2
      exact .inl ⟨g, cap, rfl, e1.symm⟩
    · have hr2 := run_append_grow (P := P) w t ty e i z ht hi hz ⟨g, 0, none⟩ n cap xs (by rw [hsize]; exact hown.1) (hown.cells (g := g) rfl) a 1 1 [x] (by rw [hsize]; rfl) hnews (by omega) (by omega) (growslice_fits (by omega) (by rw [hby]; exact hbytes))
      rw [hr2] at hr
      injection hr with e1 e2
      right
      rw [← e1, ← e2]
      exact ⟨rfl, fresh _⟩
theorem wpList_append_one {ops : Array Oper} {rest : List Oper} {o : Oper} {a : Act} {Q : Exit → Act → World → Prop} (hgd : o.guard = none) (s y : Operand) (t : TypeId)
    (ho : o.op = .call { callee := .builtin .append, args := #[s, y], argTypes := #[t, t] })
    (base : Nat) (e : TypeId) (i : TypeInfo) (z : Value) (bytes : Nat) (ht : P.underlying t = some (.slice e)) (hi : P.info? e = some i) (hz : i.zero = some z)
    (hsize : i.size = 1) (hby : i.bytes = bytes) (hzs : z.cells.size = 1)
    (v : Value) (n : Nat) (xs : List Value) (hs : a.eval s = v) (hown : w.ownsRow base e 1 v n xs)
    (ad : Addr) (x : Value) (hy : a.eval y = .slice (some ad) 1 1) (hx : w.cell? ad = some x) (h1 : x.oneCell' = true)
    (h63 : n + 1 ≤ maxLen) (hbytes : (n + 1) * bytes ≤ 140737488355328) (hbase : base ≤ w.heap.size)
    (h : ∀ v' w', w'.ownsRow base e 1 v' (n + 1) (xs ++ [x]) → w.grownBy w' v.ownBlock → OneAt w w' v v' n → wpList P ops Q rest (a.put o.dst v') w') : wpList P ops Q (o :: rest) a w := by
  refine wpList_plain hgd fun K hK => ?_
  obtain ⟨v', w', hr, h2, h3, h4⟩ := run_append_one (P := P) w base t o.type e i z bytes ht hi hz hsize hby hzs v n xs hown ad x hx h1 h63 hbytes hbase
  unfold Oper.wp execOp
  simp only [ho, resolve, invoke, builtin, Sem.run_bind, Sem.run_pure, Result.andThen_ok, List.map_toArray, List.map_cons, List.map_nil, hs, hy, hr]
  exact hK _ _ (h v' w' h2 h3 h4)
end

/-- what is kept between the steps of a script: the lists that came out and their marks -/
def Good (w : World) (B : Nat) (vm x : Value) (y : ByteArray) : Prop :=
  (∃ k, w.ownsRow B 9 1 x k (List.replicate k (.string y))) ∧ (x.ownBlock = none ∨ x.ownBlock ≠ vm.ownBlock)
def Kept (w : World) (B gW : Nat) (ve vr vl vm : Value) (xs : List Value) (ms : List ByteArray) : Prop :=
  B ≤ gW ∧ w.heap[gW]? = some (.cells #[ve, vr, vl, vm] 29 (0, 0)) ∧ w.ownsRow B 27 1 vl xs.length xs ∧ w.ownsRow B 9 1 vm ms.length (ms.map Value.string) ∧
  ∀ p ∈ xs.zip ms, Good w B vm p.1 p.2
/-- an own row of another kind than the one that has grown is as it was -/
theorem own_kind {w w' : World} {B e n : Nat} {v : Value} {xs : List Value} {row : Option Nat} (h : w.ownsRow B e 1 v n xs) (hg : w.grownBy w' row)
    (hr : ∀ k, row = some k → ∃ cur t fz, w.heap[k]? = some (.cells cur t fz) ∧ t ≠ e) : w'.ownsRow B e 1 v n xs := by
  refine h.kept hg ?_
  rcases h.2 with ⟨rfl, _⟩ | ⟨g, cap, cur, rfl, hb, hgg, _⟩
  · exact .inl rfl
  · right
    intro e1
    obtain ⟨cur2, t, fz, h2, h3⟩ := hr g e1.symm
    rw [hgg] at h2
    simp at h2
    exact h3 h2.2.1.symm
/-- the row that an own value lies in -/
theorem own_row {w : World} {B e n : Nat} {v : Value} {xs : List Value} (h : w.ownsRow B e 1 v n xs) : ∀ k, v.ownBlock = some k → ∃ cur t fz, w.heap[k]? = some (.cells cur t fz) ∧ t = e := by
  intro k hk
  rcases h.2 with ⟨rfl, _⟩ | ⟨g, cap, cur, rfl, hb, hgg, _⟩
  · simp [Value.ownBlock] at hk
  · simp [Value.ownBlock] at hk
    subst hk
    exact ⟨cur, e, (0, 0), hgg, rfl⟩
theorem grown_setCell (w : World) (a : Addr) (v : Value) : w.grownBy (w.setCell a v) (some a.block) :=
  ⟨rfl, rfl, rfl, by simp [World.setCell], fun k _ hk => Below.heap_setCell _ _ _ _ (fun e => hk (by rw [e]))⟩
theorem own_setCell {w : World} {B e n : Nat} {v : Value} {xs : List Value} (h : w.ownsRow B e 1 v n xs) (a : Addr) (u : Value) {cur : Array Value} {t : TypeId} {fz : Nat × Nat} (ha : w.heap[a.block]? = some (.cells cur t fz)) (ht : t ≠ e) :
    (w.setCell a u).ownsRow B e 1 v n xs :=
  own_kind h (grown_setCell w a u) (fun k hk => by injection hk with hk; subst hk; exact ⟨cur, t, fz, ha, ht⟩)
/-- what nothing that was there has turned leaves -/
theorem own_below {w w' : World} {B e n : Nat} {v : Value} {xs : List Value} (h : w.ownsRow B e 1 v n xs) (hb : Below w.heap.size w w') : w'.ownsRow B e 1 v n xs := by
  refine ⟨h.1, ?_⟩
  rcases h.2 with hn | ⟨g, cap, cur, rfl, hB, hgg, rest⟩
  · exact .inl hn
  · exact .inr ⟨g, cap, cur, rfl, hB, (hb.block g (Array.getElem?_eq_some_iff.1 hgg).1).trans hgg, rest⟩
theorem Kept.below {w w' : World} {B gW : Nat} {ve vr vl vm : Value} {xs : List Value} {ms : List ByteArray} (h : Kept w B gW ve vr vl vm xs ms) (hb : Below w.heap.size w w') : Kept w' B gW ve vr vl vm xs ms := by
  obtain ⟨h1, h2, h3, h4, h5⟩ := h
  refine ⟨h1, (hb.block gW (Array.getElem?_eq_some_iff.1 h2).1).trans h2, own_below h3 hb, own_below h4 hb, fun p hp => ?_⟩
  obtain ⟨⟨k, hk⟩, hs⟩ := h5 p hp
  exact ⟨⟨k, own_below hk hb⟩, hs⟩
/-- a list that is being marked: its value, its length, its mark; no other list lies in its row but those made of it -/
def Now (w : World) (B : Nat) (vm v : Value) (n : Nat) (m : ByteArray) (xs : List Value) (ms : List ByteArray) : Prop :=
  w.ownsRow B 9 1 v n (List.replicate n (.string m)) ∧ (v.ownBlock = none ∨ v.ownBlock ≠ vm.ownBlock) ∧
  ∀ p ∈ xs.zip ms, p.1.ownBlock = none ∨ p.1.ownBlock ≠ v.ownBlock ∨ (p.2 = m ∧ ∃ g cap k, v = .slice (some ⟨g, 0, none⟩) n cap ∧ p.1 = .slice (some ⟨g, 0, none⟩) k cap ∧ k ≤ n)
theorem Now.below {w w' : World} {B n : Nat} {vm v : Value} {m : ByteArray} {xs : List Value} {ms : List ByteArray} (h : Now w B vm v n m xs ms) (hb : Below w.heap.size w w') : Now w' B vm v n m xs ms :=
  ⟨own_below h.1 hb, h.2.1, h.2.2⟩
theorem below_alloc (w : World) (o : Obj) : Below w.heap.size w (w.alloc o) := (Below.refl _ _).alloc (Nat.le_refl _) _
/-- the list is laid among the lists -/
theorem keep_lists {w w2 : World} {B gW n : Nat} {ve vr vl vm v vl' : Value} {m : ByteArray} {xs : List Value} {ms : List ByteArray} (hl : xs.length = ms.length)
    (h : Kept w B gW ve vr vl vm xs ms) (hn : Now w B vm v n m xs ms) (hown : w2.ownsRow B 27 1 vl' (xs.length + 1) (xs ++ [v])) (hg : w.grownBy w2 vl.ownBlock) :
    Kept (w2.setCell ⟨gW, 2, none⟩ vl') B gW ve vr vl' vm (xs ++ [v]) ms ∧ Now (w2.setCell ⟨gW, 2, none⟩ vl') B vm v n m (xs ++ [v]) ms := by
  obtain ⟨h1, h2, h3, h4, h5⟩ := h
  obtain ⟨n1, n2, n3⟩ := hn
  have hr : ∀ (t : Nat), t ≠ 27 → ∀ k, vl.ownBlock = some k → ∃ cur t' fz, w.heap[k]? = some (.cells cur t' fz) ∧ t' ≠ t := fun t ht k hk => by
    obtain ⟨cur, t', fz, e1, e2⟩ := own_row h3 k hk
    exact ⟨cur, t', fz, e1, by rw [e2]; exact fun e => ht e.symm⟩
  have hW2 : w2.heap[gW]? = some (.cells #[ve, vr, vl, vm] 29 (0, 0)) := by
    rw [hg.block gW (Array.getElem?_eq_some_iff.1 h2).1 ?_]
    · exact h2
    · intro e
      obtain ⟨cur, t', fz, e1, e2⟩ := own_row h3 gW e.symm
      rw [h2] at e1
      simp at e1
      rw [← e1.2.1] at e2
      exact absurd e2 (by decide)
  have hz : (xs ++ [v]).zip ms = xs.zip ms := by
    have := List.zip_append (l₁ := xs) (r₁ := [v]) (l₂ := ms) (r₂ := ([] : List ByteArray)) hl
    simpa using this
  refine ⟨⟨h1, ?_, ?_, ?_, ?_⟩, ?_, n2, ?_⟩
  · simp [World.setCell, Array.getElem?_modify, hW2]
  · rw [List.length_append]
    exact own_setCell hown _ _ hW2 (by decide)
  · exact own_setCell (own_kind h4 hg (hr 9 (by decide))) _ _ hW2 (by decide)
  · intro p hp
    rw [hz] at hp
    obtain ⟨⟨k, hk⟩, hs⟩ := h5 p hp
    exact ⟨⟨k, own_setCell (own_kind hk hg (hr 9 (by decide))) _ _ hW2 (by decide)⟩, hs⟩
  · exact own_setCell (own_kind n1 hg (hr 9 (by decide))) _ _ hW2 (by decide)
  · intro p hp
    rw [hz] at hp
    exact n3 p hp
/-- .. and its mark among the marks -/
theorem keep_marks {w w2 : World} {B gW n : Nat} {ve vr vl vm v vm' : Value} {m : ByteArray} {xs : List Value} {ms : List ByteArray} (hl : xs.length = ms.length)
    (h : Kept w B gW ve vr vl vm (xs ++ [v]) ms) (hn : Now w B vm v n m (xs ++ [v]) ms) (hown : w2.ownsRow B 9 1 vm' (ms.length + 1) (ms.map Value.string ++ [.string m])) (hg : w.grownBy w2 vm.ownBlock)
    (hat : OneAt w w2 vm vm' ms.length) :
    Kept (w2.setCell ⟨gW, 3, none⟩ vm') B gW ve vr vl vm' (xs ++ [v]) (ms ++ [m]) ∧ Now (w2.setCell ⟨gW, 3, none⟩ vm') B vm' v n m (xs ++ [v]) (ms ++ [m]) := by
  obtain ⟨h1, h2, h3, h4, h5⟩ := h
  obtain ⟨n1, n2, n3⟩ := hn
  have hz : (xs ++ [v]).zip ms = xs.zip ms := by
    have := List.zip_append (l₁ := xs) (r₁ := [v]) (l₂ := ms) (r₂ := ([] : List ByteArray)) hl
    simpa using this
  have hz2 : (xs ++ [v]).zip (ms ++ [m]) = xs.zip ms ++ [(v, m)] := by
    rw [List.zip_append hl]; rfl
  rw [hz] at h5 n3
  have hne : ∀ (x : Value) (k : Nat) (l : List Value), w.ownsRow B 9 1 x k l → (x.ownBlock = none ∨ x.ownBlock ≠ vm.ownBlock) → (x.ownBlock = none ∨ x.ownBlock ≠ vm'.ownBlock) := by
    intro x k l hx hs
    rcases hs with hs | hs
    · exact .inl hs
    · rcases hat with ⟨g, cap, e1, e2⟩ | ⟨e1, _⟩
      · right
        rw [e2]
        rw [e1] at hs
        exact hs
      · cases hb : x.ownBlock with
        | none => exact .inl rfl
        | some b =>
          right
          rw [e1]
          have := (hx.lt b hb).2
          intro e
          injection e with e
          omega
  have hrow : ∀ k, vm.ownBlock = some k → ∃ cur t fz, w.heap[k]? = some (.cells cur t fz) ∧ t = 9 := own_row h4
  have hW2 : w2.heap[gW]? = some (.cells #[ve, vr, vl, vm] 29 (0, 0)) := by
    rw [hg.block gW (Array.getElem?_eq_some_iff.1 h2).1 ?_]
    · exact h2
    · intro e
      obtain ⟨cur, t', fz, e1, e2⟩ := hrow gW e.symm
      rw [h2] at e1
      simp at e1
      rw [← e1.2.1] at e2
      exact absurd e2 (by decide)
  have k9 : ∀ (x : Value) (k : Nat) (l : List Value), w.ownsRow B 9 1 x k l → (x.ownBlock = none ∨ x.ownBlock ≠ vm.ownBlock) → (w2.setCell ⟨gW, 3, none⟩ vm').ownsRow B 9 1 x k l := fun x k l hx hs =>
    own_setCell (hx.kept hg hs) _ _ hW2 (by decide)
  refine ⟨⟨h1, ?_, ?_, ?_, ?_⟩, ?_, hne v _ _ n1 n2, ?_⟩
  · simp [World.setCell, Array.getElem?_modify, hW2]
  · refine own_setCell (own_kind h3 hg fun k hk => ?_) _ _ hW2 (by decide)
    obtain ⟨cur, t, fz, e1, e2⟩ := hrow k hk
    exact ⟨cur, t, fz, e1, by rw [e2]; decide⟩
  · rw [List.map_append, List.length_append]
    exact own_setCell hown _ _ hW2 (by decide)
  · intro p hp
    rw [hz2, List.mem_append, List.mem_singleton] at hp
    rcases hp with hp | rfl
    · obtain ⟨⟨k, hk⟩, hs⟩ := h5 p hp
      exact ⟨⟨k, k9 _ _ _ hk hs⟩, hne _ _ _ hk hs⟩
    · exact ⟨⟨n, k9 _ _ _ n1 n2⟩, hne _ _ _ n1 n2⟩
  · exact k9 _ _ _ n1 n2
  · intro p hp
    rw [hz2, List.mem_append, List.mem_singleton] at hp
    rcases hp with hp | rfl
    · exact n3 p hp
    · rcases n1.2 with ⟨e, _⟩ | ⟨g, cap, cur, e, _⟩
      · left; rw [e]; rfl
      · right; right
        exact ⟨rfl, g, cap, n, e, e, Nat.le_refl _⟩
/-- what lies in a row that holds a mark n times, holds it k times -/
theorem own_less {w : World} {B g n k cap : Nat} {x : Value} (h : w.ownsRow B 9 1 (.slice (some ⟨g, 0, none⟩) n cap) n (List.replicate n x)) (hk : k ≤ n) : w.ownsRow B 9 1 (.slice (some ⟨g, 0, none⟩) k cap) k (List.replicate k x) := by
  rcases h.2 with ⟨e, _⟩ | ⟨g', cap', cur, e, hb, hg, h1, h2, h3, h4⟩
  · cases e
  · injection e with e1 e2 e3
    injection e1 with e1
    injection e1 with e1
    subst e1 e3
    refine ⟨by simp, .inr ⟨g, cap, cur, rfl, hb, hg, by omega, h2, h3, ?_⟩⟩
    have : cur.toList.take (k * 1) = (cur.toList.take (n * 1)).take k := by rw [List.take_take]; congr 1; omega
    rw [this, h4, List.take_replicate, Nat.min_eq_left hk]
/-- the list with its mark behind it -/
theorem keep_more {w w2 : World} {B gW n : Nat} {ve vr vl vm v v' : Value} {m : ByteArray} {xs : List Value} {ms : List ByteArray}
    (h : Kept w B gW ve vr vl vm xs ms) (hn : Now w B vm v n m xs ms) (hown : w2.ownsRow B 9 1 v' (n + 1) (List.replicate n (.string m) ++ [.string m])) (hg : w.grownBy w2 v.ownBlock)
    (hat : OneAt w w2 v v' n) :
    Kept w2 B gW ve vr vl vm xs ms ∧ Now w2 B vm v' (n + 1) m xs ms := by
  have hrep : List.replicate n (Value.string m) ++ [.string m] = List.replicate (n + 1) (.string m) := by rw [List.replicate_succ']
  rw [hrep] at hown
  rcases hat with ⟨g, cap, rfl, rfl⟩ | ⟨e1, hb⟩
  · obtain ⟨h1, h2, h3, h4, h5⟩ := h
    obtain ⟨n1, n2, n3⟩ := hn
    have hrow : ∀ k, (Value.slice (some ⟨g, 0, none⟩) n cap).ownBlock = some k → ∃ cur t fz, w.heap[k]? = some (.cells cur t fz) ∧ t = 9 := own_row n1
    refine ⟨⟨h1, ?_, ?_, ?_, ?_⟩, hown, n2, ?_⟩
    · rw [hg.block gW (Array.getElem?_eq_some_iff.1 h2).1 ?_]
      · exact h2
      · intro e
        obtain ⟨cur, t', fz, e1, e2⟩ := hrow gW e.symm
        rw [h2] at e1
        simp at e1
        rw [← e1.2.1] at e2
        exact absurd e2 (by decide)
    · refine own_kind h3 hg fun k hk => ?_
      obtain ⟨cur, t, fz, e1, e2⟩ := hrow k hk
      exact ⟨cur, t, fz, e1, by rw [e2]; decide⟩
    · refine h4.kept hg ?_
      rcases n2 with n2 | n2
      · cases n2
      · exact .inr fun e => n2 e.symm
    · intro p hp
      obtain ⟨⟨k, hk⟩, hs⟩ := h5 p hp
      refine ⟨?_, hs⟩
      rcases n3 p hp with e | e | ⟨e, g', cap', k', e1, e2, e3⟩
      · exact ⟨k, hk.kept hg (.inl e)⟩
      · exact ⟨k, hk.kept hg (.inr e)⟩
      · injection e1 with a1 a2 a3
        injection a1 with a1
        injection a1 with a1
        subst a1 a3
        rw [e2, e]
        exact ⟨k', own_less hown (by omega)⟩
    · intro p hp
      rcases n3 p hp with e | e | ⟨e, g', cap', k', e1, e2, e3⟩
      · exact .inl e
      · exact .inr (.inl e)
      · injection e1 with a1 a2 a3
        injection a1 with a1
        injection a1 with a1
        subst a1 a3
        exact .inr (.inr ⟨e, g, cap, k', rfl, e2, by omega⟩)
  · refine ⟨h.below hb, hown, ?_, ?_⟩
    · cases hv : vm.ownBlock with
      | none => right; rw [e1]; exact fun e => by cases e
      | some b =>
        right
        rw [e1]
        have := (h.2.2.2.1.lt b hv).2
        intro e
        injection e with e
        omega
    · intro p hp
      obtain ⟨⟨k, hk⟩, _⟩ := h.2.2.2.2 p hp
      cases hb2 : p.1.ownBlock with
      | none => exact .inl rfl
      | some b =>
        right; left
        rw [e1]
        have := (hk.lt b hb2).2
        intro e
        injection e with e
        omega

theorem info27 : ∃ i, Try.prog.info? 27 = some i ∧ i.zero = some (.slice none 0 0) ∧ i.size = 1 ∧ i.bytes = 24 := by
  obtain ⟨i, h1, h2⟩ := Option.map_eq_some_iff.1 (by kernel_rfl : (Try.prog.info? 27).map (fun i => (i.zero, i.size, i.bytes)) = some (some (.slice none 0 0), 1, 24))
  simp only [Prod.mk.injEq] at h2
  exact ⟨i, h1, h2.1, h2.2.1, h2.2.2⟩
theorem own_slice {w : World} {B e n : Nat} {v : Value} {xs : List Value} (h : w.ownsRow B e 1 v n xs) : ∃ a cap, v = .slice a n cap := by
  rcases h.2 with ⟨rfl, rfl⟩ | ⟨g, cap, cur, rfl, _⟩
  · exact ⟨_, _, rfl⟩
  · exact ⟨_, _, rfl⟩
theorem kept_grown {w w2 : World} {B gW n : Nat} {ve vr vl vm v : Value} {xs ys : List Value} {ms : List ByteArray} (h : Kept w B gW ve vr vl vm xs ms) (hv : w.ownsRow B 9 1 v n ys) (hg : w.grownBy w2 v.ownBlock)
    (hvm : v.ownBlock = none ∨ v.ownBlock ≠ vm.ownBlock) (hvx : ∀ p ∈ xs.zip ms, p.1.ownBlock = none ∨ p.1.ownBlock ≠ v.ownBlock) : Kept w2 B gW ve vr vl vm xs ms := by
  obtain ⟨h1, h2, h3, h4, h5⟩ := h
  have hrow := own_row hv
  refine ⟨h1, ?_, ?_, ?_, ?_⟩
  · rw [hg.block gW (Array.getElem?_eq_some_iff.1 h2).1 ?_]
    · exact h2
    · intro e
      obtain ⟨cur, t', fz, e1, e2⟩ := hrow gW e.symm
      rw [h2] at e1
      simp at e1
      rw [← e1.2.1] at e2
      exact absurd e2 (by decide)
  · refine own_kind h3 hg fun k hk => ?_
    obtain ⟨cur, t, fz, e1, e2⟩ := hrow k hk
    exact ⟨cur, t, fz, e1, by rw [e2]; decide⟩
  · refine h4.kept hg ?_
    cases hb : vm.ownBlock with
    | none => exact .inl rfl
    | some b =>
      right
      intro e
      rcases hvm with e2 | e2
      · rw [e2] at e; cases e
      · exact e2 (by rw [← e, hb])
  · intro p hp
    obtain ⟨⟨k, hk⟩, hs⟩ := h5 p hp
    exact ⟨⟨k, hk.kept hg (hvx p hp)⟩, hs⟩
theorem set_mark (ys : List Value) (k : Nat) (x : Value) (hk : k < ys.length) : (List.replicate k x ++ ys.drop k).set k x = List.replicate (k + 1) x ++ ys.drop (k + 1) := by
  rw [List.set_append_right _ _ (by simp), List.length_replicate, Nat.sub_self, List.drop_eq_getElem_cons hk, List.set_cons_zero, List.replicate_succ', List.append_assoc]
  rfl
theorem kept_obj {w w2 : World} {B gW : Nat} {ve vr vl vm : Value} {xs : List Value} {ms : List ByteArray} {row : Option Nat} (h : Kept w B gW ve vr vl vm xs ms) (hg : w.grownBy w2 row)
    (hr : ∀ k, row = some k → ∃ cur t fz, w.heap[k]? = some (.cells cur t fz) ∧ t ≠ 29) : w2.heap[gW]? = some (.cells #[ve, vr, vl, vm] 29 (0, 0)) := by
  obtain ⟨h1, h2, _⟩ := h
  rw [hg.block gW (Array.getElem?_eq_some_iff.1 h2).1 ?_]
  · exact h2
  · intro e
    obtain ⟨cur, t', fz, e1, e2⟩ := hr gW e.symm
    rw [h2] at e1
    simp at e1
    exact e2 e1.2.1.symm
theorem own_row_ne {w : World} {B e n : Nat} {v : Value} {xs : List Value} (h : w.ownsRow B e 1 v n xs) (he : e ≠ 29) : ∀ k, v.ownBlock = some k → ∃ cur t fz, w.heap[k]? = some (.cells cur t fz) ∧ t ≠ 29 := by
  intro k hk
  obtain ⟨cur, t, fz, e1, e2⟩ := own_row h k hk
  exact ⟨cur, t, fz, e1, by rw [e2]; exact he⟩
theorem obj_cells {w : World} {gW : Nat} {a b c d : Value} (h : w.heap[gW]? = some (.cells #[a, b, c, d] 29 (0, 0))) :
    w.cell? ⟨gW, 2, none⟩ = some c ∧ w.cell? ⟨gW, 3, none⟩ = some d ∧ w.frozen? ⟨gW, 2, none⟩ = false ∧ w.frozen? ⟨gW, 3, none⟩ = false :=
  ⟨by rw [Lib.cell_of_heap h]; rfl, by rw [Lib.cell_of_heap h]; rfl, Lib.frozen_of_heap h 2, Lib.frozen_of_heap h 3⟩
theorem cell_new_set (w : World) (a : Addr) (v x : Value) (t : TypeId) : ((w.setCell a v).alloc (.cells #[x] t)).cell? ⟨w.heap.size, 0, none⟩ = some x := by
  rw [World.cell?_alloc_at (w := w.setCell a v) #[x] t w.heap.size 0 (by simp [World.setCell])]
  rfl
/-- blocks that a value's own row lies in -/
def OwnIn (K : Nat → Prop) (v : Value) : Prop := ∀ k, v.ownBlock = some k → K k
/-- the rows of what is kept lie among the blocks K -/
def KIn (K : Nat → Prop) (vl vm : Value) (xs : List Value) : Prop := OwnIn K vl ∧ OwnIn K vm ∧ ∀ x ∈ xs, OwnIn K x
theorem OwnIn.mono {K L : Nat → Prop} {v : Value} (h : OwnIn K v) (hk : ∀ k, K k → L k) : OwnIn L v := fun k e => hk k (h k e)
theorem KIn.mono {K L : Nat → Prop} {vl vm : Value} {xs : List Value} (h : KIn K vl vm xs) (hk : ∀ k, K k → L k) : KIn L vl vm xs := ⟨h.1.mono hk, h.2.1.mono hk, fun x hx => (h.2.2 x hx).mono hk⟩
theorem one_in {K : Nat → Prop} {w w' : World} {v v' : Value} {n : Nat} (h : OneAt w w' v v' n) (hv : OwnIn K v) (hn : K w.heap.size) : OwnIn K v' := by
  intro k hk
  rcases h with ⟨g, cap, e1, e2⟩ | ⟨e1, _⟩
  · refine hv k ?_
    rw [e1]
    rw [e2] at hk
    exact hk
  · rw [e1] at hk
    injection hk with hk
    rw [← hk]
    exact hn
def KeepPost (w : World) (B gW : Nat) (ve vr : Value) (k : Nat) (K : Nat → Prop) (e : Ending) (w' : World) : Prop :=
  e = .returned (.tuple #[]) ∧ Below B w w' ∧ Chg K w w' ∧ ∃ vl vm xs ms, xs.length = ms.length ∧ xs.length = k + 4 ∧ Kept w' B gW ve vr vl vm xs ms ∧ KIn K vl vm xs

set_option maxHeartbeats 2000000 in
set_option maxRecDepth 100000 in
theorem keep_calls (B gW : Nat) (ve vr vl vm v : Value) (n : Nat) (xs : List Value) (ms : List ByteArray) (ys : List Value) (w : World) (hl : xs.length = ms.length) (hk : xs.length ≤ 4398046511104) (hn : n ≤ 1000)
    (h : Kept w B gW ve vr vl vm xs ms) (hv : w.ownsRow B 9 1 v n ys) (hvm : v.ownBlock = none ∨ v.ownBlock ≠ vm.ownBlock) (hvx : ∀ p ∈ xs.zip ms, p.1.ownBlock = none ∨ p.1.ownBlock ≠ v.ownBlock)
    (K : Nat → Prop) (hKn : ∀ k, w.heap.size ≤ k → K k) (hKW : K gW) (hKI : KIn K vl vm xs) (hKv : OwnIn K v) :
    Calls Try.prog 61 #[.pointer (some ⟨gW, 0, none⟩), v] w fun e w' => KeepPost w B gW ve vr xs.length K e w' := by
  have HKN : Hid (∀ k, w.heap.size ≤ k → K k) := hKn
  have HKW : Hid (K gW) := hKW
  have HKI : Hid (KIn K vl vm xs) := hKI
  have HKV : Hid (OwnIn K v) := hKv
  clear hKn hKW hKI hKv
  have HK : Hid (Kept w B gW ve vr vl vm xs ms) := h
  have HV : Hid (w.ownsRow B 9 1 v n ys) := hv
  have HVM : Hid (v.ownBlock = none ∨ v.ownBlock ≠ vm.ownBlock) := hvm
  have HVX : Hid (∀ p ∈ xs.zip ms, p.1.ownBlock = none ∨ p.1.ownBlock ≠ v.ownBlock) := hvx
  have HL : Hid (xs.length = ms.length) := hl
  have hms : ms.length ≤ 4398046511104 := by omega
  obtain ⟨_, hW, _, hm4, _⟩ := h
  obtain ⟨am, cm, rfl⟩ := own_slice hm4
  obtain ⟨av, cv, rfl⟩ := own_slice hv
  have c3 : w.cell? ⟨gW, 3, none⟩ = some (.slice am ms.length cm) := by rw [Lib.cell_of_heap hW]; rfl
  clear hW hm4 hv hvm hvx hl
  go_enter Try.func61, Try.ntmps61
  go_wp2
  go_loop [4, 5] (fun x y => ∃ (m : ByteArray) (k : Nat), x = .string m ∧ y = .int .i64 k ∧ m.size + k ≤ 4 + ms.length) (fun _ y => (intOf y).toNat)
  case atStart => exact ⟨_, ms.length, rfl, rfl, Nat.le_refl _⟩
  case round =>
    obtain ⟨m, k, rfl, rfl, hmk⟩ := hrel
    by_cases h0 : 0 < k
    · have hz : ((⟨#[48, 49]⟩ : ByteArray).extract (k % 2) (k % 2 + 1)).size = 1 := by
        have : k % 2 = 0 ∨ k % 2 = 1 := by omega
        rcases this with e | e <;> rw [e] <;> rfl
      go_wp2
      go_round
      case rel => exact ⟨_, k / 2, rfl, int_val (by omega), by rw [ByteArray.size_append, hz]; omega⟩
      case measure => simp [intOf]; omega
    · obtain rfl : k = 0 := by omega
      have hmz : m.size ≤ 4398046511108 := by omega
      clear h0 hmk
      go_wp2
      go_loopw [6] (fun j wr => ∃ k : Nat, k ≤ n ∧ j = .int .i64 k ∧ wr.ownsRow B 9 1 (.slice av n cv) n (List.replicate k (.string m) ++ ys.drop k) ∧ Kept wr B gW ve vr vl (.slice am ms.length cm) xs ms ∧ Below B w wr ∧ Chg K w wr) (fun j _ => n - (intOf j).toNat)
      case atStart => exact ⟨0, Nat.zero_le _, rfl, by simpa using HV.out, HK.out, Below.refl _ _, Chg.refl _ _⟩
      case round =>
        obtain ⟨k, hkn, rfl, hown, hkept, hbel, hchg⟩ := hrel
        have HCH : Hid (Chg K w wr) := hchg
        clear hchg
        have HO : Hid (wr.ownsRow B 9 1 (.slice av n cv) n (List.replicate k (.string m) ++ ys.drop k)) := hown
        have HKWW : Hid (Kept wr B gW ve vr vl (.slice am ms.length cm) xs ms) := hkept
        have hyl : ys.length = n := by have := HV.out.1; omega
        clear hown hkept
        by_cases hlt : k < n
        · obtain ⟨g, cap, cur, hv, hbg, hg, _⟩ : ∃ g cap cur, (Value.slice av n cv) = .slice (some ⟨g, 0, none⟩) n cap ∧ B ≤ g ∧ wr.heap[g]? = some (.cells cur 9 (0, 0)) ∧ True := by
            rcases HO.out.2 with ⟨e, h0⟩ | ⟨g, cap, cur, e, h1, h2, _⟩
            · omega
            · exact ⟨g, cap, cur, e, h1, h2, trivial⟩
          injection hv with e1 e2 e3
          subst e1
          subst e3
          clear e2
          have hcell : wr.cell? ⟨g, k, none⟩ = (List.replicate k (Value.string m) ++ ys.drop k)[k]? := HO.out.cellAt k (by omega)
          have hsome : ∃ u, wr.cell? ⟨g, k, none⟩ = some u := by
            rw [hcell, List.getElem?_eq_getElem (by simp; omega)]
            exact ⟨_, rfl⟩
          obtain ⟨u, hu⟩ := hsome
          have hfr := HO.out.frozenAt k
          clear hcell hg
          go_wp2
          go_roundw
          case rel =>
            refine ⟨k + 1, by omega, by go_num, ?_, kept_grown HKWW.out HO.out (grown_setCell wr ⟨g, k, none⟩ _) HVM.out HVX.out, hbel.setCell (p := ⟨g, k, none⟩) hbg _, HCH.out.trans' (Chg.setCell wr ⟨g, k, none⟩ _ (HKV.out g rfl))⟩
            have := HO.out.stored k (.string m)
            rw [set_mark ys k (.string m) (by omega)] at this
            exact this.1
          case measure => simp [intOf]; omega
        · obtain rfl : k = n := by omega
          have hnow : Now wr B (.slice am ms.length cm) (.slice av k cv) k m xs ms := by
            have ho := HO.out
            rw [List.drop_of_length_le (by omega), List.append_nil] at ho
            exact ⟨ho, HVM.out, fun p hp => (HVX.out p hp).imp id .inl⟩
          have HN0 : Hid (Now wr B (.slice am ms.length cm) (.slice av k cv) k m xs ms) := hnow
          clear hnow
          go_wp2
          go_loopw [1, 7, 8] (fun x j _ wq => ∃ (i : Nat) (vl' vm' : Value) (xs' : List Value) (ms' : List ByteArray), i ≤ 4 ∧ j = .int .i64 i ∧ xs'.length = ms'.length ∧ xs'.length = xs.length + i ∧ Kept wq B gW ve vr vl' vm' xs' ms' ∧ Now wq B vm' x (k + i) m xs' ms' ∧ Below B w wq ∧ Chg K w wq ∧ KIn K vl' vm' xs' ∧ OwnIn K x) (fun _ j _ _ => 4 - (intOf j).toNat)
          case atStart => exact ⟨0, _, _, xs, ms, Nat.zero_le _, rfl, HL.out, rfl, HKWW.out, HN0.out, hbel, HCH.out, HKI.out, HKV.out⟩
          case round =>
            obtain ⟨i, vl', vm', xs', ms', hi4, rfl, hll, hlx, hkept, hnow, hbel2, hch2, hki2, hox2⟩ := hrel
            have HC2 : Hid (Chg K w wr) := hch2
            have HI2 : Hid (KIn K vl' vm' xs') := hki2
            have HX2 : Hid (OwnIn K u1) := hox2
            clear hch2 hki2 hox2
            have HLL : Hid (xs'.length = ms'.length) := hll
            have HLX : Hid (xs'.length = xs.length + i) := hlx
            have hxle : xs'.length ≤ 4398046511104 + 4 := by omega
            have hmle : ms'.length ≤ 4398046511104 + 4 := by omega
            clear HN0 HKWW HO hbel hll hlx HCH
            by_cases hlt4 : i < 4
            · obtain ⟨a1, cp1, rfl⟩ := own_slice hnow.1
              obtain ⟨al, cl, rfl⟩ := own_slice hkept.2.2.1
              obtain ⟨aq, cq, rfl⟩ := own_slice hkept.2.2.2.1
              obtain ⟨c2, c3', f2, f3⟩ := obj_cells hkept.2.1
              obtain ⟨i27, hi27, hz27, hs27, hb27⟩ := info27
              obtain ⟨i9, hi9, hz9, hs9, hb9⟩ := info9'
              have hBg : B ≤ gW := hkept.1
              have hgl : gW < wr.heap.size := (Array.getElem?_eq_some_iff.1 hkept.2.1).1
              have HK1 : Hid (Kept wr B gW ve vr (.slice al xs'.length cl) (.slice aq ms'.length cq) xs' ms') := hkept
              have HN1 : Hid (Now wr B (.slice aq ms'.length cq) (.slice a1 (k + i) cp1) (k + i) m xs' ms') := hnow
              clear hkept hnow c3
              go_wp2_with (at_builtin; refine wpList_append_one _ rfl _ _ 26 rfl B 27 i27 (.slice none 0 0) 24 Try.underlying26 hi27 hz27 hs27 hb27 rfl _ _ _ rfl (HK1.out.2.2.1.alloc _) ⟨wr.heap.size, 0, none⟩ (.slice a1 (k + i) cp1) rfl ?c1 rfl ?c3 ?c4 ?c5 ?_)
              case c1 => simp
              case c3 => unfold maxLen; omega
              case c4 => omega
              case c5 => simp; omega
              intro vl2 w2 hown2 hgrow2 hat2
              have hKa := HK1.out.below (below_alloc wr (.cells #[.slice a1 (k + i) cp1] 27))
              have hNa := HN1.out.below (below_alloc wr (.cells #[.slice a1 (k + i) cp1] 27))
              have hW2 := kept_obj hKa hgrow2 (own_row_ne hKa.2.2.1 (by decide))
              obtain ⟨d2, d3, g2, g3⟩ := obj_cells hW2
              obtain ⟨hK2, hN2⟩ := keep_lists HLL.out hKa hNa hown2 hgrow2
              have hbel3 : Below B w w2 := (hbel2.alloc (by omega) _).grown hgrow2 (by simp; omega) (fun q hq => (HK1.out.2.2.1.lt q hq).1)
              have hs2 := hgrow2.size
              simp at hs2
              have HC3 : Hid (Chg K w w2) := (HC2.out.trans' (Chg.alloc wr _)).trans' (Chg.grown hgrow2 HI2.out.1)
              have HO3 : Hid (OwnIn K vl2) := one_in hat2 HI2.out.1 (HKN.out _ (by simp; have := HC2.out.size; omega))
              have HK2 : Hid (Kept (w2.setCell ⟨gW, 2, none⟩ vl2) B gW ve vr vl2 (.slice aq ms'.length cq) (xs' ++ [.slice a1 (k + i) cp1]) ms') := hK2
              have HN2 : Hid (Now (w2.setCell ⟨gW, 2, none⟩ vl2) B (.slice aq ms'.length cq) (.slice a1 (k + i) cp1) (k + i) m (xs' ++ [.slice a1 (k + i) cp1]) ms') := hN2
              obtain ⟨al2, cl2, rfl⟩ := own_slice hown2
              clear hKa hNa hW2 hK2 hN2 hown2 hgrow2 hat2 c2 c3' f2 f3 HK1 HN1 hbel2
              go_wp2_with (at_builtin; refine wpList_append_one _ rfl _ _ 27 rfl B 9 i9 (.string ⟨#[]⟩) 16 Try.underlying27 hi9 hz9 hs9 hb9 rfl _ _ _ rfl (HK2.out.2.2.2.1.alloc _) ⟨w2.heap.size, 0, none⟩ (.string m) rfl ?c1 rfl ?c3 ?c4 ?c5 ?_)
              case c1 => exact cell_new_set _ _ _ _ _
              case c3 => unfold maxLen; omega
              case c4 => omega
              case c5 => simp; omega
              intro vm2 w4 hown4 hgrow4 hat4
              have hKb := HK2.out.below (below_alloc _ (.cells #[.string m] 9))
              have hNb := HN2.out.below (below_alloc _ (.cells #[.string m] 9))
              have hW4 := kept_obj hKb hgrow4 (own_row_ne hKb.2.2.2.1 (by decide))
              obtain ⟨e2, e3, k2, k3⟩ := obj_cells hW4
              obtain ⟨hK4, hN4⟩ := keep_marks HLL.out hKb hNb hown4 hgrow4 hat4
              have hbel4 : Below B w w4 := ((hbel3.setCell (p := ⟨gW, 2, none⟩) hBg _).alloc (by simp; omega) _).grown hgrow4 (by simp; omega) (fun q hq => (HK2.out.2.2.2.1.lt q hq).1)
              have hs4 := hgrow4.size
              simp at hs4
              have HC5 : Hid (Chg K w w4) := ((HC3.out.trans' (Chg.setCell w2 ⟨gW, 2, none⟩ _ HKW.out)).trans' (Chg.alloc _ _)).trans' (Chg.grown hgrow4 HI2.out.2.1)
              have HO5 : Hid (OwnIn K vm2) := one_in hat4 HI2.out.2.1 (HKN.out _ (by simp; have := HC3.out.size; omega))
              have HK4 : Hid (Kept (w4.setCell ⟨gW, 3, none⟩ vm2) B gW ve vr (.slice al2 (xs'.length + 1) cl2) vm2 (xs' ++ [.slice a1 (k + i) cp1]) (ms' ++ [m])) := hK4
              have HN4 : Hid (Now (w4.setCell ⟨gW, 3, none⟩ vm2) B vm2 (.slice a1 (k + i) cp1) (k + i) m (xs' ++ [.slice a1 (k + i) cp1]) (ms' ++ [m])) := hN4
              obtain ⟨am2, cm2, rfl⟩ := own_slice hown4
              clear hKb hNb hW4 hK4 hN4 hown4 hgrow4 hat4 d2 d3 g2 g3 HK2 HN2 hbel3
              go_wp2_with (at_builtin; refine wpList_append_one _ rfl _ _ 27 rfl B 9 i9 (.string ⟨#[]⟩) 16 Try.underlying27 hi9 hz9 hs9 hb9 rfl _ _ _ rfl (HN4.out.1.alloc _) ⟨w4.heap.size, 0, none⟩ (.string m) rfl ?c1 rfl ?c3 ?c4 ?c5 ?_)
              case c1 => exact cell_new_set _ _ _ _ _
              case c3 => unfold maxLen; omega
              case c4 => omega
              case c5 => simp; omega
              intro v2 w6 hown6 hgrow6 hat6
              obtain ⟨hK6, hN6⟩ := keep_more (HK4.out.below (below_alloc _ (.cells #[.string m] 9))) (HN4.out.below (below_alloc _ (.cells #[.string m] 9))) hown6 hgrow6 hat6
              have hbel6 : Below B w w6 := ((hbel4.setCell (p := ⟨gW, 3, none⟩) hBg _).alloc (by simp; omega) _).grown hgrow6 (by simp; omega) (fun q hq => (HN4.out.1.lt q hq).1)
              have HC7 : Hid (Chg K w w6) := ((HC5.out.trans' (Chg.setCell w4 ⟨gW, 3, none⟩ _ HKW.out)).trans' (Chg.alloc _ _)).trans' (Chg.grown hgrow6 HX2.out)
              have HO7 : Hid (OwnIn K v2) := one_in hat6 HX2.out (HKN.out _ (by simp; have := HC5.out.size; omega))
              have HK6 : Hid (Kept w6 B gW ve vr (.slice al2 (xs'.length + 1) cl2) (.slice am2 (ms'.length + 1) cm2) (xs' ++ [.slice a1 (k + i) cp1]) (ms' ++ [m])) := hK6
              have HN6 : Hid (Now w6 B (.slice am2 (ms'.length + 1) cm2) v2 (k + i + 1) m (xs' ++ [.slice a1 (k + i) cp1]) (ms' ++ [m])) := hN6
              clear hK6 hN6 hown6 hgrow6 hat6 HK4 HN4 hbel4 e2 e3 k2 k3
              go_wp2
              go_roundw
              case rel =>
                refine ⟨i + 1, _, _, _, _, by omega, by go_num, ?_, ?_, HK6.out, ?_, hbel6, HC7.out, ⟨HO3.out, HO5.out, ?_⟩, HO7.out⟩
                · rw [List.length_append, List.length_append, HLL.out]; rfl
                · rw [List.length_append, HLX.out]; rfl
                · exact HN6.out
                · intro y hy
                  rw [List.mem_append, List.mem_singleton] at hy
                  rcases hy with hy | rfl
                  · exact HI2.out.2.2 y hy
                  · exact HX2.out
              case measure => simp [intOf]; omega
            · obtain rfl : i = 4 := by omega
              have HKE : Hid (Kept wr B gW ve vr vl' vm' xs' ms') := hkept
              clear hkept hnow
              go_wp2
              go_end0
              exact ⟨rfl, hbel2, HC2.out, vl', vm', xs', ms', HLL.out, HLX.out, HKE.out, HI2.out⟩
end Go.Proofs.Ytnclmbolfpojoaa
