/-
  The ends of a script, by the program and by the document, side by side: what holds between the steps (of those that send).
-/
import Derived.Test.YtnclmbolfpojoaaStep
import Derived.Test.YtnclmbolfpojoaaPCan
import Derived.Test.YtnclmbolfpojoaaPNew
import Derived.Test.YtnclmbolfpojoaaVol
import Derived.Test.YtnclmbolfpojoaaRFlow
namespace Go.Proofs.Ytnclmbolfpojoaa
open Go.RowKit
/-- an end that only sends -/
def Snd (N : Nat) (m : Mod) : Prop := m.Good N ∧ m.died = 0 ∧ m.held = 0
theorem held_eq {m m1 : Mod} (hl : m1.ss.length = m.ss.length) (h : ∀ j, (m1.at j).came = (m.at j).came) : m1.held = m.held := by
  unfold Mod.held
  congr 1
  apply List.ext_getElem
  · simp [hl]
  · intro i h1 h2
    simp only [List.length_map] at h1 h2
    have := h i
    unfold Mod.at at this
    rw [List.getD_eq_getElem?_getD, List.getD_eq_getElem?_getD, List.getElem?_eq_getElem h1, List.getElem?_eq_getElem h2] at this
    simp only [List.getElem_map]
    exact congrArg ByteArray.size this
theorem held_upd (m : Mod) (i : Nat) (s : Stm) (h : s.came = (m.at i).came) : (m.upd i s).held = m.held := by
  refine held_eq (len_upd m i s) (fun j => ?_)
  rw [at_upd]
  split
  · rename_i e
    rw [h, e.1]
  · rfl
theorem Snd.mono {N M : Nat} {m : Mod} (h : Snd N m) (hn : N ≤ M) : Snd M m := ⟨h.1.mono hn, h.2⟩
theorem Snd.fresh (N : Nat) {c : Cfg} (hc : c.Ok) : Snd N (Mod.fresh c) :=
  ⟨Mod.Good.fresh N hc, rfl, sumL_zero (by
    intro x hx
    simp only [Mod.fresh, List.map_replicate, List.mem_replicate] at hx
    rw [hx.2]
    rfl)⟩
theorem Snd.submit {N : Nat} {m : Mod} (h : Snd N m) (i : Int) (ss : List ByteArray) : Snd (N + 1) (m.submit i ss) := by
  refine ⟨h.1.submit i ss, ?_, ?_⟩
  · unfold Mod.submit; split <;> exact h.2.1
  · unfold Mod.submit
    split
    · rw [held_upd _ _ _ (by rfl)]; exact h.2.2
    · exact h.2.2
theorem Snd.cancel {N : Nat} {m : Mod} (h : Snd N m) (i : Int) : Snd (N + 1) (m.cancel i) := by
  refine ⟨h.1.cancel i, ?_, ?_⟩
  · unfold Mod.cancel; split <;> exact h.2.1
  · unfold Mod.cancel
    split
    · show (m.upd i.toNat (m.at i.toNat).silent).held = 0
      rw [held_upd _ _ _ (by rfl)]; exact h.2.2
    · exact h.2.2
theorem Snd.write {N : Nat} {m : Mod} (h : Snd N m) (k : Nat) : Snd N (Mod.write k m noB).2 := by
  have hs := Mod.Same.write k m noB
  exact ⟨h.1.write k noB, hs.died.trans h.2.1, (held_eq hs.len (fun j => (hs.s j).came)).trans h.2.2⟩
/-- the blocks from B on that are there -/
def Her (B n : Nat) : Nat → Prop := fun k => B ≤ k ∧ k < n
/-- the ends side by side: where they lie, and what each is -/
structure WJ (w : World) (B : Nat) (lab : Nat → Nat) (ve vr : Value) (gs rs : List Nat) (mp mr : Nat → Mod) : Prop where
  base : B ≤ w.heap.size
  len : gs.length = rs.length
  rowE : QRow w (Lab (Her B w.heap.size) lab 1) 53 ve (gs.map ptrV)
  rowR : QRow w (Lab (Her B w.heap.size) lab 2) 81 vr (rs.map ptrV)
  pe : ∀ i, i < gs.length → PEnd w (Lab (Her B w.heap.size) lab (2 * i + 3)) (gs.getD i 0) (mp i)
  re : ∀ i, i < gs.length → REnd w (Lab (Her B w.heap.size) lab (2 * i + 4)) (rs.getD i 0) (mr i)
theorem her_lab {B n n' j i k : Nat} {lab : Nat → Nat} (hn : n ≤ n') (h : Lab (Her B n) lab i k) : Lab (Her B n') (relab lab n j) i k := by
  refine ⟨⟨h.1.1, Nat.lt_of_lt_of_le h.1.2 hn⟩, ?_⟩
  unfold relab
  rw [if_pos h.1.2]
  exact h.2
theorem her_new {B n n' j k : Nat} {lab : Nat → Nat} (hn : n ≤ n') (hB : B ≤ n) (hk : k < n') (h : Up (Lab (Her B n) lab j) n k) : Lab (Her B n') (relab lab n j) j k := by
  rcases h with h | h
  · exact her_lab hn h
  · refine ⟨⟨Nat.le_trans hB h, hk⟩, ?_⟩
    unfold relab
    rw [if_neg (by omega)]
theorem her_ne {B n i j : Nat} {lab : Nat → Nat} (h : i ≠ j) : ∀ k, Lab (Her B n) lab i k → ¬ Lab (Her B n) lab j k := fun _ hk => hk.ne h
/-- what lies under another label stands -/
theorem WJ.keeps {w w' : World} {B : Nat} {lab : Nat → Nat} {ve vr : Value} {gs rs : List Nat} {mp mr : Nat → Mod} (h : WJ w B lab ve vr gs rs mp mr) (j : Nat) (hc : Chg (Lab (Her B w.heap.size) lab j) w w') :
    B ≤ w'.heap.size ∧ (j ≠ 1 → QRow w' (Lab (Her B w'.heap.size) (relab lab w.heap.size j) 1) 53 ve (gs.map ptrV)) ∧ (j ≠ 2 → QRow w' (Lab (Her B w'.heap.size) (relab lab w.heap.size j) 2) 81 vr (rs.map ptrV)) ∧
    (∀ i, i < gs.length → 2 * i + 3 ≠ j → PEnd w' (Lab (Her B w'.heap.size) (relab lab w.heap.size j) (2 * i + 3)) (gs.getD i 0) (mp i)) ∧
    (∀ i, i < gs.length → 2 * i + 4 ≠ j → REnd w' (Lab (Her B w'.heap.size) (relab lab w.heap.size j) (2 * i + 4)) (rs.getD i 0) (mr i)) :=
  ⟨Nat.le_trans h.base hc.size,
    fun e => (h.rowE.keeps hc (fun k _ _ hk _ => her_ne (fun x => e x.symm) k hk)).mono (fun _ _ e => her_lab hc.size e),
    fun e => (h.rowR.keeps hc (fun k _ _ hk _ => her_ne (fun x => e x.symm) k hk)).mono (fun _ _ e => her_lab hc.size e),
    fun i hi e => ((h.pe i hi).keeps hc (her_ne e)).mono (fun _ _ e => her_lab hc.size e),
    fun i hi e => ((h.re i hi).keeps hc (her_ne e)).mono (fun _ _ e => her_lab hc.size e)⟩
def setAt (f : Nat → Mod) (i : Nat) (m : Mod) : Nat → Mod := fun j => if j = i then m else f j
/-- the program's end i has done something -/
theorem WJ.pstep {w w' : World} {B : Nat} {lab : Nat → Nat} {ve vr : Value} {gs rs : List Nat} {mp mr : Nat → Mod} (h : WJ w B lab ve vr gs rs mp mr) {i : Nat} {m' : Mod} (hp : PEnd w' (Up (Lab (Her B w.heap.size) lab (2 * i + 3)) w.heap.size) (gs.getD i 0) m') (hc : Chg (Lab (Her B w.heap.size) lab (2 * i + 3)) w w') :
    WJ w' B (relab lab w.heap.size (2 * i + 3)) ve vr gs rs (setAt mp i m') mr := by
  obtain ⟨k1, k2, k3, k4, k5⟩ := h.keeps (2 * i + 3) hc
  refine ⟨k1, h.len, k2 (by omega), k3 (by omega), fun j hj => ?_, fun j hj => k5 j hj (by omega)⟩
  unfold setAt
  by_cases e : j = i
  · subst e
    rw [if_pos rfl]
    exact hp.mono (fun k hk e => her_new hc.size h.base hk e)
  · rw [if_neg e]
    exact k4 j hj (by omega)
theorem WJ.rstep {w w' : World} {B : Nat} {lab : Nat → Nat} {ve vr : Value} {gs rs : List Nat} {mp mr : Nat → Mod} (h : WJ w B lab ve vr gs rs mp mr) {i : Nat} {m' : Mod} (hp : REnd w' (Up (Lab (Her B w.heap.size) lab (2 * i + 4)) w.heap.size) (rs.getD i 0) m') (hc : Chg (Lab (Her B w.heap.size) lab (2 * i + 4)) w w') :
    WJ w' B (relab lab w.heap.size (2 * i + 4)) ve vr gs rs mp (setAt mr i m') := by
  obtain ⟨k1, k2, k3, k4, k5⟩ := h.keeps (2 * i + 4) hc
  refine ⟨k1, h.len, k2 (by omega), k3 (by omega), fun j hj => k4 j hj (by omega), fun j hj => ?_⟩
  unfold setAt
  by_cases e : j = i
  · subst e
    rw [if_pos rfl]
    exact hp.mono (fun k hk e => her_new hc.size h.base hk e)
  · rw [if_neg e]
    exact k5 j hj (by omega)
/-- what is kept has turned, and no end -/
theorem WJ.kstep {w w' : World} {B : Nat} {lab : Nat → Nat} {ve vr : Value} {gs rs : List Nat} {mp mr : Nat → Mod} (h : WJ w B lab ve vr gs rs mp mr) (hc : Chg (Lab (Her B w.heap.size) lab 0) w w') :
    WJ w' B (relab lab w.heap.size 0) ve vr gs rs mp mr := by
  obtain ⟨k1, k2, k3, k4, k5⟩ := h.keeps 0 hc
  exact ⟨k1, h.len, k2 (by omega), k3 (by omega), fun j hj => k4 j hj (by omega), fun j hj => k5 j hj (by omega)⟩
theorem own_chg {w w' : World} {B e n : Nat} {v : Value} {xs : List Value} {K G : Nat → Prop} (h : w.ownsRow B e 1 v n xs) (hv : OwnIn K v) (hc : Chg G w w') (hn : ∀ k, K k → ¬ G k) : w'.ownsRow B e 1 v n xs := by
  refine ⟨h.1, ?_⟩
  rcases h.2 with hx | ⟨g, cap, cur, rfl, hB, hgg, rest⟩
  · exact .inl hx
  · exact .inr ⟨g, cap, cur, rfl, hB, hc.keeps hgg (hn g (hv g (by simp [Value.ownBlock]))), rest⟩
/-- what is kept stands where other blocks turn -/
theorem Kept.chg {w w' : World} {B gW : Nat} {ve vr vl vm : Value} {xs : List Value} {ms : List ByteArray} {K G : Nat → Prop} (h : Kept w B gW ve vr vl vm xs ms) (hi : KIn K vl vm xs) (hW : K gW) (hc : Chg G w w') (hn : ∀ k, K k → ¬ G k) : Kept w' B gW ve vr vl vm xs ms := by
  obtain ⟨h1, h2, h3, h4, h5⟩ := h
  refine ⟨h1, hc.keeps h2 (hn gW hW), own_chg h3 hi.1 hc hn, own_chg h4 hi.2.1 hc hn, fun p hp => ?_⟩
  obtain ⟨⟨k, hk⟩, hs⟩ := h5 p hp
  exact ⟨⟨k, own_chg hk (hi.2.2 p.1 (List.of_mem_zip hp).1) hc hn⟩, hs⟩
theorem mem_zip {α β : Type} (xs : List α) : ∀ (ms : List β), xs.length = ms.length → ∀ x ∈ xs, ∃ y, (x, y) ∈ xs.zip ms := by
  induction xs with
  | nil => intro ms _ x hx; simp at hx
  | cons a r ih =>
    intro ms hl x hx
    cases ms with
    | nil => simp at hl
    | cons b t =>
      rcases List.mem_cons.1 hx with rfl | hx
      · exact ⟨b, by simp⟩
      · obtain ⟨y, hy⟩ := ih t (by simpa using hl) x hx
        exact ⟨y, by simp [hy]⟩
theorem Kept.lt {w : World} {B gW : Nat} {ve vr vl vm : Value} {xs : List Value} {ms : List ByteArray} {K : Nat → Prop} (h : Kept w B gW ve vr vl vm xs ms) (hl : xs.length = ms.length) (hi : KIn K vl vm xs) : KIn (fun k => K k ∧ k < w.heap.size) vl vm xs := by
  obtain ⟨_, _, h3, h4, h5⟩ := h
  have hb : ∀ {e n : Nat} {v : Value} {ys : List Value}, w.ownsRow B e 1 v n ys → ∀ k, v.ownBlock = some k → k < w.heap.size := by
    intro e n v ys ho k hk
    obtain ⟨cur, t, fz, hg, _⟩ := own_row ho k hk
    exact heap_some hg
  refine ⟨fun k hk => ⟨hi.1 k hk, hb h3 k hk⟩, fun k hk => ⟨hi.2.1 k hk, hb h4 k hk⟩, fun x hx k hk => ⟨hi.2.2 x hx k hk, ?_⟩⟩
  obtain ⟨y, hy⟩ := mem_zip xs ms hl x hx
  obtain ⟨⟨j, hj⟩, _⟩ := h5 _ hy
  exact hb hj k hk
/-- all that holds between the steps -/
structure WI (w : World) (B gW : Nat) (lab : Nat → Nat) (ve vr vl vm : Value) (xs : List Value) (ms : List ByteArray) (gs rs : List Nat) (mp mr : Nat → Mod) : Prop where
  j : WJ w B lab ve vr gs rs mp mr
  kept : Kept w B gW ve vr vl vm xs ms
  kin : KIn (Lab (Her B w.heap.size) lab 0) vl vm xs
  own : Lab (Her B w.heap.size) lab 0 gW
  len : xs.length = ms.length
theorem WI.other {w w' : World} {B gW : Nat} {lab : Nat → Nat} {ve vr vl vm : Value} {xs : List Value} {ms : List ByteArray} {gs rs : List Nat} {mp mr : Nat → Mod} (h : WI w B gW lab ve vr vl vm xs ms gs rs mp mr) {j : Nat} (hj : j ≠ 0) (hc : Chg (Lab (Her B w.heap.size) lab j) w w') :
    Kept w' B gW ve vr vl vm xs ms ∧ KIn (Lab (Her B w'.heap.size) (relab lab w.heap.size j) 0) vl vm xs ∧ Lab (Her B w'.heap.size) (relab lab w.heap.size j) 0 gW :=
  ⟨h.kept.chg h.kin h.own hc (her_ne (fun e => hj e.symm)), h.kin.mono (fun _ e => her_lab hc.size e), her_lab hc.size h.own⟩
theorem WI.pstep {w w' : World} {B gW : Nat} {lab : Nat → Nat} {ve vr vl vm : Value} {xs : List Value} {ms : List ByteArray} {gs rs : List Nat} {mp mr : Nat → Mod} (h : WI w B gW lab ve vr vl vm xs ms gs rs mp mr) {i : Nat} {m' : Mod}
    (hp : PEnd w' (Up (Lab (Her B w.heap.size) lab (2 * i + 3)) w.heap.size) (gs.getD i 0) m') (hc : Chg (Lab (Her B w.heap.size) lab (2 * i + 3)) w w') : ∃ lab', WI w' B gW lab' ve vr vl vm xs ms gs rs (setAt mp i m') mr := by
  obtain ⟨a1, a2, a3⟩ := h.other (by omega) hc
  exact ⟨_, h.j.pstep hp hc, a1, a2, a3, h.len⟩
theorem WI.rstep {w w' : World} {B gW : Nat} {lab : Nat → Nat} {ve vr vl vm : Value} {xs : List Value} {ms : List ByteArray} {gs rs : List Nat} {mp mr : Nat → Mod} (h : WI w B gW lab ve vr vl vm xs ms gs rs mp mr) {i : Nat} {m' : Mod}
    (hp : REnd w' (Up (Lab (Her B w.heap.size) lab (2 * i + 4)) w.heap.size) (rs.getD i 0) m') (hc : Chg (Lab (Her B w.heap.size) lab (2 * i + 4)) w w') : ∃ lab', WI w' B gW lab' ve vr vl vm xs ms gs rs mp (setAt mr i m') := by
  obtain ⟨a1, a2, a3⟩ := h.other (by omega) hc
  exact ⟨_, h.j.rstep hp hc, a1, a2, a3, h.len⟩
theorem WI.pstep0 {w w' : World} {B gW : Nat} {lab : Nat → Nat} {ve vr vl vm : Value} {xs : List Value} {ms : List ByteArray} {gs rs : List Nat} {mp mr : Nat → Mod} (h : WI w B gW lab ve vr vl vm xs ms gs rs mp mr) {i : Nat} {m' : Mod}
    (hp : PEnd w' (Up (Lab (Her B w.heap.size) lab (2 * i + 3)) w.heap.size) (gs.getD i 0) m') (hc : Chg (Lab (Her B w.heap.size) lab (2 * i + 3)) w w') : WI w' B gW (relab lab w.heap.size (2 * i + 3)) ve vr vl vm xs ms gs rs (setAt mp i m') mr := by
  obtain ⟨a1, a2, a3⟩ := h.other (by omega) hc
  exact ⟨h.j.pstep hp hc, a1, a2, a3, h.len⟩
theorem WI.rstep0 {w w' : World} {B gW : Nat} {lab : Nat → Nat} {ve vr vl vm : Value} {xs : List Value} {ms : List ByteArray} {gs rs : List Nat} {mp mr : Nat → Mod} (h : WI w B gW lab ve vr vl vm xs ms gs rs mp mr) {i : Nat} {m' : Mod}
    (hp : REnd w' (Up (Lab (Her B w.heap.size) lab (2 * i + 4)) w.heap.size) (rs.getD i 0) m') (hc : Chg (Lab (Her B w.heap.size) lab (2 * i + 4)) w w') : WI w' B gW (relab lab w.heap.size (2 * i + 4)) ve vr vl vm xs ms gs rs mp (setAt mr i m') := by
  obtain ⟨a1, a2, a3⟩ := h.other (by omega) hc
  exact ⟨h.j.rstep hp hc, a1, a2, a3, h.len⟩
theorem WI.below0 {w w' : World} {B gW : Nat} {lab : Nat → Nat} {ve vr vl vm : Value} {xs : List Value} {ms : List ByteArray} {gs rs : List Nat} {mp mr : Nat → Mod} (h : WI w B gW lab ve vr vl vm xs ms gs rs mp mr) (hb : Below w.heap.size w w') : WI w' B gW (relab lab w.heap.size 0) ve vr vl vm xs ms gs rs mp mr := by
  have hc : Chg (Lab (Her B w.heap.size) lab 0) w w' := .of_below hb
  exact ⟨h.j.kstep hc, h.kept.below hb, h.kin.mono (fun _ e => her_lab hc.size e), her_lab hc.size h.own, h.len⟩
/-- a new block, which no end has -/
theorem new_apart {B n n' j k : Nat} {lab : Nat → Nat} (hj : j ≠ 0) (hk : n ≤ k) : ¬ Lab (Her B n') (relab lab n 0) j k := by
  rintro ⟨_, e⟩
  unfold relab at e
  rw [if_neg (by omega)] at e
  exact hj e.symm
theorem low_apart {B n j k : Nat} {lab : Nat → Nat} (hk : k < B) : ¬ Lab (Her B n) lab j k := by
  rintro ⟨e, _⟩
  have := e.1
  omega
theorem WI.below {w w' : World} {B gW : Nat} {lab : Nat → Nat} {ve vr vl vm : Value} {xs : List Value} {ms : List ByteArray} {gs rs : List Nat} {mp mr : Nat → Mod} (h : WI w B gW lab ve vr vl vm xs ms gs rs mp mr) (hb : Below w.heap.size w w') : ∃ lab', WI w' B gW lab' ve vr vl vm xs ms gs rs mp mr := by
  have hc : Chg (Lab (Her B w.heap.size) lab 0) w w' := .of_below hb
  exact ⟨_, h.j.kstep hc, h.kept.below hb, h.kin.mono (fun _ e => her_lab hc.size e), her_lab hc.size h.own, h.len⟩
theorem WI.kstep {w w' : World} {B gW k : Nat} {lab : Nat → Nat} {ve vr vl vm : Value} {xs : List Value} {ms : List ByteArray} {gs rs : List Nat} {mp mr : Nat → Mod} {e : Ending} (h : WI w B gW lab ve vr vl vm xs ms gs rs mp mr) (hs : StepPost w B gW ve vr k (Up (Lab (Her B w.heap.size) lab 0) w.heap.size) e w') :
    e = .returned (.bool true) ∧ Below B w w' ∧ ∃ lab' vl' vm' xs' ms', WI w' B gW lab' ve vr vl' vm' xs' ms' gs rs mp mr ∧ xs'.length ≤ k + 4 := by
  obtain ⟨rfl, hb, hc, vl', vm', xs', ms', h1, h2, h3, h4⟩ := hs
  have hc' : Chg (Lab (Her B w.heap.size) lab 0) w w' := hc.mono (fun k hk e => e.elim id (fun x => absurd hk (Nat.not_lt.2 x)))
  exact ⟨rfl, hb, _, vl', vm', xs', ms', ⟨h.j.kstep hc', h3, (h3.lt h1 h4).mono (fun k e => her_new hc.size h.j.base e.2 e.1), her_lab hc.size h.own, h1⟩, h2⟩
end Go.Proofs.Ytnclmbolfpojoaa
