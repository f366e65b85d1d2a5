/-
  How much an end has to send: plain, no program.
-/
import Derived.Test.YtnclmbolfpojoaaPWrt
namespace Go.Proofs.Ytnclmbolfpojoaa
/-- no more than so many bytes can be written -/
def Mod.vol (m : Mod) : Nat := m.now.size + sizes m.control + 5 * m.queued
theorem begin_queued (m : Mod) (hi : m.turn < m.ss.length) : m.begin.queued = m.queued := by
  unfold Mod.begin
  split
  · have := queued_upd_eq m m.turn { m.at m.turn with deficit := (m.at m.turn).deficit + m.share } hi
    show (m.upd m.turn { m.at m.turn with deficit := (m.at m.turn).deficit + m.share }).queued = _
    have e : ({ m.at m.turn with deficit := (m.at m.turn).deficit + m.share } : Stm).left = (m.at m.turn).left := rfl
    omega
  · rfl
theorem looks_vol (k : Nat) : ∀ m : Mod, m.Inv → m.died = 0 → m.now.size = 0 → (m.looks k).vol ≤ m.vol := by
  induction k with
  | zero => intro m _ _ _; exact Nat.le_refl _
  | succ k ih =>
    intro m hi hl hn
    have htl : m.turn < m.ss.length := by rw [hi.len]; exact hi.turn
    cases hst : (m.at m.turn).stuck
    · rw [looks_goes hst, framed_cut]
      obtain ⟨b1, b2, b3, b4⟩ := begin_c m
      obtain ⟨i1, i2, i3⟩ := hi.begins hst
      have hpos := cutB_pos i1 (by rw [b3]; exact hl) i2 i3
      have hbt : m.begin.turn < m.begin.ss.length := by rw [b2, b4]; exact htl
      obtain ⟨s, hs⟩ : ∃ s, m.begin.at m.begin.turn = s := ⟨_, rfl⟩
      have hq0 := begin_queued m htl
      have hcb : m.begin.cutB.size = s.cutN m.begin.c.chunk := by
        unfold Mod.cutB
        rw [hs, ex_size]
        have := (cutN_le s m.begin.c.chunk).1
        omega
      obtain ⟨n, hnn⟩ : ∃ n, s.cutN m.begin.c.chunk = n := ⟨_, rfl⟩
      have hcs := cut_sizes s n (by rw [← hnn]; exact (cutN_le s m.begin.c.chunk).1)
      have hqE : m.begin.cutE.queued + n = m.begin.queued := by
        have h1 := queued_upd_eq m.begin m.begin.turn (s.cut n m.begin.share) hbt
        rw [hs] at h1
        have e : (s.cut n m.begin.share).left = sizes (s.cutQ n) := rfl
        have h2 : m.begin.cutE.queued = (m.begin.upd m.begin.turn (s.cut n m.begin.share)).queued := by
          unfold Mod.cutE
          simp only
          rw [hs, hnn]
          split <;> rfl
        unfold Stm.left at h1 hcs
        rw [h2]
        unfold Stm.left at e
        omega
      have hctl : m.begin.cutE.control = m.control := by
        unfold Mod.cutE
        simp only
        have : m.begin.control = m.control := by unfold Mod.begin; split <;> rfl
        split <;> exact this
      rw [hcb, hnn] at hpos
      show (frameB 1 m.begin.turn m.begin.cutB).size + sizes m.begin.cutE.control + 5 * m.begin.cutE.queued ≤ m.now.size + sizes m.control + 5 * m.queued
      rw [frameB_size, hctl, hcb, hnn, hn]
      omega
    · rw [looks_stuck hst]
      have h1 := ih _ (hi.idles hl hst) hl hn
      have h2 : ((m.upd m.turn (m.at m.turn).idle).passes).vol = m.vol := by
        have h3 := queued_upd_eq m m.turn (m.at m.turn).idle htl
        have e : (m.at m.turn).idle.left = (m.at m.turn).left := by unfold Stm.left; rw [(idle_facts (m.at m.turn)).1]
        have h4 : (m.upd m.turn (m.at m.turn).idle).queued = m.queued := by omega
        show m.now.size + sizes m.control + 5 * (m.upd m.turn (m.at m.turn).idle).queued = _
        rw [h4]
        rfl
      rw [h2] at h1
      exact h1
theorem next_vol {m : Mod} (hi : m.Inv) (hl : m.died = 0) : m.next.vol ≤ m.vol := by
  unfold Mod.next
  split
  · rename_i hn
    unfold Mod.chosen
    cases hc : m.control with
    | nil =>
      simp only
      rw [if_pos hl]
      exact looks_vol _ m hi hl hn
    | cons f r =>
      show f.size + sizes r + 5 * m.queued ≤ m.now.size + sizes m.control + 5 * m.queued
      rw [hc, sizes]
      omega
  · exact Nat.le_refl _
theorem write_vol (k : Nat) : ∀ (m : Mod) (out : ByteArray), m.Inv → m.died = 0 → (Mod.write k m out).1.size ≤ out.size + m.vol := by
  induction k with
  | zero => intro m out _ _; exact Nat.le_add_right _ _
  | succ k ih =>
    intro m out hi hl
    by_cases h : m.next.now.size = 0
    · rw [write_none h]
      exact Nat.le_add_right _ _
    · rw [write_one h]
      have h1 := ih m.next.gives (out ++ m.next.now.extract 0 1) hi.next.gives (by show m.next.died = 0; rw [next_died]; exact hl)
      have h2 := next_vol hi hl
      rw [ByteArray.size_append, ex_size] at h1
      have h3 : m.next.gives.vol + 1 = m.next.vol := by
        show (m.next.now.extract 1 m.next.now.size).size + sizes m.next.control + 5 * m.next.queued + 1 = m.next.now.size + sizes m.next.control + 5 * m.next.queued
        rw [ex_size]
        omega
      omega
theorem sizes_le5 {l : List ByteArray} (h : ∀ f ∈ l, 0 < f.size ∧ f.size ≤ 5) : sizes l ≤ 5 * l.length := by
  induction l with
  | nil => simp [sizes]
  | cons a r ih =>
    have h1 := h a (by simp)
    have h2 := ih (fun x hx => h x (by simp [hx]))
    rw [sizes, List.length_cons]
    omega
theorem Mod.Good.vol {N : Nat} {m : Mod} (h : m.Good N) (hN : N ≤ 1099511627780) : m.vol ≤ 100000000000000 := by
  have h1 := h.inv.now
  have h2 := sizes_le5 h.inv.ctl
  have h3 := h.small.ctl
  have h4 := h.inv.q
  have h5 := h.inv.c.qu600
  unfold Mod.vol
  omega
end Go.Proofs.Ytnclmbolfpojoaa
