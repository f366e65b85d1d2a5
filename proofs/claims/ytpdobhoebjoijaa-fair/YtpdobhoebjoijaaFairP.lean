/-
  How fair the turns of two streams are: plain, no program.
-/
import Derived.Test.YtpdobhoebjoijaaPWrt
namespace Go.Proofs.Ytpdobhoebjoijaa
/-- whose turn it is, and what went of the one (L) and the other (M) by their weights -/
def FairAt (turn : Nat) (begun : Bool) (d0 d1 Q v w L M : Nat) : Prop :=
  (turn = 0 ∧ d1 = 0 ∧ ((begun = true ∧ d0 = 0 ∧ L * w = M * v) ∨ (begun = false ∧ 0 < d0 ∧ d0 ≤ Q * v ∧ (L + d0) * w = (M + Q * w) * v))) ∨
  (turn = 1 ∧ d0 = 0 ∧ ((begun = true ∧ d1 = 0 ∧ L * w = (M + Q * w) * v) ∨ (begun = false ∧ 0 < d1 ∧ d1 ≤ Q * w ∧ L * w = (M + d1) * v)))
theorem FairAt.bound {turn : Nat} {begun : Bool} {d0 d1 Q v w L M : Nat} (h : FairAt turn begun d0 d1 Q v w L M) : M * v ≤ L * w ∧ L * w ≤ M * v + Q * v * w := by
  have e0 : (M + Q * w) * v = M * v + Q * v * w := by rw [Nat.add_mul, Nat.mul_right_comm]
  rw [← e0]
  rcases h with ⟨_, _, h⟩ | ⟨_, _, h⟩
  · rcases h with ⟨_, _, h⟩ | ⟨_, _, hd, h⟩
    · rw [h, e0]
      exact ⟨Nat.le_refl _, Nat.le_add_right _ _⟩
    · rw [e0] at *
      rw [Nat.add_mul] at h
      have := Nat.mul_le_mul_right w hd
      omega
  · rcases h with ⟨_, _, h⟩ | ⟨_, _, hd, h⟩
    · rw [h, e0]
      exact ⟨Nat.le_add_right _ _, Nat.le_refl _⟩
    · rw [h, Nat.add_mul, Nat.add_mul]
      have := Nat.mul_le_mul_right v hd
      omega
structure FI (c : Cfg) (m : Mod) (a b L M : Nat) : Prop where
  inv : m.Inv
  hc : m.c = c
  n2 : c.n = 2
  now : m.now = noB
  ctl : m.control = []
  live : m.died = 0
  l0 : (m.at 0).left + L = a
  l1 : (m.at 1).left + M = b
  c0 : (m.at 0).credit + L = 250
  c1 : (m.at 1).credit + M = 250
  fair : FairAt m.turn m.begun (m.at 0).deficit (m.at 1).deficit c.quantum (c.weight 0) (c.weight 1) L M
theorem sizes_pos {q : List ByteArray} (h : 0 < sizes q) : q ≠ [] := by rintro rfl; simp [sizes] at h
theorem head_left {q : List ByteArray} (h : q ≠ []) : (q.headD noB).size ≤ sizes q ∧ q.headD noB ∈ q := by
  cases q with
  | nil => exact absurd rfl h
  | cons x r => simp [sizes]
theorem begin_other (m : Mod) {j : Nat} (h : j ≠ m.turn) : m.begin.at j = m.at j := by
  unfold Mod.begin
  split
  · show (m.upd m.turn _).at j = _
    rw [at_upd, if_neg (fun e => h e.1.symm)]
  · rfl
theorem begin_begun (m : Mod) : m.begin.begun = false := by
  unfold Mod.begin
  split
  · rfl
  · rename_i h; simpa using h
theorem begin_rest (m : Mod) : m.begin.control = m.control ∧ m.begin.now = m.now := by
  unfold Mod.begin
  split <;> exact ⟨rfl, rfl⟩
theorem serve_step {m : Mod} (hi : m.Inv) (n2 : m.c.n = 2) (hl : m.died = 0) (hn : m.now = noB) (hc : m.control = []) {t d : Nat} (ht : m.turn = t) (hd : (if m.begun then (m.at t).deficit + m.shareOf t else (m.at t).deficit) = d)
    (hcr : (m.at t).left < (m.at t).credit) (hq : 0 < (m.at t).left) (hd0 : 0 < d) :
    ∃ (p : ByteArray) (m1 : Mod), m.next = { m1 with now := frameB 1 t p } ∧ 1 ≤ p.size ∧ p.size ≤ m.c.chunk ∧ p.size ≤ (m.at t).left ∧ p.size ≤ d ∧ m1.now = noB ∧
      (p.size < (m.at t).left → m1.Inv ∧ m1.c = m.c ∧ m1.control = [] ∧ m1.died = 0 ∧ (m1.at t).left + p.size = (m.at t).left ∧ (m1.at t).credit + p.size = (m.at t).credit ∧ (m1.at t).deficit + p.size = d ∧
        (∀ j, j ≠ t → m1.at j = m.at j) ∧ (if d = p.size then m1.turn = 1 - t ∧ m1.begun = true else m1.turn = t ∧ m1.begun = false)) := by
  subst ht
  have hlen : m.ss.length = 2 := by rw [hi.len, n2]
  have htl : m.turn < m.ss.length := by rw [hi.len]; exact hi.turn
  have hqn : (m.at m.turn).queue ≠ [] := sizes_pos hq
  have hst : (m.at m.turn).stuck = false := by
    unfold Stm.stuck
    rw [Bool.or_eq_false_iff]
    exact ⟨by simpa using hqn, by rw [beq_eq_false_iff_ne]; omega⟩
  have hnx : m.next = { m.begin.cutE with now := frameB 1 m.turn m.begin.cutB } := by
    unfold Mod.next
    rw [if_pos (by rw [hn, noB_size])]
    unfold Mod.chosen
    rw [hc]
    simp only
    rw [if_pos hl]
    unfold Mod.turns
    rw [hlen, looks_goes hst, framed_cut, (begin_c m).2.1]
  obtain ⟨b1, b2, b3, b4⟩ := begin_c m
  have hat : m.begin.at m.turn = { m.at m.turn with deficit := d } := by
    cases hb : m.begun
    · rw [begin_no hb]
      rw [hb] at hd
      have hd' : (m.at m.turn).deficit = d := hd
      rw [← hd']
    · rw [begin_yes hb, begun1_at htl]
      rw [hb] at hd
      have hd' : (m.at m.turn).deficit + m.shareOf m.turn = d := hd
      rw [← hd']
      rfl
  obtain ⟨s, hs⟩ : ∃ s : Stm, s = { m.at m.turn with deficit := d } := ⟨_, rfl⟩
  rw [← hs] at hat
  have sq : s.queue = (m.at m.turn).queue := by rw [hs]
  have sc : s.credit = (m.at m.turn).credit := by rw [hs]
  have sd : s.deficit = d := by rw [hs]
  have sl : s.left = (m.at m.turn).left := by unfold Stm.left; rw [sq]
  have hsi := hi.s m.turn hi.turn
  obtain ⟨hh1, hh2⟩ := head_left hqn
  have hhp := (hsi.msgs _ hh2).1
  rw [← sq] at hh1 hh2 hhp
  obtain ⟨n, hnd⟩ : ∃ n, s.cutN m.c.chunk = n := ⟨_, rfl⟩
  have hn1 : 1 ≤ n := by
    rw [← hnd]
    unfold Stm.cutN
    have := hi.c.c1
    omega
  obtain ⟨k1, k2, k3, k4⟩ := cutN_le s m.c.chunk
  rw [hnd] at k1 k2 k3 k4
  have hcutB : m.begin.cutB = (s.queue.headD noB).extract 0 n := by
    unfold Mod.cutB
    rw [b2, b1, hat, hnd]
  have hps : m.begin.cutB.size = n := by
    rw [hcutB, ex_size]
    omega
  have hcutE : m.begin.cutE = if (s.cut n m.begin.share).over then (m.begin.upd m.turn (s.cut n m.begin.share)).passes else m.begin.upd m.turn (s.cut n m.begin.share) := by
    unfold Mod.cutE
    simp only
    rw [b2, b1, hat, hnd]
  have hnl : n ≤ (m.at m.turn).left := by
    rw [sq] at k1 hh1
    unfold Stm.left
    omega
  have hnow1 : m.begin.cutE.now = noB := by rw [cutE_now, (begin_rest m).2, hn]
  refine ⟨m.begin.cutB, m.begin.cutE, hnx, ?_, ?_, ?_, ?_, hnow1, ?_⟩
  · omega
  · omega
  · omega
  · omega
  · intro hlt
    rw [hps] at hlt ⊢
    have hinv : m.begin.cutE.Inv := by
      have h1 := hi.next
      rw [hnx] at h1
      have h2 := h1.nows noB (by rw [noB_size]; omega)
      have e : ({ ({ m.begin.cutE with now := frameB 1 m.turn m.begin.cutB } : Mod) with now := noB } : Mod) = m.begin.cutE := by
        rw [← hnow1]
      rw [e] at h2
      exact h2
    have hcs := cut_sizes s n k1
    have hq2 : s.cutQ n ≠ [] := sizes_pos (by rw [sl] at hcs; omega)
    have hcut : s.cut n m.begin.share = { s with queue := s.cutQ n, credit := s.credit - n, deficit := d - n } := by
      unfold Stm.cut Stm.cutD
      rw [if_neg hq2, if_neg (by rw [sc]; omega), sd]
    have hov : (s.cut n m.begin.share).over = decide (d = n) := by
      unfold Stm.over
      rw [hcut]
      simp only
      rw [show (s.cutQ n).isEmpty = false by simpa using hq2, show (s.credit - n == 0) = false by rw [beq_eq_false_iff_ne, sc]; omega, Bool.false_or, Bool.or_false]
      by_cases e : d = n
      · rw [e]; simp
      · rw [decide_eq_false e, beq_eq_false_iff_ne]; omega
    have hbl : m.turn < m.begin.ss.length := by rw [b4]; exact htl
    have hats : ∀ m2 : Mod, m2.ss = (m.begin.upd m.turn (s.cut n m.begin.share)).ss → (m2.at m.turn = s.cut n m.begin.share ∧ ∀ j, j ≠ m.turn → m2.at j = m.at j) := by
      intro m2 e
      have e' : ∀ j, m2.at j = (m.begin.upd m.turn (s.cut n m.begin.share)).at j := fun j => by unfold Mod.at; rw [e]
      refine ⟨by rw [e', at_upd, if_pos ⟨rfl, hbl⟩], fun j hj => by rw [e', at_upd, if_neg (fun x => hj x.1.symm), begin_other m hj]⟩
    have hm1 : m.begin.cutE.ss = (m.begin.upd m.turn (s.cut n m.begin.share)).ss ∧ m.begin.cutE.control = m.control ∧ m.begin.cutE.died = m.died ∧ m.begin.cutE.c = m.c := by
      rw [hcutE]
      split
      · exact ⟨rfl, (begin_rest m).1, b3, b1⟩
      · exact ⟨rfl, (begin_rest m).1, b3, b1⟩
    obtain ⟨a1, a2⟩ := hats _ hm1.1
    have hl1 : (m.begin.cutE.at m.turn).left + n = (m.at m.turn).left := by
      rw [a1, hcut, ← sl]
      exact hcs
    refine ⟨hinv, hm1.2.2.2, by rw [hm1.2.1, hc], by rw [hm1.2.2.1, hl], hl1, by rw [a1, hcut]; show s.credit - n + n = _; rw [sc]; omega, by rw [a1, hcut]; show d - n + n = d; omega, a2, ?_⟩
    by_cases e : d = n
    · rw [if_pos e, hcutE, hov, decide_eq_true e, if_pos rfl]
      refine ⟨?_, rfl⟩
      show (if m.begin.turn + 1 = (m.begin.upd m.turn (s.cut n m.begin.share)).ss.length then 0 else m.begin.turn + 1) = _
      rw [len_upd, b4, b2, hlen]
      rw [hlen] at htl
      split <;> omega
    · rw [if_neg e, hcutE, hov, decide_eq_false e, if_neg (by simp)]
      exact ⟨b2, begin_begun m⟩
/-- the next frame -/
theorem FI.step {c : Cfg} {m : Mod} {a b L M : Nat} (h : FI c m a b L M) (ha : a ≤ 240) (hb : b ≤ 240) (hL : L < a) (hM : M < b) :
    ∃ (t : Nat) (p : ByteArray) (m1 : Mod), m.next = { m1 with now := frameB 1 t p } ∧ 1 ≤ p.size ∧ p.size ≤ c.chunk ∧ m1.now = noB ∧
      ((t = 0 ∧ L + p.size ≤ a ∧ (L + p.size < a → FI c m1 a b (L + p.size) M)) ∨ (t = 1 ∧ M + p.size ≤ b ∧ (M + p.size < b → FI c m1 a b L (M + p.size)))) := by
  have hcc := h.hc
  subst hcc
  have h1 := h.l0
  have h2 := h.l1
  have h3 := h.c0
  have h4 := h.c1
  rcases h.fair with ⟨ht, hd1, hf⟩ | ⟨ht, hd0, hf⟩
  · obtain ⟨d, hd⟩ : ∃ d, (if m.begun then (m.at 0).deficit + m.shareOf 0 else (m.at 0).deficit) = d := ⟨_, rfl⟩
    have hdd : 0 < d ∧ d ≤ m.c.quantum * m.c.weight 0 ∧ (L + d) * m.c.weight 1 = (M + m.c.quantum * m.c.weight 1) * m.c.weight 0 := by
      rcases hf with ⟨e1, e2, e3⟩ | ⟨e1, e2, e3, e4⟩
      · rw [e1, e2] at hd
        have hd' : m.shareOf 0 = d := by simpa using hd
        have hp := share_pos h.inv.c (i := 0) (by rw [h.n2]; omega)
        refine ⟨by omega, by rw [← hd']; exact Nat.le_refl _, ?_⟩
        rw [← hd', Nat.add_mul, Nat.add_mul, e3]
        unfold Mod.shareOf
        rw [Nat.mul_right_comm]
      · rw [e1] at hd
        have hd' : (m.at 0).deficit = d := hd
        rw [← hd']
        exact ⟨e2, e3, e4⟩
    obtain ⟨p, m1, s1, s2, s3, s4, s5, s6, s7⟩ := serve_step h.inv h.n2 h.live h.now h.ctl ht hd (by omega) (by omega) hdd.1
    refine ⟨0, p, m1, s1, s2, s3, s6, .inl ⟨rfl, by omega, fun hlt => ?_⟩⟩
    obtain ⟨r1, r2, r3, r4, r5, r6, r7, r8, r9⟩ := s7 (by omega)
    have r81 := r8 1 (by omega)
    have hsum : L + p.size + (m1.at 0).deficit = L + d := by omega
    refine ⟨r1, r2, h.n2, s6, r3, r4, by omega, by rw [r81]; exact h2, by omega, by rw [r81]; exact h4, ?_⟩
    rw [r81]
    split at r9
    · rename_i e
      have hz : (m1.at 0).deficit = 0 := by omega
      refine .inr ⟨r9.1, hz, .inl ⟨r9.2, hd1, ?_⟩⟩
      rw [← hdd.2.2, ← hsum, hz, Nat.add_zero]
    · rename_i e
      refine .inl ⟨r9.1, hd1, .inr ⟨r9.2, by omega, by omega, ?_⟩⟩
      rw [hsum]
      exact hdd.2.2
  · obtain ⟨d, hd⟩ : ∃ d, (if m.begun then (m.at 1).deficit + m.shareOf 1 else (m.at 1).deficit) = d := ⟨_, rfl⟩
    have hdd : 0 < d ∧ d ≤ m.c.quantum * m.c.weight 1 ∧ L * m.c.weight 1 = (M + d) * m.c.weight 0 := by
      rcases hf with ⟨e1, e2, e3⟩ | ⟨e1, e2, e3, e4⟩
      · rw [e1, e2] at hd
        have hd' : m.shareOf 1 = d := by simpa using hd
        have hp := share_pos h.inv.c (i := 1) (by rw [h.n2]; omega)
        refine ⟨by omega, by rw [← hd']; exact Nat.le_refl _, ?_⟩
        rw [← hd', e3]
        rfl
      · rw [e1] at hd
        have hd' : (m.at 1).deficit = d := hd
        rw [← hd']
        exact ⟨e2, e3, e4⟩
    obtain ⟨p, m1, s1, s2, s3, s4, s5, s6, s7⟩ := serve_step h.inv h.n2 h.live h.now h.ctl ht hd (by omega) (by omega) hdd.1
    refine ⟨1, p, m1, s1, s2, s3, s6, .inr ⟨rfl, by omega, fun hlt => ?_⟩⟩
    obtain ⟨r1, r2, r3, r4, r5, r6, r7, r8, r9⟩ := s7 (by omega)
    have r81 := r8 0 (by omega)
    have hsum : M + p.size + (m1.at 1).deficit = M + d := by omega
    refine ⟨r1, r2, h.n2, s6, r3, r4, by rw [r81]; exact h1, by omega, by rw [r81]; exact h3, by omega, ?_⟩
    rw [r81]
    split at r9
    · rename_i e
      have hz : (m1.at 1).deficit = 0 := by omega
      refine .inl ⟨r9.1, hz, .inl ⟨r9.2, hd0, ?_⟩⟩
      rw [hdd.2.2, ← hsum, hz, Nat.add_zero]
    · rename_i e
      refine .inr ⟨r9.1, hd0, .inr ⟨r9.2, by omega, by omega, ?_⟩⟩
      rw [hsum]
      exact hdd.2.2
theorem write_front (k : Nat) : ∀ (m : Mod) (out : ByteArray), ∃ r : List UInt8, (Mod.write k m out).1.data.toList = out.data.toList ++ r := by
  induction k with
  | zero => intro m out; exact ⟨[], by rw [List.append_nil]; rfl⟩
  | succ k ih =>
    intro m out
    by_cases h : m.next.now.size = 0
    · rw [write_none h]
      exact ⟨[], by rw [List.append_nil]⟩
    · rw [write_one h]
      obtain ⟨r, hr⟩ := ih m.next.gives (out ++ m.next.now.extract 0 1)
      refine ⟨(m.next.now.extract 0 1).data.toList ++ r, ?_⟩
      rw [hr, ByteArray.data_append, Array.toList_append, List.append_assoc]
theorem frame_list (t : Nat) (p : ByteArray) : ∃ x, (frameB 1 t p).data.toList = 1 :: UInt8.ofNat t :: UInt8.ofNat p.size :: x :: p.data.toList := by
  unfold frameB hdr
  exact ⟨_, by rw [ByteArray.data_append, Array.toList_append]; rfl⟩
/-- what is written begins with the frame -/
theorem writes_frame {m m1 : Mod} {t k : Nat} {p out : ByteArray} (h : m.next = { m1 with now := frameB 1 t p }) (hn : m1.now = noB) (hk : 4 + p.size ≤ k) :
    Mod.write k m out = Mod.write (k - (4 + p.size)) m1 (out ++ frameB 1 t p) := by
  have hz : m.next.now.size = 4 + p.size := by rw [h]; exact frameB_size 1 t p
  rw [write_next (by omega), if_neg (by omega)]
  have := write_chunk (4 + p.size) (k - (4 + p.size)) m.next out (by omega)
  rw [show 4 + p.size + (k - (4 + p.size)) = k by omega] at this
  rw [this]
  have e1 : m.next.now.extract 0 (4 + p.size) = frameB 1 t p := by
    rw [← hz, extract_all, h]
  have e2 : m.next.now.extract (4 + p.size) m.next.now.size = noB := ba_none (by rw [ex_size]; omega)
  rw [e1, e2, h]
  congr 1
  rw [← hn]
/-- two streams of an end on which nothing went yet -/
structure Pre (c : Cfg) (m : Mod) (x : Nat → Nat) : Prop where
  inv : m.Inv
  hc : m.c = c
  now : m.now = noB
  ctl : m.control = []
  live : m.died = 0
  turn : m.turn = 0
  begun : m.begun = true
  s : ∀ i, i < 2 → (m.at i).left = x i ∧ (m.at i).credit = 250 ∧ (m.at i).deficit = 0 ∧ (m.at i).noSend = false
theorem queued_two {m : Mod} (h : m.ss.length = 2) : m.queued = (m.at 0).left + (m.at 1).left := by
  obtain ⟨c, ss, ti, tu, be, co, no, inn, di⟩ := m
  simp only at h
  match ss, h with
  | [s0, s1], _ => simp [Mod.queued, Mod.at, sumL]
theorem one_proper {p : ByteArray} (h : p.size ≤ 15) : properB [p] = true := proper_mk (by simp) (by intro s hs; simp at hs; subst hs; exact h)
theorem one_size (p : ByteArray) : (packed [p]).size = p.size + 2 := by
  show (packL [p]).toArray.size = _
  rw [List.size_toArray, packL_eq, List.length_cons, List.length_append, lens_len]
  simp only [flat, List.flatMap_cons, List.flatMap_nil, List.append_nil, List.length_singleton]
  rw [ba_len]
  omega
theorem Pre.submit {c : Cfg} {m : Mod} {x : Nat → Nat} (h : Pre c m x) (hn : c.n = 2) (hw : c.window = 250) (hq : c.queue = 600) {i : Nat} (hi : i < 2) {p : ByteArray} (hp : p.size ≤ 15) (hx : ∀ j, j < 2 → x j ≤ 240) :
    m.submitE i [p] = 0 ∧ Pre c (m.submit i [p]) (fun j => if j = i then x j + (p.size + 2) else x j) := by
  have hlen : m.ss.length = 2 := by rw [h.inv.len, h.hc, hn]
  have e0 : m.submitE i [p] = 0 := by
    unfold Mod.submitE
    have his : m.is i = true := by
      unfold Mod.is
      rw [hlen]
      simp
      omega
    have hqd := queued_two hlen
    rw [(h.s 0 (by omega)).1, (h.s 1 (by omega)).1] at hqd
    have := hx 0 (by omega)
    have := hx 1 (by omega)
    rw [if_neg (by simpa using h.live), if_neg (by rw [his]; simp), if_neg (by rw [one_proper hp, one_size, h.hc, hw]; simp; omega), Int.toNat_natCast, if_neg (by rw [(h.s i hi).2.2.2]; simp), if_neg (by rw [one_size, h.hc, hq, hqd]; omega)]
  refine ⟨e0, ?_⟩
  have e1 : m.submit i [p] = m.upd i { m.at i with queue := (m.at i).queue ++ [packed [p]] } := by
    unfold Mod.submit
    rw [if_pos e0, Int.toNat_natCast]
  refine ⟨h.inv.submit i [p], by rw [e1]; exact h.hc, by rw [e1]; exact h.now, by rw [e1]; exact h.ctl, by rw [e1]; exact h.live, by rw [e1]; exact h.turn, by rw [e1]; exact h.begun, fun j hj => ?_⟩
  rw [e1, at_upd]
  by_cases e : i = j
  · subst e
    rw [if_pos ⟨rfl, by omega⟩]
    obtain ⟨k1, k2, k3, k4⟩ := h.s i hi
    refine ⟨?_, k2, k3, k4⟩
    show sizes ((m.at i).queue ++ [packed [p]]) = if i = i then _ else _
    rw [sizes_append, if_pos rfl, ← k1]
    show sizes _ + ((packed [p]).size + 0) = _
    rw [one_size]
    rfl
  · rw [if_neg (fun x => e x.1)]
    obtain ⟨k1, k2, k3, k4⟩ := h.s j hj
    exact ⟨by show _ = if j = i then _ else _; rw [if_neg (fun x => e x.symm)]; exact k1, k2, k3, k4⟩
theorem Pre.fresh {c : Cfg} (hc : c.Ok) (hn : c.n = 2) (hw : c.window = 250) : Pre c (Mod.fresh c) (fun _ => 0) :=
  ⟨Mod.Inv.fresh hc, rfl, rfl, rfl, rfl, rfl, rfl, fun i hi => by rw [fresh_at c (by omega)]; exact ⟨rfl, hw, rfl, rfl⟩⟩
theorem Pre.fi {c : Cfg} {m : Mod} {x : Nat → Nat} (h : Pre c m x) (hn : c.n = 2) : FI c m (x 0) (x 1) 0 0 := by
  obtain ⟨a1, a2, a3, a4⟩ := h.s 0 (by omega)
  obtain ⟨b1, b2, b3, b4⟩ := h.s 1 (by omega)
  exact ⟨h.inv, h.hc, hn, h.now, h.ctl, h.live, a1, b1, a2, b2, .inl ⟨h.turn, b3, .inl ⟨h.begun, a3, by simp⟩⟩⟩
end Go.Proofs.Ytpdobhoebjoijaa
