/-
  The program's Write.
-/
import Derived.Test.YtnclmbolfpojoaaPOut
namespace Go.Proofs.Ytnclmbolfpojoaa
open Go.RowKit
/-- a stream that has nothing in its queue has no Deficit -/
def Mod.Zero (m : Mod) : Prop := ∀ i, i < m.ss.length → (m.at i).queue = [] → (m.at i).deficit = 0
theorem ba_none {b : ByteArray} (h : b.size = 0) : b = noB := ba_zero h
theorem cutB_pos {m : Mod} (h : m.Inv) (hl : m.died = 0) (hb : m.begun = false) (hst : (m.at m.turn).stuck = false) : m.cutB.size ≠ 0 := by
  have hs := h.s m.turn h.turn
  have hq : (m.at m.turn).queue ≠ [] := fun e => by rw [(stuck_iff _).2 (.inl e)] at hst; cases hst
  have hc : (m.at m.turn).credit ≠ 0 := fun e => by rw [(stuck_iff _).2 (.inr e)] at hst; cases hst
  have hm := h.mid hb hl
  rcases hm with hm | ⟨_, _, hm⟩
  · exact absurd (hs.silent hm).1 hq
  · unfold Mod.cutB
    rw [ex_size]
    cases hx : (m.at m.turn).queue with
    | nil => exact absurd hx hq
    | cons f r =>
      have hf := hs.msgs f (by rw [hx]; exact List.mem_cons_self ..)
      have h1 := h.c.c1
      have e : (m.at m.turn).cutN m.c.chunk = min (min (min f.size m.c.chunk) (m.at m.turn).credit) (m.at m.turn).deficit := by unfold Stm.cutN; rw [hx]; rfl
      rw [e]
      show min _ f.size - 0 ≠ 0
      omega
theorem begin_now (m : Mod) : m.begin.now = m.now := by unfold Mod.begin; split <;> rfl
theorem cutE_now (m : Mod) : m.cutE.now = m.now := by unfold Mod.cutE; simp only; split <;> rfl
theorem lookE_eq (k : Nat) : ∀ m : Mod, m.Inv → m.died = 0 → m.Zero → m.looks k = (if (m.lookE k).2.2.size = 0 then (m.lookE k).1 else { (m.lookE k).1 with now := frameB 1 (m.lookE k).2.1 (m.lookE k).2.2 }) ∧ (m.lookE k).1.now = m.now := by
  induction k with
  | zero => intro m _ _ _; exact ⟨rfl, rfl⟩
  | succ k ih =>
    intro m hi hl hz
    cases hst : (m.at m.turn).stuck
    · rw [looks_goes hst, Mod.lookE, hst]
      obtain ⟨b1, b2, b3⟩ := hi.begins hst
      have hp := cutB_pos b1 (by rw [(begin_c m).2.2.1]; exact hl) b2 b3
      simp only [Bool.false_eq_true, if_false]
      rw [if_neg hp, framed_cut, (begin_c m).2.1]
      exact ⟨rfl, by rw [cutE_now, begin_now]⟩
    · obtain ⟨q1, q2⟩ := hi.passStuck hl hst (hz m.turn (by rw [hi.len]; exact hi.turn))
      rw [looks_stuck hst, q2, Mod.lookE, hst]
      simp only [if_true]
      exact ih m.passes q1 hl hz
theorem chosen_pop {m : Mod} (hi : m.Inv) (hl : m.died = 0) (hz : m.Zero) (hn : m.now.size = 0) : m.chosen = { m.popE with now := m.popB } := by
  cases hct : m.control with
  | cons f r =>
    have e1 : m.chosen = { m with now := f, control := r } := by unfold Mod.chosen; rw [hct]
    have e2 : m.popE = { m with control := r } := by unfold Mod.popE; rw [hct]
    have e3 : m.popB = f := by unfold Mod.popB; rw [hct]
    rw [e1, e2, e3]
  | nil =>
    have e1 : m.chosen = m.looks m.ss.length := by unfold Mod.chosen; rw [hct]; simp only; rw [if_pos hl]; rfl
    have e2 : m.popE = (m.lookE m.ss.length).1 := by unfold Mod.popE; rw [hct]
    have e3 : m.popB = m.dataB := by unfold Mod.popB; rw [hct]
    obtain ⟨h1, h2⟩ := lookE_eq m.ss.length m hi hl hz
    rw [e1, e2, e3, h1]
    unfold Mod.dataB
    split
    · have : (m.lookE m.ss.length).1.now = noB := by rw [h2]; exact ba_none hn
      rw [← this]
    · rfl
theorem ex_all0 (b : ByteArray) : b.extract 0 0 = noB := ba_zero (by rw [ex_size]; omega)
theorem write_chunk (n : Nat) : ∀ (k : Nat) (m : Mod) (out : ByteArray), n ≤ m.now.size → Mod.write (n + k) m out = Mod.write k { m with now := m.now.extract n m.now.size } (out ++ m.now.extract 0 n) := by
  induction n with
  | zero =>
    intro k m out _
    have e1 : m.now.extract 0 m.now.size = m.now := extract_all m.now
    have e2 : out ++ m.now.extract 0 0 = out := by
      rw [ex_all0]
      apply ba_ext
      simp [noB, ByteArray.data_append]
    rw [e1, e2, Nat.zero_add]
  | succ n ih =>
    intro k m out hn
    have hnx : m.next = m := by unfold Mod.next; rw [if_neg (by omega)]
    rw [show n + 1 + k = (n + k) + 1 by omega, write_one (by rw [hnx]; omega), hnx, ih k m.gives _ (by show n ≤ (m.now.extract 1 m.now.size).size; rw [ex_size]; omega)]
    have e1 : (m.now.extract 1 m.now.size).extract n (m.now.extract 1 m.now.size).size = m.now.extract (n + 1) m.now.size := by
      apply ba_ext
      rw [Lib.extract_data, Lib.extract_data, Lib.extract_data, ex_size]
      rw [List.drop_take, List.drop_drop, List.take_take]
      congr 1
      · omega
      · rw [Nat.add_comm]
    have e2 : out ++ m.now.extract 0 1 ++ (m.now.extract 1 m.now.size).extract 0 n = out ++ m.now.extract 0 (n + 1) := by
      apply ba_ext
      have hl := ba_length m.now
      simp only [ByteArray.data_append, Array.toList_append, Lib.extract_data, List.drop_zero, Nat.sub_zero, List.append_assoc]
      congr 1
      rw [List.take_take, Nat.min_eq_left (by omega), Nat.add_comm n 1, List.take_add]
    show Mod.write k { m with now := (m.now.extract 1 m.now.size).extract n (m.now.extract 1 m.now.size).size } (out ++ m.now.extract 0 1 ++ (m.now.extract 1 m.now.size).extract 0 n) = _
    rw [e1, e2]
theorem write_next {m : Mod} {k : Nat} {out : ByteArray} (hk : 0 < k) : Mod.write k m out = if m.next.now.size = 0 then (out, m.next) else Mod.write k m.next out := by
  obtain ⟨j, rfl⟩ : ∃ j, k = j + 1 := ⟨k - 1, by omega⟩
  split
  · rename_i h
    exact write_none h
  · rename_i h
    have hnx : m.next.next = m.next := by
      rw [Mod.next, if_neg h]
    rw [write_one h, write_one (by rw [hnx]; exact h), hnx]
theorem write_grows (k : Nat) : ∀ (m : Mod) (out : ByteArray), out.size ≤ (Mod.write k m out).1.size ∧ (Mod.write k m out).1.size ≤ out.size + k := by
  induction k with
  | zero => intro m out; exact ⟨Nat.le_refl _, Nat.le_refl _⟩
  | succ k ih =>
    intro m out
    by_cases h : m.next.now.size = 0
    · rw [write_none h]
      exact ⟨Nat.le_refl _, Nat.le_add_right _ _⟩
    · rw [write_one h]
      obtain ⟨a, b⟩ := ih m.next.gives (out ++ m.next.now.extract 0 1)
      rw [ByteArray.size_append, ex_size] at a b
      omega
theorem builder_keeps {B b : Nat} {xs : List Value} {w w' : World} {F : Nat → Prop} (h : Lib.IsBuilder 84 5 B b xs w) (hc : Chg F w w') (hF : ∀ k, F k → k < B) : Lib.IsBuilder 84 5 B b xs w' := by
  have key : ∀ p, Lib.BuilderAt 84 5 B b p xs w → Lib.BuilderAt 84 5 B b p xs w' := by
    rintro p ⟨h1, v, h2, h3, h4⟩
    refine ⟨h1, v, hc.keeps h2 (fun e => absurd (hF b e) (by omega)), ⟨h3.1, ?_⟩, h4⟩
    rcases h3.2 with hn | ⟨g, cap, cur, e, hB, hg, rest⟩
    · exact .inl hn
    · exact .inr ⟨g, cap, cur, e, hB, hc.keeps hg (fun e => absurd (hF g e) (by omega)), rest⟩
  exact h.imp (key _) (key _)
theorem blen_calls (B b : Nat) (l : List UInt8) (w : World) (h : Lib.IsBuilder 84 5 B b (Lib.byteCells l) w) : Calls Try.prog 51 #[.pointer (some ⟨b, 0, none⟩)] w fun e w' => e = .returned (.int .i64 l.length) ∧ w' = w := by
  obtain ⟨v, hv, hs⟩ : ∃ v, w.cell? ⟨b, 1, none⟩ = some v ∧ ∃ a c, v = .slice a l.length c := by
    have key : ∀ p, Lib.BuilderAt 84 5 B b p (Lib.byteCells l) w → ∃ v, w.cell? ⟨b, 1, none⟩ = some v ∧ ∃ a c, v = .slice a l.length c := by
      rintro p ⟨h1, v, h2, h3, h4⟩
      refine ⟨v, by rw [Lib.cell_of_heap h2]; rfl, ?_⟩
      rw [Lib.byteCells_length] at h3
      rcases h3.2 with ⟨e, e2⟩ | ⟨g, cap, cur, e, _⟩
      · exact ⟨none, 0, by rw [e, e2]⟩
      · exact ⟨_, cap, e⟩
    rcases h with h | h
    · exact key _ h
    · exact key _ h
  obtain ⟨a, c, rfl⟩ := hs
  clear h
  go_enter Try.func51, Try.ntmps51
  go_wp2
  go_ret
  exact ⟨rfl, rfl⟩
def OutPost (w : World) (F : Nat → Prop) (g : Nat) (r : ByteArray × Mod) (e : Ending) (w' : World) : Prop := e = .returned (.string r.1) ∧ PEnd w' F g r.2 ∧ Chg F w w'
theorem popE_facts {m : Mod} (hi : m.Inv) (hl : m.died = 0) (hz : m.Zero) (hn : m.now.size = 0) : m.next = { m.popE with now := m.popB } := by
  unfold Mod.next
  rw [if_pos hn]
  exact chosen_pop hi hl hz hn
theorem next_died (m : Mod) : m.next.died = m.died := (Mod.Same.next m).died
theorem PEnd.zeros {w : World} {F : Nat → Prop} {g : Nat} {m : Mod} (h : PEnd w F g m) (hl : m.died = 0) : m.Zero := by
  obtain ⟨lab, gm, vW, vC, bs, h⟩ := h
  intro i hi
  exact h.zero hl i (by rw [h.len]; exact hi)
/-- the rest of the frame that is given has turned -/
theorem PEnd.setNow {w : World} {F : Nat → Prop} {g : Nat} {m : Mod} (h : PEnd w F g m) (b : ByteArray) : PEnd (w.setCell ⟨g, 13, none⟩ (.string b)) F g { m with now := b } ∧ Chg F w (w.setCell ⟨g, 13, none⟩ (.string b)) := by
  obtain ⟨lab, gm, vW, vC, bs, h⟩ := h
  have hch : Chg (fun k => k = g) w (w.setCell ⟨g, 13, none⟩ (.string b)) := Chg.setCell (F := fun k => k = g) w ⟨g, 13, none⟩ _ rfl
  refine ⟨⟨lab, gm, vW, vC, bs, h.setObj { m with now := b } hch ?_ rfl rfl rfl rfl rfl⟩, hch.mono (by rintro k _ rfl; exact h.own.1)⟩
  simp [World.setCell, Array.getElem?_modify, h.obj, peCells]
theorem PEnd.now {w : World} {F : Nat → Prop} {g : Nat} {m : Mod} (h : PEnd w F g m) : w.cell? ⟨g, 13, none⟩ = some (.string m.now) ∧ w.frozen? ⟨g, 13, none⟩ = false ∧ F g ∧ g < w.heap.size := by
  obtain ⟨lab, gm, vW, vC, bs, h⟩ := h
  exact ⟨(pe_cells h.obj).2.2.2.2.2.2.2.2.2.2.2.2.2.1, unfrozen h.obj 13, h.own.1, heap_some h.obj⟩
theorem Mod.Inv.nows {m : Mod} (h : m.Inv) (b : ByteArray) (hb : b.size ≤ 12) : ({ m with now := b } : Mod).Inv := ⟨h.c, h.len, h.turn, h.s, h.d, h.mid, h.q, hb, h.ctl, h.inn, h.died, h.dead⟩
theorem wrap_sub (a : Int) (b : Nat) (h0 : (b : Int) ≤ a) (h : a ≤ 9223372036854775807) : IntKind.i64.wrap (a - (b : Int)) = a - (b : Int) := by
  simp [IntKind.wrap, IntKind.signed, IntKind.bits]
  omega
theorem chg_low {B : Nat} {w w1 : World} (h : Below B w w1) : Chg (fun k => B ≤ k) w w1 := ⟨h.os, h.tape, h.output, h.size, fun k _ hn => h.block k (by omega)⟩
/-- how long a builder's text is -/
def builderLen (w : World) (b : Nat) : Nat := match w.cell? ⟨b, 1, none⟩ with | some (.slice _ n _) => n | _ => 0
theorem builderLen_eq {B b : Nat} {l : List UInt8} {w : World} (h : Lib.IsBuilder 84 5 B b (Lib.byteCells l) w) : builderLen w b = l.length := by
  have key : ∀ p, Lib.BuilderAt 84 5 B b p (Lib.byteCells l) w → builderLen w b = l.length := by
    rintro p ⟨h1, v, h2, h3, h4⟩
    have hc : w.cell? ⟨b, 1, none⟩ = some v := by rw [Lib.cell_of_heap h2]; rfl
    rw [Lib.byteCells_length] at h3
    unfold builderLen
    rw [hc]
    rcases h3.2 with ⟨e, e2⟩ | ⟨g, cap, cur, e, _⟩
    · rw [e, e2]
    · rw [e]
  rcases h with h | h
  · exact key _ h
  · exact key _ h
set_option maxHeartbeats 4000000 in
set_option maxRecDepth 100000 in
/-- Write of the outbox -/
theorem pout' {w : World} {F : Nat → Prop} {g : Nat} {m : Mod} (h : PEnd w F g m) (hi : m.Inv) (hl : m.died = 0) (hF : ∀ k, F k → k < w.heap.size) (most : Int) (hmost : most ≤ 9223372036854775807) (hsz : (Mod.write most.toNat m noB).1.size ≤ 100000000000000) :
    Calls Try.prog 30 #[.pointer (some ⟨g, 13, none⟩), .int .i64 most, .func (.func 31) #[ptrV g] #[]] w fun e w' => OutPost w F g (Mod.write most.toNat m noB) e w' := by
  obtain ⟨R, hR⟩ : ∃ R, Mod.write most.toNat m noB = R := ⟨_, rfl⟩
  rw [hR] at hsz ⊢
  have H := hid h
  have HI := hid hi
  have HL := hid hl
  have HF := hid hF
  have HR := hid hR
  have HSZ := hid hsz
  have hB0 := Lib.fresh_isBuilder 84 5 w
  have HB0 := hid hB0
  have HP0 : Hid (∀ o, PEnd (w.alloc o) F g m) := fun o => h.keeps (G := fun _ => False) (Chg.alloc w o) (fun _ _ => id)
  clear h hi hl hF hR hsz hB0
  unfold ptrV
  go_enter Try.func30, Try.ntmps30
  go_wp2
  go_loopw [8] (fun _ wr => ∃ (out : ByteArray) (mj : Mod), Mod.write (most.toNat - out.size) mj out = R ∧ out.size ≤ most.toNat ∧ mj.Inv ∧ mj.died = 0 ∧ PEnd wr F g mj ∧ Chg F w wr ∧ Lib.IsBuilder 84 5 w.heap.size w.heap.size (Lib.byteCells out.data.toList) wr) (fun _ wr => most.toNat - builderLen wr w.heap.size)
  case atStart => exact ⟨noB, m, HR.out, Nat.zero_le _, HI.out, HL.out, HP0.out _, Chg.alloc w _, HB0.out⟩
  case round =>
    clear H HI HL HR HB0 HP0
    obtain ⟨out, mj, hR, ho, hI, hL, hP, hC, hB⟩ := hrel
    have HR := hid hR
    have HI := hid hI
    have HL := hid hL
    have HP := hid hP
    have HC := hid hC
    have HB := hid hB
    have HBL : Hid (builderLen wr w.heap.size = out.size) := by rw [← ba_length]; exact builderLen_eq hB
    have hlen := blen_calls _ _ _ _ hB
    rw [ba_length] at hlen
    have HLN := hid hlen
    clear hR hI hL hP hC hB hlen
    by_cases hlt : (out.size : Int) < most
    · by_cases hn0 : mj.now.size = 0
      · have hmn := popE_facts HI.out HL.out (PEnd.zeros HP.out HL.out) hn0
        have HMN := hid hmn
        obtain ⟨c13, _, hgF0, _⟩ := PEnd.now HP.out
        have en : mj.now = ⟨#[]⟩ := ba_zero hn0
        rw [en] at c13
        have HNX := hid (pnext_calls HP.out HI.out HL.out)
        have hRX0 := HR.out
        rw [write_next (by omega)] at hRX0
        have HRX0 := hid hRX0
        have HIN : Hid mj.next.Inv := HI.out.next
        have HLN0 : Hid (mj.next.died = 0) := (next_died mj).trans HL.out
        unfold ptrV at HNX
        clear hmn hRX0 en hn0
        go_wp2_with fail
        refine HLN.out.mono ?_
        rintro e w1 ⟨rfl, hw⟩
        replace hw := hw.symm
        subst hw
        go_wp2_with fail
        refine HNX.out.mono ?_
        rintro e w1 ⟨rfl, hp1, hc1⟩
        have hp1' : PEnd w1 F g mj.popE := hp1
        obtain ⟨q1, q2⟩ := PEnd.setNow hp1' mj.popB
        rw [← HMN.out] at q1
        have hpb : mj.popB = mj.next.now := by rw [HMN.out]
        rw [hpb] at q1 q2 ⊢
        obtain ⟨c13', z13', _, hgl1⟩ := PEnd.now hp1'
        have HB1 := hid (builder_keeps HB.out (hc1.trans' q2) HF.out)
        have HCW : Hid (Chg F w (w1.setCell ⟨g, 13, none⟩ (.string mj.next.now))) := HC.out.trans' (hc1.trans' q2)
        have HPW := hid q1
        clear hp1 hc1 hp1' q1 q2 hpb c13 HP HC HB HR HI HL HLN HNX
        obtain ⟨mx, hmx⟩ : ∃ mx, mj.next = mx := ⟨_, rfl⟩
        rw [hmx] at HRX0 HIN HLN0 HB1 HCW HPW ⊢
        clear HMN hmx
        by_cases hne0 : mx.now.size = 0
        · have hR2 := HRX0.out
          rw [if_pos hne0] at hR2
          have HR2 := hid hR2
          have en := ba_zero hne0
          have HST := hid (string_calls w.heap.size w.heap.size out.data.toList _ HB1.out HCW.out.size)
          rw [en] at HPW HCW HB1 HST ⊢
          clear hR2 en hne0 HRX0
          go_wp2_with fail
          refine HST.out.mono ?_
          rintro e w2 ⟨rfl, hb2⟩
          have HB2 := hid hb2
          clear hb2
          go_wp2_with fail
          go_ret
          have e := HR2.out
          subst e
          exact ⟨rfl, PEnd.keeps HPW.out (chg_low HB2.out) (fun k hk => by have := HF.out k hk; omega), HCW.out.trans ((chg_low HB2.out).mono (fun _ _ e => Or.inr e))⟩
        · have hR2 := HRX0.out
          rw [if_neg hne0] at hR2
          have HRX := hid hR2
          clear hR2 HRX0
          have hne1 := not_empty mx.now (by omega)
          go_wp2_with fail
          generalize w1.setCell ⟨g, 13, none⟩ (.string mx.now) = W at *
          have HPX := HPW
          have HCX := HCW
          have HBX := HB1
          have HIX := HIN
          have HLX := HLN0
          have HNZ := hid hne0
          clear hne0 hne1 c13' z13' HPW HCW HB1 HIN HLN0 hgl1
          have hnz : ¬ mx.now.size = 0 := HNZ.out
          have hne := not_empty mx.now (by omega)
          obtain ⟨c13, z13, hgF, hgl⟩ := PEnd.now HPX.out
          obtain ⟨n, hn⟩ : ∃ n, min mx.now.size (most.toNat - out.size) = n := ⟨_, rfl⟩
          have hn1 : n ≤ mx.now.size := by omega
          have hn2 : n ≤ most.toNat - out.size := by omega
          have hn3 : 1 ≤ n := by omega
          have hnI : min (mx.now.size : Int) (IntKind.i64.wrap (most - (out.size : Int))) = (n : Int) := by rw [wrap_sub _ _ (by omega) hmost]; omega
          have HNI := hid hnI
          have hR2 := HRX.out
          rw [show most.toNat - out.size = n + (most.toNat - out.size - n) by omega, write_chunk n _ mx out hn1] at hR2
          have hgr := (write_grows (most.toNat - out.size - n) { mx with now := mx.now.extract n mx.now.size } (out ++ mx.now.extract 0 n)).1
          rw [hR2] at hgr
          have hz1 : (out ++ mx.now.extract 0 n).size = out.size + n := by rw [ByteArray.size_append, ex_size]; omega
          rw [hz1] at hgr
          have HR2 : Hid (Mod.write (most.toNat - (out ++ mx.now.extract 0 n).size) { mx with now := mx.now.extract n mx.now.size } (out ++ mx.now.extract 0 n) = R) := by
            show _ = _
            rw [hz1, show most.toNat - (out.size + n) = most.toNat - out.size - n by omega]
            exact hR2
          have hlen2 : out.data.toList.length + (mx.now.extract 0 n).size ≤ 100000000000000 := by
            rw [ba_length, ex_size]
            have := HSZ.out
            omega
          have HZ1 := hid hz1
          have hwb : w.heap.size ≤ W.heap.size := HCX.out.size
          have HLEN : Hid (Calls Try.prog 51 #[.pointer (some ⟨w.heap.size, 0, none⟩)] W fun e w' => e = .returned (.int .i64 out.data.toList.length) ∧ w' = W) := blen_calls _ _ _ _ HBX.out
          have HLEN' : Hid (∀ q, Calls Try.prog 51 #[.pointer (some ⟨w.heap.size, 0, none⟩)] (W.drewN q) fun e w' => e = .returned (.int .i64 out.size) ∧ w' = W.drewN q) := by
            intro q
            have := blen_calls _ _ _ (W.drewN q) (show Lib.IsBuilder 84 5 w.heap.size w.heap.size (Lib.byteCells out.data.toList) (W.drewN q) from HBX.out)
            rw [ba_length] at this
            exact this
          clear hn hnI hR2 hz1 HLEN
          go_wp2
          go_region_held3 (fun w' => w'.cell? ⟨g, 13, none⟩ = some (.string mx.now))
            (first
              | (go_keep; done)
              | exact c13)
            (first
              | (go_at_call 51
                 refine (HLEN'.out 1).mono ?_
                 rintro e w' ⟨rfl, rfl⟩))
          rw [HNI.out]
          have HBD : Hid (Lib.IsBuilder 84 5 w.heap.size w.heap.size (Lib.byteCells out.data.toList) (W.drewN 1)) := HBX.out
          have HPD : Hid (PEnd (W.drewN 1) F g mx) := PEnd.keeps HPX.out (G := fun _ => False) ((Chg.refl _ W).drewN 1) (fun _ _ => id)
          have HCD : Hid (Chg F w (W.drewN 1)) := HCX.out.drewN 1
          go_wp2_with fail
          refine (writeString_nat w.heap.size w.heap.size out.data.toList (mx.now.extract 0 n) _ HBD.out hlen2 hwb).mono ?_
          rintro e w2 ⟨rfl, hI2, hB2⟩
          have HP2 : Hid (PEnd w2 F g mx) := PEnd.keeps HPD.out (chg_low hB2) (fun k hk => by have := HF.out k hk; omega)
          have HC2 : Hid (Chg F w w2) := HCD.out.trans ((chg_low hB2).mono (fun _ _ e => Or.inr e))
          have HI2 := hid hI2
          have hgw : g < w.heap.size := HF.out g hgF
          have c13' : w2.cell? ⟨g, 13, none⟩ = some (.string mx.now) := (PEnd.now HP2.out).1
          have z13' : w2.frozen? ⟨g, 13, none⟩ = false := (PEnd.now HP2.out).2.1
          clear hI2 hB2 c13 z13 hlen2 hgr
          go_wp2_with fail
          go_roundw
          case rel =>
            obtain ⟨q1, q2⟩ := PEnd.setNow HP2.out (mx.now.extract n mx.now.size)
            refine ⟨out ++ mx.now.extract 0 n, _, HR2.out, by rw [HZ1.out]; omega, HIX.out.nows _ (by rw [ex_size]; have := HIX.out.now; omega), HLX.out, q1, HC2.out.trans' q2, ?_⟩
            have e1 : (out ++ mx.now.extract 0 n).data.toList = out.data.toList ++ (mx.now.extract 0 n).data.toList := by rw [ByteArray.data_append, Array.toList_append]
            rw [e1]
            exact builder_keeps HI2.out (Chg.setCell (F := fun k => k = g) w2 ⟨g, 13, none⟩ _ rfl) (by rintro k rfl; exact hgw)
          case measure =>
            have e0 : builderLen (w2.setCell ⟨g, 13, none⟩ (.string (mx.now.extract n mx.now.size))) w.heap.size = out.size + n := by
              rw [builderLen_eq (builder_keeps HI2.out (Chg.setCell (F := fun k => k = g) w2 ⟨g, 13, none⟩ _ rfl) (by rintro k rfl; exact hgw))]
              rw [List.length_append, ba_length, ba_length, ex_size]
              omega
            rw [e0, HBL.out]
            omega
      · obtain ⟨c13, _, _, _⟩ := PEnd.now HP.out
        have hne0 := not_empty mj.now (by omega)
        go_wp2_with fail
        refine HLN.out.mono ?_
        rintro e w1 ⟨rfl, hw⟩
        replace hw := hw.symm
        subst hw
        go_wp2_with fail
        obtain ⟨mx, hmx⟩ : ∃ mx, mj = mx := ⟨_, rfl⟩
        have HPX : Hid (PEnd wr F g mx) := by rw [← hmx]; exact HP.out
        have HCX := HC
        have HBX := HB
        have HRX : Hid (Mod.write (most.toNat - out.size) mx out = R) := by rw [← hmx]; exact HR.out
        have HIX : Hid mx.Inv := by rw [← hmx]; exact HI.out
        have HLX : Hid (mx.died = 0) := by rw [← hmx]; exact HL.out
        have HNZ : Hid (¬ mx.now.size = 0) := by rw [← hmx]; exact hn0
        clear hn0 hne0 c13 HP HC HB HR HI HL HLN
        subst hmx
        have hnz : ¬ mj.now.size = 0 := HNZ.out
        have hne := not_empty mj.now (by omega)
        obtain ⟨c13, z13, hgF, hgl⟩ := PEnd.now HPX.out
        obtain ⟨n, hn⟩ : ∃ n, min mj.now.size (most.toNat - out.size) = n := ⟨_, rfl⟩
        have hn1 : n ≤ mj.now.size := by omega
        have hn2 : n ≤ most.toNat - out.size := by omega
        have hn3 : 1 ≤ n := by omega
        have hnI : min (mj.now.size : Int) (IntKind.i64.wrap (most - (out.size : Int))) = (n : Int) := by rw [wrap_sub _ _ (by omega) hmost]; omega
        have HNI := hid hnI
        have hR2 := HRX.out
        rw [show most.toNat - out.size = n + (most.toNat - out.size - n) by omega, write_chunk n _ mj out hn1] at hR2
        have hgr := (write_grows (most.toNat - out.size - n) { mj with now := mj.now.extract n mj.now.size } (out ++ mj.now.extract 0 n)).1
        rw [hR2] at hgr
        have hz1 : (out ++ mj.now.extract 0 n).size = out.size + n := by rw [ByteArray.size_append, ex_size]; omega
        rw [hz1] at hgr
        have HR2 : Hid (Mod.write (most.toNat - (out ++ mj.now.extract 0 n).size) { mj with now := mj.now.extract n mj.now.size } (out ++ mj.now.extract 0 n) = R) := by
          show _ = _
          rw [hz1, show most.toNat - (out.size + n) = most.toNat - out.size - n by omega]
          exact hR2
        have hlen2 : out.data.toList.length + (mj.now.extract 0 n).size ≤ 100000000000000 := by
          rw [ba_length, ex_size]
          have := HSZ.out
          omega
        have HZ1 := hid hz1
        have hwb : w.heap.size ≤ wr.heap.size := HCX.out.size
        have HLEN : Hid (Calls Try.prog 51 #[.pointer (some ⟨w.heap.size, 0, none⟩)] wr fun e w' => e = .returned (.int .i64 out.data.toList.length) ∧ w' = wr) := blen_calls _ _ _ _ HBX.out
        have HLEN' : Hid (∀ q, Calls Try.prog 51 #[.pointer (some ⟨w.heap.size, 0, none⟩)] (wr.drewN q) fun e w' => e = .returned (.int .i64 out.size) ∧ w' = wr.drewN q) := by
          intro q
          have := blen_calls _ _ _ (wr.drewN q) (show Lib.IsBuilder 84 5 w.heap.size w.heap.size (Lib.byteCells out.data.toList) (wr.drewN q) from HBX.out)
          rw [ba_length] at this
          exact this
        clear hn hnI hR2 hz1 HLEN
        go_wp2
        go_region_held3 (fun w' => w'.cell? ⟨g, 13, none⟩ = some (.string mj.now))
          (first
            | (go_keep; done)
            | exact c13)
          (first
            | (go_at_call 51
               refine (HLEN'.out 1).mono ?_
               rintro e w' ⟨rfl, rfl⟩))
        rw [HNI.out]
        have HBD : Hid (Lib.IsBuilder 84 5 w.heap.size w.heap.size (Lib.byteCells out.data.toList) (wr.drewN 1)) := HBX.out
        have HPD : Hid (PEnd (wr.drewN 1) F g mj) := PEnd.keeps HPX.out (G := fun _ => False) ((Chg.refl _ wr).drewN 1) (fun _ _ => id)
        have HCD : Hid (Chg F w (wr.drewN 1)) := HCX.out.drewN 1
        go_wp2_with fail
        refine (writeString_nat w.heap.size w.heap.size out.data.toList (mj.now.extract 0 n) _ HBD.out hlen2 hwb).mono ?_
        rintro e w2 ⟨rfl, hI2, hB2⟩
        have HP2 : Hid (PEnd w2 F g mj) := PEnd.keeps HPD.out (chg_low hB2) (fun k hk => by have := HF.out k hk; omega)
        have HC2 : Hid (Chg F w w2) := HCD.out.trans ((chg_low hB2).mono (fun _ _ e => Or.inr e))
        have HI2 := hid hI2
        have hgw : g < w.heap.size := HF.out g hgF
        have c13' : w2.cell? ⟨g, 13, none⟩ = some (.string mj.now) := (PEnd.now HP2.out).1
        have z13' : w2.frozen? ⟨g, 13, none⟩ = false := (PEnd.now HP2.out).2.1
        clear hI2 hB2 c13 z13 hlen2 hgr
        go_wp2_with fail
        go_roundw
        case rel =>
          obtain ⟨q1, q2⟩ := PEnd.setNow HP2.out (mj.now.extract n mj.now.size)
          refine ⟨out ++ mj.now.extract 0 n, _, HR2.out, by rw [HZ1.out]; omega, HIX.out.nows _ (by rw [ex_size]; have := HIX.out.now; omega), HLX.out, q1, HC2.out.trans' q2, ?_⟩
          have e1 : (out ++ mj.now.extract 0 n).data.toList = out.data.toList ++ (mj.now.extract 0 n).data.toList := by rw [ByteArray.data_append, Array.toList_append]
          rw [e1]
          exact builder_keeps HI2.out (Chg.setCell (F := fun k => k = g) w2 ⟨g, 13, none⟩ _ rfl) (by rintro k rfl; exact hgw)
        case measure =>
          have e0 : builderLen (w2.setCell ⟨g, 13, none⟩ (.string (mj.now.extract n mj.now.size))) w.heap.size = out.size + n := by
            rw [builderLen_eq (builder_keeps HI2.out (Chg.setCell (F := fun k => k = g) w2 ⟨g, 13, none⟩ _ rfl) (by rintro k rfl; exact hgw))]
            rw [List.length_append, ba_length, ba_length, ex_size]
            omega
          rw [e0, HBL.out]
          omega
    · have hk : most.toNat - out.size = 0 := by omega
      have hR2 := HR.out
      rw [hk] at hR2
      have HR2 : Hid ((out, mj) = R) := hR2
      have HST := hid (string_calls w.heap.size w.heap.size out.data.toList wr HB.out HC.out.size)
      clear hR2 hk
      go_wp2_with fail
      refine HLN.out.mono ?_
      rintro e w1 ⟨rfl, hw⟩
      replace hw := hw.symm
      subst hw
      go_wp2_with fail
      refine HST.out.mono ?_
      rintro e w2 ⟨rfl, hb2⟩
      have HB2 := hid hb2
      clear hb2
      go_wp2_with fail
      go_ret
      have e := HR2.out
      subst e
      exact ⟨rfl, HP.out.keeps (chg_low HB2.out) (fun k hk => by have := HF.out k hk; omega), HC.out.trans ((chg_low HB2.out).mono (fun _ _ e => Or.inr e))⟩
theorem PEnd.old {w : World} {F : Nat → Prop} {g : Nat} {m : Mod} (h : PEnd w F g m) : PEnd w (Old F w.heap.size) g m := h.mono (fun _ hk e => ⟨e, hk⟩)
set_option maxRecDepth 100000 in
/-- Write -/
theorem pwrite_calls {w : World} {F : Nat → Prop} {g : Nat} {m : Mod} (h : PEnd w F g m) (hi : m.Inv) (hl : m.died = 0) (most : Int) (hmost : most ≤ 9223372036854775807) (hsz : (Mod.write most.toNat m noB).1.size ≤ 100000000000000) :
    Calls Try.prog 20 #[ptrV g, .int .i64 most] w fun e w' => OutPost w F g (Mod.write most.toNat m noB) e w' := by
  have HO := hid (pout' h.old hi hl (fun k hk => hk.2) most hmost hsz)
  clear h hi hl hsz
  unfold ptrV at HO ⊢
  go_enter Try.func20, Try.ntmps20
  go_wp2_with fail
  refine HO.out.mono ?_
  rintro e w1 ⟨rfl, hp, hc⟩
  have HP := hid hp
  have HC := hid hc
  clear hp hc
  go_wp2_with fail
  go_ret
  exact ⟨rfl, PEnd.mono HP.out (fun _ _ e => e.1), HC.out.mono (fun _ _ e => e.1)⟩
end Go.Proofs.Ytnclmbolfpojoaa
