/-
  The reference's Write.
-/
import Derived.Test.YtnclmbolfpojoaaRWrite
namespace Go.Proofs.Ytnclmbolfpojoaa
open Go.RowKit
attribute [local go_sem ↓] Go.wp_at_zero Go.wp_at_succ
def WritePost (w : World) (F : Nat → Prop) (g : Nat) (r : ByteArray × Mod) (e : Ending) (w' : World) : Prop := e = .returned (.string r.1) ∧ RPost w F g r.2 w'
theorem end_gives {w : World} {F : Nat → Prop} {g : Nat} {m : Mod} (h : REnd w F g m) : REnd (w.setCell ⟨g, 15, none⟩ (.string (m.now.extract 1 m.now.size))) F g m.gives ∧ Chg F w (w.setCell ⟨g, 15, none⟩ (.string (m.now.extract 1 m.now.size))) := by
  obtain ⟨lab, vS, vC, bs, h⟩ := h
  have hc : Chg (fun k => k = g) w (w.setCell ⟨g, 15, none⟩ (.string (m.now.extract 1 m.now.size))) := Chg.setCell _ ⟨g, 15, none⟩ _ rfl
  refine ⟨⟨lab, vS, vC, bs, h.setObj m.gives hc ?_ rfl rfl rfl⟩, hc.mono (by rintro k _ rfl; exact h.own.1)⟩
  simp [World.setCell, Array.getElem?_modify, h.obj, reCells, Mod.gives]
theorem end_now {w : World} {F : Nat → Prop} {g : Nat} {m : Mod} (h : REnd w F g m) : w.cell? ⟨g, 15, none⟩ = some (.string m.now) ∧ w.frozen? ⟨g, 15, none⟩ = false := by
  obtain ⟨lab, vS, vC, bs, h⟩ := h
  exact ⟨(re_cells h.obj).2.2.2.2.2.2.2.2.2.2.1, unfrozen h.obj 15⟩
set_option maxHeartbeats 4000000 in
set_option maxRecDepth 100000 in
theorem rwrite_calls {w : World} {F : Nat → Prop} {g : Nat} {m : Mod} (h : REnd w F g m) (hi : m.Inv) (most : Int) (hmost : most ≤ 9223372036854775807) :
    Calls Try.prog 66 #[ptrV g, .int .i64 most] w fun e w' => WritePost w F g (Mod.write most.toNat m noB) e w' := by
  have H0 : Hid (REnd w (Up F w.heap.size) g m) := h.mono (fun _ _ e => Or.inl e)
  have HI0 : Hid m.Inv := hi
  obtain ⟨K, hK⟩ : ∃ K, most.toNat = K := ⟨_, rfl⟩
  have hKm : ∀ i : Nat, (i : Int) < most ↔ i < K := by intro i; omega
  have HKM : Hid (∀ i : Nat, (i : Int) < most ↔ i < K) := hKm
  rw [hK]
  obtain ⟨R, hR⟩ : ∃ R, Mod.write K m noB = R := ⟨_, rfl⟩
  have HR : Hid (Mod.write K m noB = R) := hR
  rw [hR]
  have HFin : Hid (∀ w', REnd w' (Up F w.heap.size) g R.2 → Chg F w w' → WritePost w F g R (.returned (.string R.1)) w') := fun w' a b => ⟨rfl, a, b⟩
  clear h hi hK hR hKm
  unfold ptrV
  go_enter Try.func66, Try.ntmps66
  go_wp2
  go_loopw [5, 6] (fun o j wr => ∃ (i : Nat) (mi : Mod) (oi : ByteArray), i ≤ K ∧ j = .int .i64 i ∧ o = .string oi ∧ oi.size ≤ i ∧ Mod.write (K - i) mi oi = R ∧ mi.Inv ∧ REnd wr (Up F w.heap.size) g mi ∧ Chg F w wr) (fun _ j _ => K - (intOf j).toNat)
  case atStart => exact ⟨0, m, noB, Nat.zero_le _, rfl, rfl, Nat.le_refl _, HR.out, HI0.out, H0.out, Chg.refl _ _⟩
  case round =>
    obtain ⟨i, mi, oi, hi, rfl, rfl, hos, hwr, hinv, hend, hch⟩ := hrel
    have HWR : Hid (Mod.write (K - i) mi oi = R) := hwr
    have HINV : Hid mi.Inv := hinv
    have HEND : Hid (REnd wr (Up F w.heap.size) g mi) := hend
    have HCH : Hid (Chg F w wr) := hch
    obtain ⟨c15, z15⟩ := end_now hend
    clear hwr hinv hend hch
    by_cases hlt : (i : Int) < most
    · have hiK := (HKM.out i).1 hlt
      obtain ⟨k, hk⟩ : ∃ k, K - i = k + 1 := ⟨K - i - 1, by omega⟩
      have HK1 : Hid (K - (i + 1) = k) := by show K - (i + 1) = k; omega
      have hwr := HWR.out
      rw [hk] at hwr
      have HW1 : Hid (Mod.write (k + 1) mi oi = R) := hwr
      clear hwr hk
      by_cases hn : mi.now.size = 0
      · have HN : Hid (mi.next = mi.chosen) := by show mi.next = mi.chosen; unfold Mod.next; rw [if_pos hn]
        rw [ba_zero hn] at c15
        clear hn
        go_wp2_with fail
        refine (rchosen_calls HEND.out HINV.out.fit).mono ?_
        rintro e w2 ⟨rfl, hp, hc2⟩
        have hp2 := hp.mono (G := Up F w.heap.size) (fun _ _ e => Up.le HCH.out.size e)
        have HP : Hid (REnd w2 (Up F w.heap.size) g mi.chosen) := hp2
        have HC2 : Hid (Chg F w w2) := HCH.out.trans hc2
        obtain ⟨d15, y15⟩ := end_now hp2
        obtain ⟨mc, hmc⟩ : ∃ mc, mi.chosen = mc := ⟨_, rfl⟩
        rw [hmc] at d15
        have HMC : Hid (mi.chosen = mc) := hmc
        clear hp hp2 hc2 hmc c15 z15
        by_cases hn2 : mc.now.size = 0
        · have HN2 : Hid (mc.now.size = 0) := hn2
          rw [ba_zero hn2] at d15
          clear hn2
          go_wp2
          go_ret
          have e1 : R = (oi, mc) := by rw [← HW1.out, write_none (by rw [HN.out, HMC.out]; exact HN2.out), HN.out, HMC.out]
          have := HFin.out w2 (by rw [e1, ← HMC.out]; exact HP.out) HC2.out
          rw [e1] at this ⊢
          exact this
        · have HN2 : Hid (mc.now.size ≠ 0) := hn2
          have hne := not_empty mc.now (by omega)
          have hns : 1 ≤ mc.now.size := by omega
          have hns2 : (1 : Int) ≤ (mc.now.size : Int) := by omega
          have hx1 : (mc.now.extract 0 1).size = 1 := by rw [ex_size]; omega
          clear hn2
          go_wp2
          refine ⟨⟨i + 1, mc.gives, oi ++ mc.now.extract 0 1, by omega, by go_num, rfl, ?_, ?_, ?_, ?_, ?_⟩, by simp [intOf]; omega⟩
          · rw [ByteArray.size_append, hx1]; omega
          · rw [HK1.out, ← HW1.out, write_one (by rw [HN.out, HMC.out]; exact HN2.out), HN.out, HMC.out]
          · rw [← HMC.out, ← HN.out]; exact HINV.out.next.gives
          · have := (end_gives HP.out).1
            rw [HMC.out] at this
            exact this
          · have := (end_gives HP.out).2
            rw [HMC.out] at this
            exact HC2.out.trans this
      · have HN : Hid (mi.next = mi) := by show mi.next = mi; unfold Mod.next; rw [if_neg hn]
        have HN2 : Hid (mi.now.size ≠ 0) := hn
        have hne := not_empty mi.now (by omega)
        have hns : 1 ≤ mi.now.size := by omega
        have hns2 : (1 : Int) ≤ (mi.now.size : Int) := by omega
        have hx1 : (mi.now.extract 0 1).size = 1 := by rw [ex_size]; omega
        clear hn
        go_wp2
        refine ⟨⟨i + 1, mi.gives, oi ++ mi.now.extract 0 1, by omega, by go_num, rfl, ?_, ?_, ?_, ?_, ?_⟩, by simp [intOf]; omega⟩
        · rw [ByteArray.size_append, hx1]; omega
        · rw [HK1.out, ← HW1.out, write_one (by rw [HN.out]; exact HN2.out), HN.out]
        · exact HINV.out.gives
        · exact (end_gives HEND.out).1
        · exact HCH.out.trans (end_gives HEND.out).2
    · have hiK : ¬ i < K := fun e => hlt ((HKM.out i).2 e)
      go_wp2
      go_ret
      have : K - i = 0 := by omega
      have e1 : R = (oi, mi) := by rw [← HWR.out, this]; rfl
      have := HFin.out wr (by rw [e1]; exact HEND.out) HCH.out
      rw [e1] at this ⊢
      exact this
end Go.Proofs.Ytnclmbolfpojoaa
