/-
  The document own answer for Unpack, as a contract: what bytes begin with, and that it is a message just where Unpack has one.
-/
import Derived.Test.YtnclmbolfpojoaaRef
import Derived.WalkKit
import Derived.WalkSpells
import Derived.BigRegion
import Derived.BigQuiet
import Derived.Deep.QuietTactic
import Derived.Deep.RegionHeld
import Derived.Deep.DrawnRows
import Derived.OwnWalk
namespace Go.Proofs.Ytnclmbolfpojoaa
open Go.RowKit
/-- an own row of strings, as the contracts take it -/
theorem strs_of_own {w : World} {B n : Nat} {v : Value} {ps : List ByteArray} (h : w.ownsRow B 9 1 v n (ps.map Value.string)) (hl : ps.length = n) (hn : n ≤ maxLen) (hs : ∀ s ∈ ps, s.size ≤ maxLen) :
    ∃ a cap, v = .slice a n cap ∧ StrsAt w a n ps := by
  rcases h.2 with ⟨rfl, rfl⟩ | ⟨g, cap, cur, rfl, hb, hg, r1, r2, r3, r4⟩
  · have : ps = [] := List.eq_nil_of_length_eq_zero hl
    subst this
    exact ⟨none, 0, rfl, rfl, hn, hs, fun h => by omega⟩
  · refine ⟨_, _, rfl, hl, hn, hs, fun _ => ⟨g, 0, rfl, (Array.getElem?_eq_some_iff.1 hg).1, fun j hj => ?_⟩⟩
    have hc := h.cells (g := g) rfl j (.string (ps.getD j ByteArray.empty)) (by
      rw [List.getElem?_map, List.getD_eq_getElem?_getD, List.getElem?_eq_getElem (by omega)]; rfl)
    have ea : (⟨g, 0, none⟩ : Addr).add j = ⟨g, 0 + j, none⟩ := by unfold Addr.add; split <;> simp_all
    rw [ea] at hc
    exact hc

def BegPost (s : ByteArray) (m : Int) (w : World) (e : Ending) (w' : World) : Prop :=
  Below w.heap.size w w' ∧
  ((begT s.data.toList m = 0 ∧ e = .returned (.tuple #[.slice none 0 0, .int .i64 0, .bool false])) ∨
   (begT s.data.toList m = 1 ∧ e = .returned (.tuple #[.slice none 0 0, .int .i64 0, .bool true])) ∨
   (begT s.data.toList m = 2 ∧ ∃ a cap, e = .returned (.tuple #[.slice a (begP s.data.toList).length cap, .int .i64 (begN s.data.toList), .bool false]) ∧ StrsAt w' a (begP s.data.toList).length (begP s.data.toList)))
theorem info9' : ∃ i, Try.prog.info? 9 = some i ∧ i.zero = some (.string ⟨#[]⟩) ∧ i.size = 1 ∧ i.bytes = 16 := by
  obtain ⟨i, h1, h2⟩ := Option.map_eq_some_iff.1 info9
  simp only [Prod.mk.injEq] at h2
  exact ⟨i, h1, h2.1, h2.2.1, h2.2.2⟩

set_option maxHeartbeats 2000000 in
set_option maxRecDepth 100000 in
theorem begins_calls (s : ByteArray) (m : Int) (w : World) (hs : s.size ≤ 9223372036854775000) :
    Calls Try.prog 88 #[.string s, .int .i64 m] w fun e w' => BegPost s m w e w' := by
  have hl : s.data.toList.length = s.size := by rw [Array.length_toList]; rfl
  by_cases h0 : s.size = 0
  · have : s = ⟨#[]⟩ := by
      apply ba_ext
      show s.data.toList = []
      exact List.eq_nil_of_length_eq_zero (by omega)
    subst this
    clear h0 hl
    go_enter Try.func88, Try.ntmps88
    go_wp2
    go_ret3
    exact ⟨Below.refl _ _, .inl ⟨rfl, rfl⟩⟩
  · have hne := not_empty s (by omega)
    have h0' : 0 < s.size := by omega
    have hb : s[0].toNat < 256 := s[0].toNat_lt
    have HC : Hid (s[0].toNat = cnt s.data.toList) := by
      show _ = _
      unfold cnt
      rw [byte_at s 0 h0']
    have HL : Hid (s.data.toList.length = s.size) := hl
    clear hl
    by_cases h3 : 3 < s[0].toNat
    · have HT : Hid (begT s.data.toList m = 1) := begT_many m (by rw [HL.out]; exact h0') (by rw [← HC.out]; exact h3)
      go_enter Try.func88, Try.ntmps88
      go_wp2
      go_ret3
      exact ⟨Below.refl _ _, .inr (.inl ⟨HT.out, ret_three rfl rfl rfl⟩)⟩
    · have h3' : ¬ (3 : Int) < (s[0].toNat : Int) := by omega
      go_enter Try.func88, Try.ntmps88
      go_wp2
      generalize s[0].toNat = c at *
      have HD : Hid ((s.data.toList.drop 1).length = s.size - 1) := by
        show _ = _
        rw [List.length_drop, HL.out]
      go_loop [4, 5, 6, 8, 9] (fun _ _ _ t i => ∃ k : Nat, k ≤ c ∧ k ≤ s.size - 1 ∧ i = .int .i64 (k + 1 : Nat) ∧ t = .int .i64 (1 + c + sumB ((s.data.toList.drop 1).take k) : Nat) ∧ ∀ b ∈ (s.data.toList.drop 1).take k, b.toNat ≤ 15) (fun _ _ _ _ i => 4 - (intOf i).toNat)
      case atStart => exact ⟨0, Nat.zero_le _, Nat.zero_le _, rfl, int_val (by simp [sumB]), by simp⟩
      case round =>
        obtain ⟨k, hk, hks, rfl, rfl, hall⟩ := hrel
        have HA : Hid (∀ b ∈ (s.data.toList.drop 1).take k, b.toNat ≤ 15) := hall
        have hsum := sumB_15 _ hall
        have hlen : ((s.data.toList.drop 1).take k).length = k := by rw [List.length_take, HD.out]; omega
        rw [hlen] at hsum
        clear hall hlen
        generalize hz : sumB ((s.data.toList.drop 1).take k) = z at *
        have HZ : Hid (sumB ((s.data.toList.drop 1).take k) = z) := hz
        clear hz
        by_cases hlt : k < c
        · by_cases hend : s.size ≤ k + 1
          · have HT : Hid (begT s.data.toList m = 0) := by
              have e1 : lsOf s.data.toList = (s.data.toList.drop 1).take k := by
                unfold lsOf
                rw [← HC.out, List.take_of_length_le (by rw [HD.out]; omega), List.take_of_length_le (by rw [HD.out]; omega)]
              refine begT_short m (by rw [HL.out]; exact h0') (by rw [← HC.out]; exact h3) ?_ ?_
              · rw [e1]; exact HA.out
              · rw [e1, ← HC.out, List.length_take, HD.out]; omega
            go_wp2
            go_ret3
            exact ⟨Below.refl _ _, .inl ⟨HT.out, ret_three rfl rfl rfl⟩⟩
          · have hbt : s[k + 1].toNat < 256 := s[k + 1].toNat_lt
            have HG : Hid (s[k + 1] = (s.data.toList.drop 1).getD k 0) := by
              show _ = _
              rw [byte_at s (k + 1) (by omega), List.getD_eq_getElem?_getD, List.getD_eq_getElem?_getD, List.getElem?_drop, Nat.add_comm 1 k]
            have HN : Hid ((s.data.toList.drop 1).take (k + 1) = (s.data.toList.drop 1).take k ++ [s[k + 1]]) := by
              show _ = _
              rw [HG.out]
              exact take_snoc' _ k (by rw [HD.out]; omega)
            by_cases h15 : 15 < s[k + 1].toNat
            · have HT : Hid (begT s.data.toList m = 1) := by
                refine begT_any m (by rw [HL.out]; exact h0') (by rw [← HC.out]; exact h3) (b := s[k + 1]) ?_ h15
                unfold lsOf
                rw [← HC.out]
                have e1 : (s.data.toList.drop 1).take (k + 1) = ((s.data.toList.drop 1).take c).take (k + 1) := by rw [List.take_take]; congr 1; omega
                have e2 : s[k + 1] ∈ (s.data.toList.drop 1).take (k + 1) := by rw [HN.out]; simp
                rw [e1] at e2
                exact List.mem_of_mem_take e2
              go_wp2
              go_ret3
              exact ⟨Below.refl _ _, .inr (.inl ⟨HT.out, ret_three rfl rfl rfl⟩)⟩
            · go_wp2
              go_round
              case rel =>
                refine ⟨k + 1, by omega, by omega, by go_num, int_val (by rw [HN.out, sumB_snoc, HZ.out]; omega), ?_⟩
                rw [HN.out]
                intro b hb'
                rw [List.mem_append, List.mem_singleton] at hb'
                rcases hb' with hb' | rfl
                · exact HA.out b hb'
                · omega
              case measure => simp [intOf]; omega
        · obtain rfl : k = c := by omega
          have HLS : Hid (lsOf s.data.toList = (s.data.toList.drop 1).take k) := by
            show _ = _
            unfold lsOf
            rw [← HC.out]
          have HBN : Hid (begN s.data.toList = 1 + k + z) := by
            show _ = _
            unfold begN
            rw [HLS.out, HZ.out, ← HC.out]
          have HTF : Hid (begT s.data.toList m = if m < ((1 + k + z : Nat) : Int) then 1 else if s.size < 1 + k + z then 0 else 2) := by
            show _ = _
            rw [begT_full m (by rw [HL.out]; exact h0') (by rw [← HC.out]; exact h3) (by rw [HLS.out]; exact HA.out) (by rw [HLS.out, ← HC.out, List.length_take, HD.out]; omega), HBN.out, HL.out]
          by_cases hm : m < ((1 + k + z : Nat) : Int)
          · have HT : Hid (begT s.data.toList m = 1) := by show _ = _; rw [HTF.out, if_pos hm]
            have hm' : m < 1 + (k : Int) + (z : Int) := by omega
            go_wp2
            go_ret3
            exact ⟨Below.refl _ _, .inr (.inl ⟨HT.out, ret_three rfl rfl rfl⟩)⟩
          · have hm' : ¬ m < 1 + (k : Int) + (z : Int) := by omega
            by_cases hsm : s.size < 1 + k + z
            · have HT : Hid (begT s.data.toList m = 0) := by show _ = _; rw [HTF.out, if_neg hm, if_pos hsm]
              go_wp2
              go_ret3
              exact ⟨Below.refl _ _, .inl ⟨HT.out, ret_three rfl rfl rfl⟩⟩
            · have HT : Hid (begT s.data.toList m = 2) := by show _ = _; rw [HTF.out, if_neg hm, if_neg hsm]
              obtain ⟨i0, hi, hz0, hz1, hz2⟩ := info9'
              have HPL : Hid ((begP s.data.toList).length = k) := by
                show _ = _
                unfold begP
                rw [cut_length, HLS.out, List.length_take, HD.out]; omega
              have HPE : Hid (∀ j, j < k → (begP s.data.toList).getD j ByteArray.empty = ⟨(((s.data.toList.drop (1 + k)).drop (sumB ((s.data.toList.drop 1).take j))).take ((s.data.toList.drop 1).getD j 0).toNat).toArray⟩) := by
                intro j hj
                unfold begP
                rw [cut_getD _ _ _ (by rw [HLS.out, List.length_take, HD.out]; omega), HLS.out, ← HC.out, List.take_take, Nat.min_eq_left (by omega)]
                congr 3
                rw [List.getD_eq_getElem?_getD, List.getD_eq_getElem?_getD, List.getElem?_take_of_lt hj]
              clear hm HTF
              go_wp2
              go_loopw [10, 11, 12] (fun v t i wr => ∃ j : Nat, j ≤ k ∧ i = .int .i64 (j + 1 : Nat) ∧ t = .int .i64 (1 + k + sumB ((s.data.toList.drop 1).take j) : Nat) ∧ wr.ownsRow w.heap.size 9 1 v j (((begP s.data.toList).take j).map Value.string) ∧ Below w.heap.size w wr) (fun _ _ i _ => 4 - (intOf i).toNat)
              case atStart => exact ⟨0, Nat.zero_le _, rfl, int_val (by simp [sumB]), World.ownsRow_nil _ _ _ _, Below.refl _ _⟩
              case round =>
                obtain ⟨j, hj, rfl, rfl, hown, hbel⟩ := hrel
                have hsz := hbel.size
                have hjs : sumB ((s.data.toList.drop 1).take j) ≤ z := by
                  rw [← HZ.out]
                  have := sumB_take_le ((s.data.toList.drop 1).take k) j
                  rw [List.take_take, Nat.min_eq_left (by omega)] at this
                  exact this
                generalize hy : sumB ((s.data.toList.drop 1).take j) = y at *
                have HY : Hid (sumB ((s.data.toList.drop 1).take j) = y) := hy
                clear hy
                by_cases hlt2 : j < k
                · have hsj : j + 1 < s.size := by omega
                  have hbt : s[j + 1].toNat < 256 := s[j + 1].toNat_lt
                  have HG : Hid (s[j + 1] = (s.data.toList.drop 1).getD j 0) := by
                    show _ = _
                    rw [byte_at s (j + 1) (by omega), List.getD_eq_getElem?_getD, List.getD_eq_getElem?_getD, List.getElem?_drop, Nat.add_comm 1 j]
                  have HN : Hid ((s.data.toList.drop 1).take (j + 1) = (s.data.toList.drop 1).take j ++ [s[j + 1]]) := by
                    show _ = _
                    rw [HG.out]
                    exact take_snoc' _ j (by rw [HD.out]; omega)
                  have hyz : y + s[j + 1].toNat ≤ z := by
                    have := sumB_take_le ((s.data.toList.drop 1).take k) (j + 1)
                    rw [List.take_take, Nat.min_eq_left (by omega), HZ.out, HN.out, sumB_snoc, HY.out] at this
                    exact this
                  have HE : Hid (s.extract (1 + k + y) (1 + k + y + s[j + 1].toNat) = (begP s.data.toList).getD j ByteArray.empty) := by
                    show _ = _
                    rw [HPE.out j hlt2, HY.out, ← HG.out]
                    apply ba_ext
                    rw [Lib.extract_data, List.drop_drop, show 1 + k + y + s[j + 1].toNat - (1 + k + y) = s[j + 1].toNat by omega]
                  have HTK : Hid ((begP s.data.toList).take (j + 1) = (begP s.data.toList).take j ++ [(begP s.data.toList).getD j ByteArray.empty]) := take_getD _ j (by rw [HPL.out]; exact hlt2)
                  go_wp2_with (at_builtin; refine wpList_append_own _ rfl _ _ 27 rfl w.heap.size 9 i0 (.string ⟨#[]⟩) 1 16 Try.underlying27 hi hz0 hz1 hz2 rfl (by decide) _ _ _ rfl (hown.alloc _) ⟨wr.heap.size, 0, none⟩ 1 1 [.string (s.extract (1 + k + y) (1 + k + y + s[j + 1].toNat))] rfl rfl ?c1 ?c2 ?c3 ?c4 ?c5 ?_)
                  case c1 =>
                    intro i u hiu
                    match i, hiu with
                    | 0, hiu => simp at hiu; subst hiu; simp [Addr.add]
                  case c2 => intro u hu; simp at hu; subst hu; rfl
                  case c3 => unfold maxLen; omega
                  case c4 => omega
                  case c5 => simp; omega
                  intro v' w2 hown' hgrow _
                  have hb2 : Below w.heap.size w w2 := (hbel.alloc hsz _).grown hgrow (by simp; omega) (fun k hk => (hown.lt k hk).1)
                  clear hgrow hown hbel
                  rw [HE.out] at hown'
                  go_wp2_with fail
                  go_roundw
                  case rel =>
                    refine ⟨j + 1, by omega, by go_num, int_val (by rw [HN.out, sumB_snoc, HY.out]; omega), ?_, hb2⟩
                    rw [HTK.out, List.map_append, List.map_take]
                    exact hown'
                  case measure => simp [intOf]; omega
                · obtain rfl : j = k := by omega
                  rw [List.take_of_length_le (by rw [HPL.out]; exact Nat.le_refl _)] at hown
                  obtain ⟨a, cap, rfl, hst⟩ := strs_of_own hown HPL.out (by unfold maxLen; omega) (by
                    intro x hx
                    have := cut_small _ (by rw [HLS.out]; exact HA.out) _ x hx
                    unfold maxLen
                    omega)
                  clear hown
                  go_wp2_with fail
                  go_ret3
                  refine ⟨hbel, .inr (.inr ⟨HT.out, a, cap, ret_three ?_ ?_ rfl, ?_⟩)⟩
                  · rw [HPL.out]; rfl
                  · rw [HBN.out]; exact int_val (by omega)
                  · rw [HPL.out]; exact hst

set_option maxHeartbeats 1000000 in
set_option maxRecDepth 100000 in
theorem runpack_yes (s : ByteArray) (ps : List ByteArray) (w : World) (hs : s.size ≤ 9223372036854775000) (hp : properB ps = true) (hk : packL ps = s.data.toList) :
    Calls Try.prog 59 #[.string s] w fun e w' => ∃ a cap, e = .returned (.tuple #[.slice a ps.length cap, .int .i64 0]) ∧ StrsAt w' a ps.length ps ∧ Below w.heap.size w w' := by
  have hl : s.data.toList.length = s.size := by rw [Array.length_toList]; rfl
  have HT : Hid (begT s.data.toList (s.size : Int) = 2) := begT_pack _ hp hk (by omega)
  obtain ⟨_, _, _, hP, hN, hL⟩ := beg_of_pack hp hk
  rw [hl] at hN hL
  have HP : Hid (begP s.data.toList = ps) := hP
  have HN : Hid (begN s.data.toList = s.size) := hN
  clear hP hN hk hp hl
  have hb0 : ((s.size : Int) == 0) = false := by rw [beq_eq_false_iff_ne]; omega
  go_enter Try.func59, Try.ntmps59
  go_wp2_with fail
  refine (begins_calls s _ _ hs).mono ?_
  rintro e w1 ⟨hb, hh⟩
  rcases hh with ⟨hc, _⟩ | ⟨hc, _⟩ | ⟨_, a, cap, rfl, hst⟩
  · rw [HT.out] at hc; exact absurd hc (by decide)
  · rw [HT.out] at hc; exact absurd hc (by decide)
  · rw [HP.out, HN.out] at *
    go_wp2_with fail
    go_ret2
    exact ⟨a, cap, ret_two rfl rfl, hst, hb⟩
set_option maxHeartbeats 1000000 in
set_option maxRecDepth 100000 in
theorem runpack_no (s : ByteArray) (w : World) (hs : s.size ≤ 9223372036854775000) (hno : ∀ ps, properB ps = true → packL ps ≠ s.data.toList) :
    Calls Try.prog 59 #[.string s] w fun e w' => e = .returned (.tuple #[.slice none 0 0, .int .i64 11]) ∧ Below w.heap.size w w' := by
  have hl : s.data.toList.length = s.size := by rw [Array.length_toList]; rfl
  have HNO : Hid (begT s.data.toList (s.size : Int) = 2 → begN s.data.toList ≠ s.size) := by
    intro h1 h2
    obtain ⟨g1, g2⟩ := pack_of_beg _ h1 (by rw [h2, hl])
    exact hno _ g1 g2
  clear hno hl
  go_enter Try.func59, Try.ntmps59
  go_wp2_with fail
  refine (begins_calls s _ _ hs).mono ?_
  rintro e w1 ⟨hb, hh⟩
  rcases hh with ⟨_, rfl⟩ | ⟨_, rfl⟩ | ⟨hc, a, cap, rfl, hst⟩
  · go_wp2_with fail
    go_ret2
    exact ⟨ret_two rfl rfl, hb⟩
  · go_wp2_with fail
    go_ret2
    exact ⟨ret_two rfl rfl, hb⟩
  · have hne := HNO.out hc
    have h1 : 1 ≤ begN s.data.toList := by unfold begN; omega
    generalize begN s.data.toList = N at *
    generalize begP s.data.toList = P at *
    have hb0 : ((N : Int) == 0) = false := by rw [beq_eq_false_iff_ne]; omega
    have hb1 : ((N : Int) != (s.size : Int)) = true := by rw [bne_iff_ne]; omega
    clear hne hc HNO
    go_wp2_with fail
    go_ret2
    exact ⟨ret_two rfl rfl, hb⟩
end Go.Proofs.Ytnclmbolfpojoaa
