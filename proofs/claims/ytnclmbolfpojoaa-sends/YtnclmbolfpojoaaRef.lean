/-
  The calls of the document own answer for messages and headers, as contracts: Check, Header, Pack.
-/
import Derived.Test.YtnclmbolfpojoaaDiv
import Derived.Test.YtnclmbolfpojoaaPlain
import Derived.WalkKit
import Derived.WalkSpells
import Derived.BigRegion
import Derived.BigQuiet
import Derived.Deep.QuietTactic
import Derived.Deep.RegionHeld
import Derived.Deep.DrawnRows
namespace Go.Proofs.Ytnclmbolfpojoaa
open Go.RowKit
theorem xor7 (n : Nat) (h : n < 256) : bits BinOp.xor IntKind.i64 (n : Int) 7 = ((n ^^^ 7 : Nat) : Int) := by
  have hx : n ^^^ 7 < 2 ^ 8 := Nat.xor_lt_two_pow (by omega) (by omega)
  have h1 : (BitVec.ofInt 64 (n : Int)).toNat = n := by
    rw [BitVec.ofInt_natCast, BitVec.toNat_ofNat]; exact Nat.mod_eq_of_lt (by omega)
  have h2 : (BitVec.ofInt 64 (7 : Int)).toNat = 7 := by decide
  show IntKind.i64.wrap ((BitVec.ofInt 64 (n : Int) ^^^ BitVec.ofInt 64 (7 : Int)).toNat : Int) = _
  rw [BitVec.toNat_xor, h1, h2]
  simp [IntKind.wrap, IntKind.bits, IntKind.signed]
  omega

set_option maxHeartbeats 1000000 in
theorem rcheck_calls (s : ByteArray) (w : World) (hs : s.size ≤ 1048576) :
    Calls Try.prog 89 #[.string s] w fun e w' => e = .returned (.int .i64 (Skein.dvTo s.data.toList (8 * (s.size + 1)))) ∧ w' = w := by
  go_enter Try.func89, Try.ntmps89
  go_wp2
  go_loop [3, 4, 5, 6, 7] (fun r i _ _ _ => ∃ k : Nat, k ≤ 8 * (s.size + 1) ∧ i = .int .i64 k ∧ r = .int .i64 (Skein.dvTo s.data.toList k)) (fun _ i _ _ _ => 8 * (s.size + 1) - (intOf i).toNat)
  case atStart => exact ⟨0, Nat.zero_le _, rfl, rfl⟩
  case round =>
    obtain ⟨k, hk, rfl, rfl⟩ := hrel
    have hc := Skein.dvTo_lt s.data.toList k
    have HS : Hid (Skein.dvTo s.data.toList (k + 1) = Skein.st (Skein.dvTo s.data.toList k) (Skein.bitAt s.data.toList k)) := rfl
    generalize hr : Skein.dvTo s.data.toList k = r at *
    have HR : Hid (Skein.dvTo s.data.toList k = r) := hr
    clear hr
    by_cases hlt : k < 8 * (s.size + 1)
    · by_cases hin : k / 8 < s.size
      · have hi1 : (k : Int) / 8 < (s.size : Int) := by omega
        have hb : s[k / 8].toNat < 256 := s[k / 8].toNat_lt
        have HB : Hid (Skein.bitAt s.data.toList k = s[k / 8].toNat / 2 ^ (7 - k % 8) % 2) := by
          show _ = _
          unfold Skein.bitAt
          rw [if_pos (by rw [Array.length_toList]; exact hin), List.getD_eq_getElem?_getD, List.getElem?_eq_getElem (by rw [Array.length_toList]; exact hin)]
          rfl
        go_wp2
        generalize s[k / 8].toNat = B at *
        go_loop [6, 7] (fun x y => ∃ m : Nat, k % 8 ≤ m ∧ m ≤ 7 ∧ y = .int .i64 m ∧ x = .int .i64 (B / 2 ^ (m - k % 8) : Nat)) (fun _ y => 7 - (intOf y).toNat)
        case atStart => exact ⟨k % 8, Nat.le_refl _, by omega, int_val (by omega), int_val (by simp)⟩
        case round =>
          obtain ⟨m, hm1, hm2, rfl, rfl⟩ := hrel
          have hq : B / 2 ^ (m - k % 8) < 256 := Nat.lt_of_le_of_lt (Nat.div_le_self _ _) hb
          have HQ : Hid (m < 7 → B / 2 ^ (m + 1 - k % 8) = B / 2 ^ (m - k % 8) / 2) := by
            intro _
            rw [show m + 1 - k % 8 = (m - k % 8) + 1 by omega, Nat.pow_succ, Nat.div_div_eq_div_mul]
          generalize hqq : B / 2 ^ (m - k % 8) = q at *
          have HQQ : Hid (B / 2 ^ (m - k % 8) = q) := hqq
          clear hqq
          by_cases h7 : m < 7
          · go_wp2
            go_round
            case rel => exact ⟨m + 1, by omega, by omega, by go_num, int_val (by rw [HQ.out h7]; omega)⟩
            case measure => simp [intOf]; omega
          · have HB2 : Hid (Skein.bitAt s.data.toList k = q % 2) := by
              show _ = _
              rw [HB.out, ← HQQ.out, show m - k % 8 = 7 - k % 8 by omega]
            have hb2 : q % 2 < 2 := Nat.mod_lt _ (by omega)
            clear HB HQ HQQ
            by_cases hbig : 2 * r + q % 2 > 255
            · have HX' : Hid (bits BinOp.xor IntKind.i64 (2 * (r : Int) + (q : Int) % 2 - 256) 7 = ((2 * r + q % 2 - 256 ^^^ 7 : Nat) : Int)) := by
                show _ = _
                rw [← xor7 (2 * r + q % 2 - 256) (by omega)]; congr 1; omega
              go_wp2
              go_round
              case rel => exact ⟨k + 1, by omega, by go_num, int_val (by rw [HS.out, HB2.out]; unfold Skein.st; rw [if_pos (by omega)]; exact HX'.out)⟩
              case measure => simp [intOf]; omega
            · go_wp2
              go_round
              case rel => exact ⟨k + 1, by omega, by go_num, int_val (by rw [HS.out, HB2.out]; unfold Skein.st; rw [if_neg (by omega)]; omega)⟩
              case measure => simp [intOf]; omega
      · have hi1 : ¬ (k : Int) / 8 < (s.size : Int) := by omega
        have HB : Hid (Skein.bitAt s.data.toList k = 0) := by
          show _ = _
          unfold Skein.bitAt
          rw [if_neg (by rw [Array.length_toList]; exact hin)]
        by_cases hbig : 2 * r > 255
        · have HX := xor7 (2 * r - 256) (by omega)
          have HX' : Hid (bits BinOp.xor IntKind.i64 (2 * (r : Int) - 256) 7 = ((2 * r - 256 ^^^ 7 : Nat) : Int)) := by
            show _ = _
            rw [← HX]; congr 1; omega
          clear HX
          go_wp2
          go_round
          case rel => exact ⟨k + 1, by omega, by go_num, int_val (by rw [HS.out, HB.out]; unfold Skein.st; rw [if_pos (by omega)]; exact HX'.out)⟩
          case measure => simp [intOf]; omega
        · go_wp2
          go_round
          case rel => exact ⟨k + 1, by omega, by go_num, int_val (by rw [HS.out, HB.out]; unfold Skein.st; rw [if_neg (by omega)]; omega)⟩
          case measure => simp [intOf]; omega
    · obtain rfl : k = 8 * (s.size + 1) := by omega
      go_wp2
      go_ret
      exact ⟨ret_int (by rw [HR.out]), rfl⟩
theorem rcheck_three (a b c : Nat) (w : World) (ha : a < 256) (hb : b < 256) (hc : c < 256) :
    Calls Try.prog 89 #[.string ⟨#[UInt8.ofNat a, UInt8.ofNat b, UInt8.ofNat c]⟩] w fun e w' => e = .returned (.int .i64 (Skein.crc3 a b c)) ∧ w' = w := by
  have h := rcheck_calls ⟨#[UInt8.ofNat a, UInt8.ofNat b, UInt8.ofNat c]⟩ w (by simp [ByteArray.size])
  have e1 : Skein.dvTo (⟨#[UInt8.ofNat a, UInt8.ofNat b, UInt8.ofNat c]⟩ : ByteArray).data.toList (8 * ((⟨#[UInt8.ofNat a, UInt8.ofNat b, UInt8.ofNat c]⟩ : ByteArray).size + 1)) = Skein.crc3 a b c := crc3_bytes a b c ha hb hc
  rw [e1] at h
  exact h
set_option maxHeartbeats 1000000 in
set_option maxRecDepth 100000 in
theorem rheader_yes (a b c : Nat) (w : World) (ha : a < 256) (hb : b < 256) (hc : c < 256) :
    Calls Try.prog 62 #[.int .i64 a, .int .i64 b, .int .i64 c] w fun e w' => e = .returned (.tuple #[.string (hdr a b c), .int .i64 0]) ∧ Below w.heap.size w w' := by
  have c3 := conv_three
  have c1 := conv_one'
  have jb : Skein.crc3 a b c < 256 := Skein.sh8_lt _
  go_enter Try.func62, Try.ntmps62
  go_wp2_with fail
  refine (rcheck_three a b c _ ha hb hc).mono ?_
  rintro e w'' ⟨rfl, rfl⟩
  go_wp2_with fail
  go_ret2
  exact ⟨ret_two rfl rfl, ((Below.refl _ _).alloc (Nat.le_refl _) _).alloc (by simp) _⟩
set_option maxHeartbeats 1000000 in
set_option maxRecDepth 100000 in
theorem rheader_no (a b c : Int) (w : World) (h : (isB a && isB b && isB c) = false) :
    Calls Try.prog 62 #[.int .i64 a, .int .i64 b, .int .i64 c] w fun e w' => e = .returned (.tuple #[.string ⟨#[]⟩, .int .i64 9]) ∧ w' = w := by
  have hh : a < 0 ∨ (0 ≤ a ∧ 255 < a) ∨ (0 ≤ a ∧ a ≤ 255 ∧ b < 0) ∨ (0 ≤ a ∧ a ≤ 255 ∧ 0 ≤ b ∧ 255 < b) ∨ (0 ≤ a ∧ a ≤ 255 ∧ 0 ≤ b ∧ b ≤ 255 ∧ c < 0) ∨ (0 ≤ a ∧ a ≤ 255 ∧ 0 ≤ b ∧ b ≤ 255 ∧ 0 ≤ c ∧ 255 < c) := by
    have : ¬ ((0 ≤ a ∧ a ≤ 255) ∧ (0 ≤ b ∧ b ≤ 255) ∧ (0 ≤ c ∧ c ≤ 255)) := by
      rintro ⟨h1, h2, h3⟩
      rw [show isB a = true from decide_eq_true h1, show isB b = true from decide_eq_true h2, show isB c = true from decide_eq_true h3] at h
      exact absurd h (by decide)
    omega
  clear h
  rcases hh with h1 | ⟨h1, h2⟩ | ⟨h1, h2, h3⟩ | ⟨h1, h2, h3, h4⟩ | ⟨h1, h2, h3, h4, h5⟩ | ⟨h1, h2, h3, h4, h5, h6⟩
  all_goals
    go_enter Try.func62, Try.ntmps62
    go_wp2
    go_ret2
    exact ⟨ret_two rfl rfl, rfl⟩

theorem conv_nat (w : World) (x : Nat) :
    (convert 43 9 (.slice (some ⟨w.heap.size, 0, none⟩) 1 1)).run Try.prog (w.alloc (.cells #[.int .u8 x] 5)) = .ok (.string ⟨#[.ofNat x]⟩) (w.alloc (.cells #[.int .u8 x] 5)) := conv_one w x
set_option maxHeartbeats 1000000 in
set_option maxRecDepth 100000 in
theorem rpack_no (a : Option Addr) (n cap : Nat) (ss : List ByteArray) (w : World) (h : StrsAt w a n ss) (hp : properB ss = false) :
    Calls Try.prog 57 #[.slice a n cap] w fun e w' => e = .returned (.tuple #[.string ⟨#[]⟩, .int .i64 3]) ∧ Below w.heap.size w w' := by
  obtain ⟨hl, hm, hmx, hat⟩ := h
  unfold maxLen at hm
  have HP : Hid (properB ss = false) := hp
  clear hp
  by_cases h3 : 3 < n
  · clear hat hmx
    go_enter Try.func57, Try.ntmps57
    go_wp2
    go_ret2
    exact ⟨ret_two rfl rfl, Below.refl _ _⟩
  · have HAT : Hid (0 < n → ∃ b off, a = some ⟨b, off, none⟩ ∧ b < w.heap.size ∧ ∀ j, j < n → w.cell? ⟨b, off + j, none⟩ = some (.string (ss.getD j ByteArray.empty))) := hat
    have HL : Hid (ss.length = n) := hl
    clear hat hl hmx
    have cv := conv_nat
    go_enter Try.func57, Try.ntmps57
    go_wp2
    go_loopw [2, 3, 4, 5, 6] (fun _ _ x y j wr => ∃ (k : Nat) (p q : ByteArray), k ≤ n ∧ j = .int .i64 k ∧ x = .string p ∧ y = .string q ∧ p.size ≤ k ∧ q.size ≤ 15 * k ∧ Below w.heap.size w wr ∧ ∀ i, i < k → (ss.getD i ByteArray.empty).size ≤ 15) (fun _ _ _ _ j _ => n - (intOf j).toNat)
    case atStart => exact ⟨0, _, _, Nat.zero_le _, rfl, rfl, rfl, Nat.le_refl _, Nat.le_refl _, Below.refl _ _, fun i hi => by omega⟩
    case round =>
      obtain ⟨k, p, q, hk, rfl, rfl, rfl, hps, hqs, hbel, hall⟩ := hrel
      have HA : Hid (∀ i, i < k → (ss.getD i ByteArray.empty).size ≤ 15) := hall
      clear hall
      have hsz := hbel.size
      by_cases hlt : k < n
      · obtain ⟨b, off, rfl, hb, hc⟩ := HAT.out (by omega)
        have hck0 : wr.cell? ⟨b, off + k, none⟩ = some (.string (ss.getD k ByteArray.empty)) := by rw [hbel.cell (p := ⟨b, off + k, none⟩) hb]; exact hc k hlt
        clear hc
        generalize hx : ss.getD k ByteArray.empty = x at hck0
        have hck := hck0
        have HX : Hid (ss.getD k ByteArray.empty = x) := hx
        clear hx hck0
        by_cases h15 : 15 < x.size
        · go_wp2
          go_ret2
          exact ⟨ret_two rfl rfl, hbel⟩
        · have hbw : b < wr.heap.size := by omega
          have hck2 : ∀ o, (wr.alloc o).cell? ⟨b, off + k, none⟩ = some (.string x) := fun o => by rw [World.cell?_alloc_lt wr o ⟨b, off + k, none⟩ hbw]; exact hck
          go_wp2
          go_roundw
          case rel =>
            refine ⟨k + 1, _, _, by omega, by go_num, rfl, rfl, ?_, ?_, hbel.alloc hsz _, fun i hi => ?_⟩
            · rw [ByteArray.size_append]; show p.size + 1 ≤ k + 1; omega
            · rw [ByteArray.size_append]; omega
            · by_cases e : i = k
              · rw [e, HX.out]; omega
              · exact HA.out i (by omega)
          case measure => simp [intOf]; omega
      · exfalso
        have : properB ss = true := properB_true (by rw [HL.out]; omega) (fun j hj => HA.out j (by rw [HL.out] at hj; omega))
        rw [HP.out] at this
        exact absurd this (by decide)
set_option maxHeartbeats 1000000 in
set_option maxRecDepth 100000 in
theorem rpack_yes (a : Option Addr) (n cap : Nat) (ss : List ByteArray) (w : World) (h : StrsAt w a n ss) (hp : properB ss = true) :
    Calls Try.prog 57 #[.slice a n cap] w fun e w' => e = .returned (.tuple #[.string (packed ss), .int .i64 0]) ∧ Below w.heap.size w w' := by
  obtain ⟨h3, h15⟩ := proper_mem hp
  obtain ⟨hl, hm, hmx, hat⟩ := h
  have HAT : Hid (0 < n → ∃ b off, a = some ⟨b, off, none⟩ ∧ b < w.heap.size ∧ ∀ j, j < n → w.cell? ⟨b, off + j, none⟩ = some (.string (ss.getD j ByteArray.empty))) := hat
  have HL : Hid (ss.length = n) := hl
  have hn3 : n ≤ 3 := by omega
  have H15 : Hid (∀ s ∈ ss, s.size ≤ 15) := h15
  clear hat hl hmx hm h15 h3 hp
  have cv := conv_nat
  go_enter Try.func57, Try.ntmps57
  go_wp2
  go_loopw [2, 3, 4, 5, 6] (fun _ _ x y j wr => ∃ (k : Nat) (p q : ByteArray), k ≤ n ∧ j = .int .i64 k ∧ x = .string p ∧ y = .string q ∧ p.data.toList = lens (ss.take k) ∧ q.data.toList = flat (ss.take k) ∧ Below w.heap.size w wr) (fun _ _ _ _ j _ => n - (intOf j).toNat)
  case atStart => exact ⟨0, _, _, Nat.zero_le _, rfl, rfl, rfl, rfl, rfl, Below.refl _ _⟩
  case round =>
    obtain ⟨k, p, q, hk, rfl, rfl, rfl, hp, hq, hbel⟩ := hrel
    have hsz := hbel.size
    have hps : p.size ≤ 3 := by
      have e1 : p.data.toList.length = p.size := by rw [Array.length_toList]; rfl
      have e2 : (ss.take k).length ≤ k := List.length_take_le _ _
      rw [hp, lens_len] at e1
      omega
    have hqs : q.size ≤ 45 := by
      have e1 : q.data.toList.length = q.size := by rw [Array.length_toList]; rfl
      have e2 := sizes_le' (ss.take k) (fun s hs => H15.out s (List.mem_of_mem_take hs))
      have e3 : (ss.take k).length ≤ k := List.length_take_le _ _
      rw [hq] at e1
      omega
    have HPL : Hid (p.data.toList = lens (ss.take k)) := hp
    have HQL : Hid (q.data.toList = flat (ss.take k)) := hq
    clear hp hq
    by_cases hlt : k < n
    · obtain ⟨b, off, rfl, hb, hc⟩ := HAT.out (by omega)
      have hck : wr.cell? ⟨b, off + k, none⟩ = some (.string (ss.getD k ByteArray.empty)) := by rw [hbel.cell (p := ⟨b, off + k, none⟩) hb]; exact hc k hlt
      clear hc
      have HT : Hid (ss.take (k + 1) = ss.take k ++ [ss.getD k ByteArray.empty]) := take_getD ss k (by rw [HL.out]; exact hlt)
      have hx15 : (ss.getD k ByteArray.empty).size ≤ 15 := H15.out _ (getD_mem (by rw [HL.out]; exact hlt))
      generalize ss.getD k ByteArray.empty = x at *
      have hbw : b < wr.heap.size := by omega
      have hck2 : ∀ o, (wr.alloc o).cell? ⟨b, off + k, none⟩ = some (.string x) := fun o => by rw [World.cell?_alloc_lt wr o ⟨b, off + k, none⟩ hbw]; exact hck
      go_wp2
      go_roundw
      case rel =>
        refine ⟨k + 1, _, _, by omega, by go_num, rfl, rfl, ?_, ?_, hbel.alloc hsz _⟩
        · rw [HT.out, lens_snoc, ← HPL.out, ByteArray.data_append, Array.toList_append]
        · rw [HT.out, flat_snoc, ← HQL.out, ByteArray.data_append, Array.toList_append]
      case measure => simp [intOf]; omega
    · obtain rfl : k = n := by omega
      go_wp2
      go_ret2
      refine ⟨ret_two ?_ rfl, hbel.alloc hsz _⟩
      show Value.string _ = Value.string (packed ss)
      congr 1
      apply ba_ext
      rw [← rpacked_data, packL_eq]
      simp only [ByteArray.data_append, Array.toList_append]
      rw [HPL.out, HQL.out, List.take_of_length_le (by rw [HL.out]; exact Nat.le_refl _), HL.out]
      rfl
end Go.Proofs.Ytnclmbolfpojoaa
