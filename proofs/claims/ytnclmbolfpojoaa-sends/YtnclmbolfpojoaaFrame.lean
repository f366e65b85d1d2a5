/-
  The calls of the frame package and of the statements' pick, as contracts: Check gives the check byte, Header the four bytes of a header where its three numbers are bytes, and ErrFrame elsewhere.
-/
import Derived.Test.YtnclmbolfpojoaaProg
import Derived.Test.YtnclmbolfpojoaaCrc
import Derived.WalkKit
import Derived.WalkSpells
import Derived.Laws.BitsAllLaws
import Derived.Laws.BytesString
import Derived.Deep.WholeRow
namespace Go.Proofs.Ytnclmbolfpojoaa
open Go.RowKit
theorem ret_int {k : IntKind} {a b : Int} (h : a = b) : Ending.returned (.int k a) = .returned (.int k b) := by rw [h]
theorem int_val {k : IntKind} {a b : Int} (h : a = b) : Value.int k a = .int k b := by rw [h]

theorem sh_up (n : Nat) (hn : n < 256) (h : (bits BinOp.and IntKind.u8 (n : Int) 128 != 0) = true) :
    bits BinOp.xor IntKind.u8 ((n : Int) * 2 % 256) 7 = ((Skein.sh n : Nat) : Int) := by
  have e1 : bits BinOp.and IntKind.u8 (n : Int) 128 = ((n &&& 128 : Nat) : Int) := u8_and_nat n 128 hn (by omega)
  rw [e1] at h
  have h1 : n &&& 128 ≠ 0 := by
    intro h0
    rw [h0] at h
    exact absurd h (by decide)
  have e2 : bits BinOp.xor IntKind.u8 ((n * 2 % 256 : Nat) : Int) ((7 : Nat) : Int) = ((n * 2 % 256 ^^^ 7 : Nat) : Int) := u8_xor_nat (n * 2 % 256) 7 (by omega) (by omega)
  unfold Skein.sh
  rw [if_neg h1, ← e2]
  congr 1
theorem sh_down (n : Nat) (hn : n < 256) (h : (bits BinOp.and IntKind.u8 (n : Int) 128 != 0) = false) :
    (n : Int) * 2 % 256 = ((Skein.sh n : Nat) : Int) := by
  have e1 : bits BinOp.and IntKind.u8 (n : Int) 128 = ((n &&& 128 : Nat) : Int) := u8_and_nat n 128 hn (by omega)
  rw [e1] at h
  have h1 : n &&& 128 = 0 := by simpa using h
  unfold Skein.sh
  rw [if_pos h1]
  omega
theorem shift_calls (n : Nat) (w : World) (hn : n < 256) :
    Calls Try.prog 87 #[.int .u8 n] w fun e w' => e = .returned (.int .u8 (Skein.sh n)) ∧ w' = w := by
  go_enter Try.func87, Try.ntmps87
  go_wp2
  · go_ret
    exact ⟨ret_int (sh_up n hn ‹_›), rfl⟩
  · go_ret
    exact ⟨ret_int (sh_down n hn ‹_›), rfl⟩

theorem isByte_calls (n : Int) (w : World) :
    Calls Try.prog 32 #[.int .i64 n] w fun e w' => e = .returned (.bool (decide (0 ≤ n ∧ n ≤ 255))) ∧ w' = w := by
  by_cases h1 : 0 ≤ n
  · by_cases h2 : n ≤ 255
    · go_enter Try.func32, Try.ntmps32
      go_wp2
      go_ret
      exact ⟨by simp [h1, h2], rfl⟩
    · go_enter Try.func32, Try.ntmps32
      go_wp2
      go_ret
      exact ⟨by simp [h2], rfl⟩
  · go_enter Try.func32, Try.ntmps32
    go_wp2
    go_ret
    exact ⟨by simp; omega, rfl⟩

def iter (f : Nat → Nat) : Nat → Nat → Nat
  | 0, x => x
  | k + 1, x => f (iter f k x)
theorem iter_lt (k x : Nat) (h : x < 256) : iter Skein.sh k x < 256 := by
  cases k with
  | zero => exact h
  | succ k => exact Skein.sh_lt _
theorem take_snoc (s : ByteArray) (k : Nat) (h : k < s.size) : s.data.toList.take (k + 1) = s.data.toList.take k ++ [s[k]] := by
  rw [List.take_succ_eq_append_getElem (by simpa using h)]; rfl
theorem xor_byte (a : Nat) (b : UInt8) (h : a < 256) : bits BinOp.xor IntKind.u8 (a : Int) (b.toNat : Int) = ((a ^^^ b.toNat : Nat) : Int) :=
  u8_xor_nat a b.toNat h b.toNat_lt

set_option maxHeartbeats 400000 in
theorem check_calls (s : ByteArray) (w : World) (hs : s.size ≤ maxLen) :
    Calls Try.prog 55 #[.string s] w fun e w' => e = .returned (.int .u8 (Skein.crc s.data.toList)) ∧ w' = w := by
  unfold maxLen at hs
  go_enter Try.func55, Try.ntmps55
  go_wp2
  go_loop [3, 4, 7, 15] (fun c i j _ => ∃ k : Nat, k ≤ s.size ∧ j = .int .i64 k ∧ c = .int .u8 (Skein.crc (s.data.toList.take k))) (fun _ _ j _ => s.size - (intOf j).toNat)
  case atStart => exact ⟨0, Nat.zero_le _, rfl, rfl⟩
  case round =>
    obtain ⟨k, hk, rfl, rfl⟩ := hrel
    have hc := Skein.crc_lt (s.data.toList.take k)
    by_cases hlt : k < s.size
    · have hts := take_snoc s k hlt
      have HS : Hid (Skein.crc (s.data.toList.take (k + 1)) = Skein.sh8 (Skein.crc (s.data.toList.take k) ^^^ s[k].toNat)) := by rw [hts]; exact Skein.crc_snoc _ _
      clear hts
      have HX : Hid (bits BinOp.xor IntKind.u8 (Skein.crc (s.data.toList.take k) : Int) (s[k].toNat : Int) = ((Skein.crc (s.data.toList.take k) ^^^ s[k].toNat : Nat) : Int)) := xor_byte (Skein.crc (s.data.toList.take k)) s[k] hc
      go_wp2
      rw [HX.out]
      have hx : Skein.crc (s.data.toList.take k) ^^^ s[k].toNat < 256 := Skein.xor_lt_256 hc s[k].toNat_lt
      generalize Skein.crc (s.data.toList.take k) ^^^ s[k].toNat = x at *
      go_loop [3, 15] (fun c j => ∃ m : Nat, m ≤ 8 ∧ j = .int .i64 m ∧ c = .int .u8 (iter Skein.sh m x)) (fun _ j => 8 - (intOf j).toNat)
      case atStart => exact ⟨0, by omega, rfl, rfl⟩
      case round =>
        obtain ⟨m, hm, rfl, rfl⟩ := hrel
        have hi := iter_lt m x hx
        by_cases hm8 : m < 8
        · go_wp2_with (go_at_call 87; refine (shift_calls _ _ hi).mono ?_; rintro e w' ⟨rfl, rfl⟩)
          go_round
          case rel => exact ⟨m + 1, by omega, by go_num, rfl⟩
          case measure => simp [intOf]; omega
        · obtain rfl : m = 8 := by omega
          go_wp2
          go_round
          case rel => exact ⟨k + 1, by omega, by go_num, int_val (by rw [HS.out]; rfl)⟩
          case measure => simp [intOf]; omega
    · go_wp2
      go_ret
      exact ⟨ret_int (by rw [List.take_of_length_le (by simp; omega)]), rfl⟩
theorem isByte_yes (n : Int) (w : World) (h1 : 0 ≤ n) (h2 : n ≤ 255) :
    Calls Try.prog 32 #[.int .i64 n] w fun e w' => e = .returned (.bool true) ∧ w' = w := by
  refine (isByte_calls n w).mono ?_
  rintro e w' ⟨rfl, rfl⟩
  exact ⟨by simp [h1, h2], rfl⟩
theorem isByte_no (n : Int) (w : World) (h : n < 0 ∨ 255 < n) :
    Calls Try.prog 32 #[.int .i64 n] w fun e w' => e = .returned (.bool false) ∧ w' = w := by
  refine (isByte_calls n w).mono ?_
  rintro e w' ⟨rfl, rfl⟩
  exact ⟨by rw [decide_eq_false (by omega)], rfl⟩
theorem conv_new (w : World) (ns : List Int) (n : Nat) (hn : ns.length = n) :
    (convert 43 9 (.slice (some ⟨w.heap.size, 0, none⟩) n n)).run Try.prog (w.alloc (.cells (ns.map (Value.int .u8)).toArray 5)) = .ok (.string (ns.foldl (fun r n => r.push (UInt8.ofNat n.toNat)) ByteArray.empty)) (w.alloc (.cells (ns.map (Value.int .u8)).toArray 5)) := by
  rw [run_convert_bytes_string _ 43 9 5 _ _ _ Try.underlying43 Try.underlying5 Try.underlying9]
  refine run_bytesToString _ _ _ _ ns ?_
  unfold loadCells
  exact run_loadCellsFrom_new w 5 _ n (by simp [hn])
theorem conv_three (w : World) (a b c : Nat) :
    (convert 43 9 (.slice (some ⟨w.heap.size, 0, none⟩) 3 3)).run Try.prog (w.alloc (.cells #[.int .u8 a, .int .u8 b, .int .u8 c] 5)) = .ok (.string ⟨#[.ofNat a, .ofNat b, .ofNat c]⟩) (w.alloc (.cells #[.int .u8 a, .int .u8 b, .int .u8 c] 5)) :=
  conv_new w [(a : Int), b, c] 3 rfl
theorem conv_one (w : World) (a : Nat) :
    (convert 43 9 (.slice (some ⟨w.heap.size, 0, none⟩) 1 1)).run Try.prog (w.alloc (.cells #[.int .u8 a] 5)) = .ok (.string ⟨#[.ofNat a]⟩) (w.alloc (.cells #[.int .u8 a] 5)) :=
  conv_new w [(a : Int)] 1 rfl
theorem conv_one' (w : World) (o : Obj) (a : Nat) :
    (convert 43 9 (.slice (some ⟨w.heap.size + 1, 0, none⟩) 1 1)).run Try.prog ((w.alloc o).alloc (.cells #[.int .u8 a] 5)) = .ok (.string ⟨#[.ofNat a]⟩) ((w.alloc o).alloc (.cells #[.int .u8 a] 5)) := by
  have := conv_one (w.alloc o) a
  simpa using this
theorem crc_three (a b c : Nat) (ha : a < 256) (hb : b < 256) (hc : c < 256) : Skein.crc [.ofNat a, .ofNat b, .ofNat c] = Skein.crc3 a b c := by
  simp only [Skein.crc, Skein.crcL, Skein.crc3, UInt8.toNat_ofNat', Nat.zero_xor]
  rw [Nat.mod_eq_of_lt ha, Nat.mod_eq_of_lt hb, Nat.mod_eq_of_lt hc]

theorem ret_two {a b x y : Value} (h : a = x) (k : b = y) : Ending.returned (.tuple #[a, b]) = .returned (.tuple #[x, y]) := by rw [h, k]
/-- the four bytes of a header -/
def hdr (a b c : Nat) : ByteArray := ⟨#[.ofNat a, .ofNat b, .ofNat c, .ofNat (Skein.crc3 a b c)]⟩
theorem hdr_eq (a b c : Nat) (ha : a < 256) (hb : b < 256) (hc : c < 256) :
    Value.string ({ data := #[UInt8.ofNat a, UInt8.ofNat b, UInt8.ofNat c] } ++ { data := #[UInt8.ofNat (Skein.crc [UInt8.ofNat a, UInt8.ofNat b, UInt8.ofNat c])] }) = .string (hdr a b c) := by
  rw [crc_three a b c ha hb hc]
  rfl
def isB (n : Int) : Bool := decide (0 ≤ n ∧ n ≤ 255)
theorem isB_calls (n : Int) (w : World) : Calls Try.prog 32 #[.int .i64 n] w fun e w' => e = .returned (.bool (isB n)) ∧ w' = w := isByte_calls n w
theorem isB_nat (n : Nat) (h : n < 256) : isB n = true := by unfold isB; exact decide_eq_true (by omega)

set_option maxHeartbeats 400000 in
set_option maxRecDepth 100000 in
theorem header3_calls (a b c : Nat) (w : World) (ha : a < 256) (hb : b < 256) (hc : c < 256) :
    Calls Try.prog 33 #[.int .u8 a, .int .u8 b, .int .u8 c] w fun e w' => e = .returned (.string (hdr a b c)) ∧ Below w.heap.size w w' := by
  have c3 := conv_three
  have c1 := conv_one'
  go_enter Try.func33, Try.ntmps33
  go_wp2_with fail
  refine (check_calls _ _ (by simp [ByteArray.size, maxLen])).mono ?_
  rintro e w'' ⟨rfl, rfl⟩
  go_wp2_with fail
  go_ret
  exact ⟨congrArg Ending.returned (hdr_eq a b c ha hb hc), ((Below.refl _ _).alloc (Nat.le_refl _) _).alloc (by simp) _⟩
theorem wrap_u8 (n : Nat) (h : n < 256) : IntKind.u8.wrap (n : Int) = (n : Int) := by
  unfold IntKind.wrap
  simp [IntKind.signed, IntKind.bits]
  omega
set_option maxHeartbeats 400000 in
set_option maxRecDepth 100000 in
theorem fheader_yes (a b c : Nat) (w : World) (ha : a < 256) (hb : b < 256) (hc : c < 256) :
    Calls Try.prog 21 #[.int .i64 a, .int .i64 b, .int .i64 c] w fun e w' => e = .returned (.tuple #[.string (hdr a b c), .int .i64 0]) ∧ Below w.heap.size w w' := by
  have ga := isB_nat a ha
  have gb := isB_nat b hb
  have gc := isB_nat c hc
  have wa := wrap_u8 a ha
  have wb := wrap_u8 b hb
  have wc := wrap_u8 c hc
  go_enter Try.func21, Try.ntmps21
  go_wp2_with (go_at_call 32; refine (isB_calls _ _).mono ?_; rintro e w' ⟨rfl, rfl⟩)
  refine (header3_calls a b c _ ha hb hc).mono ?_
  rintro e w'' ⟨rfl, hbl⟩
  go_wp2_with fail
  go_ret2
  exact ⟨ret_two rfl rfl, hbl⟩

set_option maxHeartbeats 400000 in
set_option maxRecDepth 100000 in
theorem fheader_no (a b c : Int) (w : World) (h : (isB a && isB b && isB c) = false) :
    Calls Try.prog 21 #[.int .i64 a, .int .i64 b, .int .i64 c] w fun e w' => e = .returned (.tuple #[.string ⟨#[]⟩, .int .i64 9]) ∧ w' = w := by
  cases ga : isB a
  · clear h
    go_enter Try.func21, Try.ntmps21
    go_wp2_with (go_at_call 32; refine (isB_calls _ _).mono ?_; rintro e w' ⟨rfl, rfl⟩)
    go_ret2
    exact ⟨ret_two rfl rfl, rfl⟩
  · cases gb : isB b
    · clear h
      go_enter Try.func21, Try.ntmps21
      go_wp2_with (go_at_call 32; refine (isB_calls _ _).mono ?_; rintro e w' ⟨rfl, rfl⟩)
      go_ret2
      exact ⟨ret_two rfl rfl, rfl⟩
    · have gc : isB c = false := by simpa [ga, gb] using h
      clear h
      go_enter Try.func21, Try.ntmps21
      go_wp2_with (go_at_call 32; refine (isB_calls _ _).mono ?_; rintro e w' ⟨rfl, rfl⟩)
      go_ret2
      exact ⟨ret_two rfl rfl, rfl⟩

theorem header_yes (a b c : Nat) (w : World) (ha : a < 256) (hb : b < 256) (hc : c < 256) :
    Calls Try.prog 8 #[.int .i64 a, .int .i64 b, .int .i64 c] w fun e w' => e = .returned (.tuple #[.string (hdr a b c), .int .i64 0]) ∧ Below w.heap.size w w' := by
  go_enter Try.func8, Try.ntmps8
  go_wp2_with fail
  refine (fheader_yes a b c _ ha hb hc).mono ?_
  rintro e w' ⟨rfl, hb⟩
  go_wp2_with fail
  go_ret2
  exact ⟨ret_two rfl rfl, hb⟩
theorem header_no (a b c : Int) (w : World) (h : (isB a && isB b && isB c) = false) :
    Calls Try.prog 8 #[.int .i64 a, .int .i64 b, .int .i64 c] w fun e w' => e = .returned (.tuple #[.string ⟨#[]⟩, .int .i64 9]) ∧ w' = w := by
  have H : Hid ((isB a && isB b && isB c) = false) := h
  clear h
  go_enter Try.func8, Try.ntmps8
  go_wp2_with fail
  refine (fheader_no a b c _ H.out).mono ?_
  rintro e w' ⟨rfl, rfl⟩
  go_wp2_with fail
  go_ret2
  exact ⟨ret_two rfl rfl, rfl⟩
/-- what 'pick' picks -/
def pk (c n : Int) : Int := (if c < 0 then -(c + 1) else c) % n
theorem pick_calls (c n : Int) (w : World) (h1 : -9223372036854775808 ≤ c) (h2 : c ≤ 9223372036854775807) (hn : 1 ≤ n) (hn2 : n ≤ 9223372036854775807) :
    Calls Try.prog 15 #[.int .i64 c, .int .i64 n] w fun e w' => e = .returned (.int .i64 (pk c n)) ∧ w' = w := by
  by_cases hc : c < 0
  · have HE : Hid (-(c + 1).tmod n = pk c n) := by
      show _ = _
      unfold pk
      rw [if_pos hc, ← Int.neg_tmod, Int.tmod_eq_emod_of_nonneg (by omega)]
    go_enter Try.func15, Try.ntmps15
    go_wp2
    go_ret
    exact ⟨ret_int HE.out, rfl⟩
  · have HE : Hid (c % n = pk c n) := by
      show _ = _
      unfold pk
      rw [if_neg hc]
    go_enter Try.func15, Try.ntmps15
    go_wp2
    go_ret
    exact ⟨ret_int HE.out, rfl⟩
theorem pk_range (c n : Int) (hn : 1 ≤ n) : 0 ≤ pk c n ∧ pk c n < n := by
  unfold pk
  exact ⟨Int.emod_nonneg _ (by omega), Int.emod_lt_of_pos _ (by omega)⟩
end Go.Proofs.Ytnclmbolfpojoaa
