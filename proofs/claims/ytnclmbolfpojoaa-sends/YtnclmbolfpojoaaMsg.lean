/-
  The message package as contracts: Pack answers the bytes of a message where it is one, and refuses it elsewhere; likewise the statements own test of what a message is.
-/
import Derived.Test.YtnclmbolfpojoaaBuild
import Derived.Test.YtnclmbolfpojoaaFrame
import Derived.WalkKit
import Derived.WalkSpells
namespace Go.Proofs.Ytnclmbolfpojoaa
open Go.RowKit

/-- a slice of strings that lies in memory: its elements -/
def StrsAt (w : World) (a : Option Addr) (n : Nat) (ss : List ByteArray) : Prop :=
  ss.length = n ∧ n ≤ maxLen ∧ (∀ s ∈ ss, s.size ≤ maxLen) ∧ (0 < n → ∃ b off, a = some ⟨b, off, none⟩ ∧ b < w.heap.size ∧ ∀ j, j < n → w.cell? ⟨b, off + j, none⟩ = some (.string (ss.getD j ByteArray.empty)))
/-- is it a message? -/
def properB (ss : List ByteArray) : Bool := decide (ss.length ≤ 3) && ss.all fun s => decide (s.size ≤ 15)

theorem getD_mem {ss : List ByteArray} {j : Nat} (h : j < ss.length) : ss.getD j ByteArray.empty ∈ ss := by
  rw [List.getD_eq_getElem?_getD, List.getElem?_eq_getElem h]
  exact List.getElem_mem h
theorem properB_false_len {ss : List ByteArray} (h : 3 < ss.length) : properB ss = false := by
  unfold properB
  rw [decide_eq_false (by omega)]
  rfl
theorem properB_false_at {ss : List ByteArray} {j : Nat} (hj : j < ss.length) (h : 15 < (ss.getD j ByteArray.empty).size) : properB ss = false := by
  unfold properB
  have : (ss.all fun s => decide (s.size ≤ 15)) = false := by
    rw [List.all_eq_false]
    exact ⟨_, getD_mem hj, by rw [decide_eq_true_eq]; omega⟩
  rw [this, Bool.and_false]
theorem properB_true {ss : List ByteArray} (h : ss.length ≤ 3) (hk : ∀ j, j < ss.length → (ss.getD j ByteArray.empty).size ≤ 15) : properB ss = true := by
  unfold properB
  rw [decide_eq_true h, Bool.true_and, List.all_eq_true]
  intro s hs
  obtain ⟨j, hj, rfl⟩ := List.mem_iff_getElem.1 hs
  have := hk j hj
  rw [List.getD_eq_getElem?_getD, List.getElem?_eq_getElem hj] at this
  exact decide_eq_true this
theorem ret_bool {a b : Bool} (h : a = b) : Ending.returned (.bool a) = .returned (.bool b) := by rw [h]

set_option maxHeartbeats 400000 in
theorem within_calls (a : Option Addr) (n cap : Nat) (ss : List ByteArray) (w : World) (h : StrsAt w a n ss) :
    Calls Try.prog 38 #[.slice a n cap] w fun e w' => e = .returned (.bool (properB ss)) ∧ w' = w := by
  obtain ⟨hl, hm, hmx, hat⟩ := h
  unfold maxLen at hm
  by_cases h3 : 3 < n
  · have H : Hid (false = properB ss) := (properB_false_len (by omega)).symm
    clear hat hmx
    go_enter Try.func38, Try.ntmps38
    go_wp2
    go_ret
    exact ⟨ret_bool H.out, rfl⟩
  · have HAT : Hid (0 < n → ∃ b off, a = some ⟨b, off, none⟩ ∧ b < w.heap.size ∧ ∀ j, j < n → w.cell? ⟨b, off + j, none⟩ = some (.string (ss.getD j ByteArray.empty))) := hat
    have HL : Hid (ss.length = n) := hl
    clear hat hl hmx
    go_enter Try.func38, Try.ntmps38
    go_wp2
    go_loop [4, 10] (fun _ j => ∃ k : Nat, k ≤ n ∧ j = .int .i64 k ∧ ∀ i, i < k → (ss.getD i ByteArray.empty).size ≤ 15) (fun _ j => n - (intOf j).toNat)
    case atStart => exact ⟨0, Nat.zero_le _, rfl, fun i hi => by omega⟩
    case round =>
      obtain ⟨k, hk, rfl, hall⟩ := hrel
      have HA : Hid (∀ i, i < k → (ss.getD i ByteArray.empty).size ≤ 15) := hall
      clear hall
      by_cases hlt : k < n
      · obtain ⟨b, off, rfl, hb, hc⟩ := HAT.out (by omega)
        have hck := hc k hlt
        have HC : Hid (∀ j, j < n → w.cell? ⟨b, off + j, none⟩ = some (.string (ss.getD j ByteArray.empty))) := hc
        clear hc
        generalize hx : ss.getD k ByteArray.empty = x at hck
        have HX : Hid (ss.getD k ByteArray.empty = x) := hx
        clear hx
        by_cases h15 : 15 < x.size
        · go_wp2
          go_ret
          exact ⟨ret_bool (properB_false_at (j := k) (by rw [HL.out]; exact hlt) (by rw [HX.out]; exact h15)).symm, rfl⟩
        · go_wp2
          go_round
          case rel => exact ⟨k + 1, by omega, by go_num, fun i hi => by
            by_cases e : i = k
            · rw [e, HX.out]; omega
            · exact HA.out i (by omega)⟩
          case measure => simp [intOf]; omega
      · go_wp2
        go_ret
        exact ⟨ret_bool (properB_true (by rw [HL.out]; omega) (fun j hj => HA.out j (by rw [HL.out] at hj; omega))).symm, rfl⟩

set_option maxHeartbeats 400000 in
theorem proper_calls (a : Option Addr) (n cap : Nat) (ss : List ByteArray) (w : World) (h : StrsAt w a n ss) :
    Calls Try.prog 11 #[.slice a n cap] w fun e w' => e = .returned (.bool (properB ss)) ∧ w' = w := by
  obtain ⟨hl, hm, hmx, hat⟩ := h
  unfold maxLen at hm
  have HAT : Hid (0 < n → ∃ b off, a = some ⟨b, off, none⟩ ∧ b < w.heap.size ∧ ∀ j, j < n → w.cell? ⟨b, off + j, none⟩ = some (.string (ss.getD j ByteArray.empty))) := hat
  have HL : Hid (ss.length = n) := hl
  clear hat hl hmx
  go_enter Try.func11, Try.ntmps11
  go_wp2
  go_loop [3] (fun j => ∃ k : Nat, k ≤ n ∧ j = .int .i64 k ∧ ∀ i, i < k → (ss.getD i ByteArray.empty).size ≤ 15) (fun j => n - (intOf j).toNat)
  case atStart => exact ⟨0, Nat.zero_le _, rfl, fun i hi => by omega⟩
  case round =>
    obtain ⟨k, hk, rfl, hall⟩ := hrel
    have HA : Hid (∀ i, i < k → (ss.getD i ByteArray.empty).size ≤ 15) := hall
    clear hall
    by_cases hlt : k < n
    · obtain ⟨b, off, rfl, hb, hc⟩ := HAT.out (by omega)
      have hck := hc k hlt
      have HC : Hid (∀ j, j < n → w.cell? ⟨b, off + j, none⟩ = some (.string (ss.getD j ByteArray.empty))) := hc
      clear hc
      generalize hx : ss.getD k ByteArray.empty = x at hck
      have HX : Hid (ss.getD k ByteArray.empty = x) := hx
      clear hx
      by_cases h15 : 15 < x.size
      · go_wp2
        go_ret
        exact ⟨ret_bool (properB_false_at (j := k) (by rw [HL.out]; exact hlt) (by rw [HX.out]; exact h15)).symm, rfl⟩
      · go_wp2
        go_round
        case rel => exact ⟨k + 1, by omega, by go_num, fun i hi => by
          by_cases e : i = k
          · rw [e, HX.out]; omega
          · exact HA.out i (by omega)⟩
        case measure => simp [intOf]; omega
    · by_cases h3 : 3 < n
      · go_wp2
        go_ret
        exact ⟨ret_bool (by rw [properB_false_len (by rw [HL.out]; exact h3)]; simp; omega), rfl⟩
      · go_wp2
        go_ret
        exact ⟨ret_bool (by rw [properB_true (by rw [HL.out]; omega) (fun j hj => HA.out j (by rw [HL.out] at hj; omega))]; simp; omega), rfl⟩

/-- the bytes of a message -/
def packL (ss : List ByteArray) : List UInt8 := UInt8.ofNat ss.length :: (ss.map (fun s => UInt8.ofNat s.size) ++ ss.flatMap (fun s => s.data.toList))
def packed (ss : List ByteArray) : ByteArray := ⟨(packL ss).toArray⟩
theorem take_getD (ss : List ByteArray) (k : Nat) (h : k < ss.length) : ss.take (k + 1) = ss.take k ++ [ss.getD k ByteArray.empty] := by
  rw [List.take_succ_eq_append_getElem h, List.getD_eq_getElem?_getD, List.getElem?_eq_getElem h]
  rfl
theorem proper_at {ss : List ByteArray} (h : properB ss = true) : ss.length ≤ 3 ∧ ∀ j, j < ss.length → (ss.getD j ByteArray.empty).size ≤ 15 := by
  unfold properB at h
  rw [Bool.and_eq_true, decide_eq_true_eq, List.all_eq_true] at h
  exact ⟨h.1, fun j hj => of_decide_eq_true (h.2 _ (getD_mem hj))⟩
theorem flat_len (ss : List ByteArray) (h : ∀ j, j < ss.length → (ss.getD j ByteArray.empty).size ≤ 15) : (ss.flatMap (fun s => s.data.toList)).length ≤ 15 * ss.length := by
  induction ss with
  | nil => simp
  | cons x r ih =>
    have h0 := h 0 (by simp)
    have h1 := ih (fun j hj => by have := h (j + 1) (by simpa using hj); simpa using this)
    have h2 : x.data.toList.length = x.size := by rw [Array.length_toList]; rfl
    simp only [List.flatMap_cons, List.length_append, List.length_cons, h2]
    simp at h0
    omega

theorem writeByte_nat (B b : Nat) (acc : List UInt8) (c : Nat) (w : World) (h : Lib.IsBuilder 84 5 B b (Lib.byteCells acc) w) (hc : c < 256) (hlen : acc.length ≤ 1048576) (hBw : B ≤ w.heap.size) :
    Calls Try.prog 39 #[.pointer (some ⟨b, 0, none⟩), .int .u8 c] w fun e w' => e = .returned .nilIface ∧ Lib.IsBuilder 84 5 B b (Lib.byteCells (acc ++ [UInt8.ofNat c])) w' ∧ Below B w w' := by
  refine (writeByte_calls B b _ c w h (by rw [Lib.byteCells_length]; exact hlen) hBw).mono ?_
  rintro e w' ⟨rfl, h1, h2⟩
  refine ⟨rfl, ?_, h2⟩
  rw [Lib.byteCells_append]
  have e1 : Lib.byteCells [UInt8.ofNat c] = [Value.int .u8 (c : Int)] := by
    simp only [Lib.byteCells, List.map_cons, List.map_nil, UInt8.toNat_ofNat', Nat.reducePow]
    rw [Nat.mod_eq_of_lt hc]
  rw [e1]
  exact h1
theorem writeString_nat (B b : Nat) (acc : List UInt8) (s : ByteArray) (w : World) (h : Lib.IsBuilder 84 5 B b (Lib.byteCells acc) w) (hlen : acc.length + s.size ≤ 100000000000000) (hBw : B ≤ w.heap.size) :
    Calls Try.prog 40 #[.pointer (some ⟨b, 0, none⟩), .string s] w fun e w' => e = .returned (.tuple #[.int .i64 s.size, .nilIface]) ∧ Lib.IsBuilder 84 5 B b (Lib.byteCells (acc ++ s.data.toList)) w' ∧ Below B w w' := by
  refine (writeString_calls B b _ s w h (by rw [Lib.byteCells_length]; exact hlen) hBw).mono ?_
  rintro e w' ⟨rfl, h1, h2⟩
  refine ⟨rfl, ?_, h2⟩
  rw [Lib.byteCells_append]
  exact h1
def lens (ss : List ByteArray) : List UInt8 := ss.map (fun s => UInt8.ofNat s.size)
def flat (ss : List ByteArray) : List UInt8 := ss.flatMap (fun s => s.data.toList)
theorem lens_snoc (ss : List ByteArray) (x : ByteArray) : lens (ss ++ [x]) = lens ss ++ [UInt8.ofNat x.size] := by simp [lens]
theorem flat_snoc (ss : List ByteArray) (x : ByteArray) : flat (ss ++ [x]) = flat ss ++ x.data.toList := by simp [flat]
theorem lens_len (ss : List ByteArray) : (lens ss).length = ss.length := by simp [lens]
theorem flat_take_len (ss : List ByteArray) (h : ∀ j, j < ss.length → (ss.getD j ByteArray.empty).size ≤ 15) (k : Nat) : (flat (ss.take k)).length ≤ 15 * ss.length := by
  have h1 := flat_len (ss.take k) (fun j hj => by
    have h2 : j < ss.length := by rw [List.length_take] at hj; omega
    have := h j h2
    rw [List.getD_eq_getElem?_getD] at this ⊢
    rw [List.getElem?_take_of_lt (by rw [List.length_take] at hj; omega)]
    exact this)
  have h3 : (ss.take k).length ≤ ss.length := List.length_take_le' _ _
  unfold flat
  omega
theorem u8_len (n : Nat) (h : n < 256) : IntKind.u8.wrap (n : Int) = ((UInt8.ofNat n).toNat : Int) := by
  rw [IntKind.wrap_u8', UInt8.toNat_ofNat', Nat.mod_eq_of_lt (by omega)]
  omega

set_option maxHeartbeats 1000000 in
set_option maxRecDepth 100000 in
theorem pack_no (a : Option Addr) (n cap : Nat) (ss : List ByteArray) (w : World) (h : StrsAt w a n ss) (hp : properB ss = false) :
    Calls Try.prog 24 #[.slice a n cap] w fun e w' => e = .returned (.tuple #[.string ⟨#[]⟩, .int .i64 3]) ∧ w' = w := by
  have HS : Hid (StrsAt w a n ss) := h
  clear h
  go_enter Try.func24, Try.ntmps24
  go_wp2_with (go_at_call 38; refine (within_calls a n cap ss _ HS.out).mono ?_; rintro e w' ⟨rfl, rfl⟩)
  go_ret2
  exact ⟨ret_two rfl rfl, rfl⟩

set_option maxHeartbeats 1000000 in
set_option maxRecDepth 100000 in
theorem pack_yes (a : Option Addr) (n cap : Nat) (ss : List ByteArray) (w : World) (h : StrsAt w a n ss) (hp : properB ss = true) :
    Calls Try.prog 24 #[.slice a n cap] w fun e w' => e = .returned (.tuple #[.string (packed ss), .int .i64 0]) ∧ Below w.heap.size w w' := by
  obtain ⟨h3, h15⟩ := proper_at hp
  have HS : Hid (StrsAt w a n ss) := h
  obtain ⟨hl, hm, hmx, hat⟩ := h
  have HAT : Hid (0 < n → ∃ b off, a = some ⟨b, off, none⟩ ∧ b < w.heap.size ∧ ∀ j, j < n → w.cell? ⟨b, off + j, none⟩ = some (.string (ss.getD j ByteArray.empty))) := hat
  have HL : Hid (ss.length = n) := hl
  have hn3 : n ≤ 3 := by omega
  have H15 : Hid (∀ j, j < ss.length → (ss.getD j ByteArray.empty).size ≤ 15) := h15
  clear hat hl hmx hm h15 h3
  go_enter Try.func24, Try.ntmps24
  go_wp2_with (go_at_call 38; refine (within_calls a n cap ss _ HS.out).mono ?_; rintro e w' ⟨rfl, rfl⟩)
  refine (writeByte_nat w'.heap.size w'.heap.size [] n _ (Lib.fresh_isBuilder 84 5 w') (by omega) (by simp) (by simp)).mono ?_
  rintro e w1 ⟨rfl, hI1, hB1⟩
  have hbel1 : Below w'.heap.size w' w1 := ((Below.refl _ w').alloc (Nat.le_refl _) _).trans hB1
  clear hB1
  go_wp2_with fail
  go_loopw [6, 18] (fun _ j wr => ∃ k : Nat, k ≤ n ∧ j = .int .i64 k ∧ Lib.IsBuilder 84 5 w'.heap.size w'.heap.size (Lib.byteCells (UInt8.ofNat n :: lens (ss.take k))) wr ∧ Below w'.heap.size w' wr) (fun _ j _ => n - (intOf j).toNat)
  case atStart => exact ⟨0, Nat.zero_le _, rfl, hI1, hbel1⟩
  case round =>
    clear hI1 hbel1 w1
    obtain ⟨k, hk, rfl, hI, hbel⟩ := hrel
    have hsz := hbel.size
    by_cases hlt : k < n
    · obtain ⟨b, off, rfl, hb, hc⟩ := HAT.out (by omega)
      have hck : wr.cell? ⟨b, off + k, none⟩ = some (.string (ss.getD k ByteArray.empty)) := by rw [hbel.cell (p := ⟨b, off + k, none⟩) hb]; exact hc k hlt
      clear hc
      have hx15 := H15.out k (by rw [HL.out]; exact hlt)
      have HT : Hid (ss.take (k + 1) = ss.take k ++ [ss.getD k ByteArray.empty]) := take_getD ss k (by rw [HL.out]; exact hlt)
      generalize ss.getD k ByteArray.empty = x at *
      go_wp2_with fail
      refine (writeByte_nat w'.heap.size w'.heap.size _ x.size _ hI (by omega) (by simp [lens]; omega) hsz).mono ?_
      rintro e w2 ⟨rfl, hI2, hB2⟩
      go_wp2_with fail
      go_roundw
      case rel => exact ⟨k + 1, by omega, by go_num, by rw [HT.out, lens_snoc]; exact hI2, hbel.trans hB2⟩
      case measure => simp [intOf]; omega
    · obtain rfl : k = n := by omega
      rw [List.take_of_length_le (by rw [HL.out]; exact Nat.le_refl _)] at hI
      go_wp2_with fail
      go_loopw [8, 29] (fun _ j wr => ∃ i : Nat, i ≤ k ∧ j = .int .i64 i ∧ Lib.IsBuilder 84 5 w'.heap.size w'.heap.size (Lib.byteCells ((UInt8.ofNat k :: lens ss) ++ flat (ss.take i))) wr ∧ Below w'.heap.size w' wr) (fun _ j _ => k - (intOf j).toNat)
      case atStart => exact ⟨0, Nat.zero_le _, rfl, by simpa [flat] using hI, hbel⟩
      case round =>
        clear hI hbel hsz
        obtain ⟨i, hi, rfl, hI, hbel⟩ := hrel
        have hsz := hbel.size
        by_cases hlt : i < k
        · obtain ⟨b, off, rfl, hb, hc⟩ := HAT.out (by omega)
          have hck : wr.cell? ⟨b, off + i, none⟩ = some (.string (ss.getD i ByteArray.empty)) := by rw [hbel.cell (p := ⟨b, off + i, none⟩) hb]; exact hc i hlt
          clear hc
          have hx15 := H15.out i (by rw [HL.out]; exact hlt)
          have HT : Hid (ss.take (i + 1) = ss.take i ++ [ss.getD i ByteArray.empty]) := take_getD ss i (by rw [HL.out]; exact hlt)
          have hfl := flat_take_len ss H15.out i
          have hll := HL.out
          generalize ss.getD i ByteArray.empty = x at *
          go_wp2_with fail
          refine (writeString_nat w'.heap.size w'.heap.size _ x _ hI (by simp [lens]; omega) hsz).mono ?_
          rintro e w2 ⟨rfl, hI2, hB2⟩
          go_wp2_with fail
          go_roundw
          case rel => exact ⟨i + 1, by omega, by go_num, by rw [HT.out, flat_snoc, ← List.append_assoc]; exact hI2, hbel.trans hB2⟩
          case measure => simp [intOf]; omega
        · obtain rfl : i = k := by omega
          rw [List.take_of_length_le (by rw [HL.out]; exact Nat.le_refl _)] at hI
          go_wp2_with fail
          refine (string_calls w'.heap.size w'.heap.size _ _ hI hsz).mono ?_
          rintro e w2 ⟨rfl, hB2⟩
          go_wp2_with fail
          go_ret2
          refine ⟨ret_two ?_ rfl, hbel.trans hB2⟩
          rw [← HL.out]
          rfl
end Go.Proofs.Ytnclmbolfpojoaa
