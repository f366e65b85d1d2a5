/-
  The statement Packed holds for every input: what is packed is unpacked as it was, what is unpacked is packed as the bytes that it was, and what is no message is refused; the arguments read as they did.
-/
import Derived.Test.YtpdobhoebjoijaaRows
import Derived.Test.YtpdobhoebjoijaaUnp
import Derived.ProofKit
import Derived.OpenShut
import Derived.ShutString
import Derived.ChangeOld
import Derived.Below
import Derived.SliceStrings
import Derived.WalkKit
import Derived.WalkSpells
import Derived.BigRegion
import Derived.BigQuiet
import Derived.Deep.QuietTactic
import Derived.Deep.RegionHeld
import Derived.Deep.DrawnRows
namespace Go.Proofs.Ytpdobhoebjoijaa
open Go.RowKit
def sizes (ss : List ByteArray) : Nat := match ss with
  | [] => 0
  | s :: r => s.size + sizes r
theorem sizes_snoc (ss : List ByteArray) (x : ByteArray) : sizes (ss ++ [x]) = sizes ss + x.size := by
  induction ss with
  | nil => simp [sizes]
  | cons a r ih => simp [sizes, ih]; omega
theorem sizes_le (ss : List ByteArray) (h : ∀ s ∈ ss, s.size ≤ 15) : sizes ss ≤ 15 * ss.length := by
  induction ss with
  | nil => simp [sizes]
  | cons a r ih => have := ih (fun x hx => h x (by simp [hx])); have := h a (by simp); simp [sizes]; omega
theorem sizes_flat (ss : List ByteArray) : sizes ss = (flat ss).length := by
  induction ss with
  | nil => rfl
  | cons a r ih =>
    have h : a.data.toList.length = a.size := by rw [Array.length_toList]; rfl
    show a.size + sizes r = (a.data.toList ++ flat r).length
    rw [List.length_append, ih, h]
theorem mem_take' {ss : List ByteArray} {k : Nat} {s : ByteArray} (h : s ∈ ss.take k) : s ∈ ss := List.mem_of_mem_take h

set_option maxHeartbeats 400000 in
theorem size_calls (a : Option Addr) (n cap : Nat) (ss : List ByteArray) (w : World) (h : StrsAt w a n ss) (hp : properB ss = true) :
    Calls Try.prog 9 #[.slice a n cap] w fun e w' => e = .returned (.int .i64 (1 + n + sizes ss : Nat)) ∧ w' = w := by
  obtain ⟨hl, hm, hmx, hat⟩ := h
  obtain ⟨h3, h15⟩ := proper_mem hp
  have HAT : Hid (0 < n → ∃ b off, a = some ⟨b, off, none⟩ ∧ b < w.heap.size ∧ ∀ j, j < n → w.cell? ⟨b, off + j, none⟩ = some (.string (ss.getD j ByteArray.empty))) := hat
  have HL : Hid (ss.length = n) := hl
  have hn3 : n ≤ 3 := by omega
  have H15 : Hid (∀ s ∈ ss, s.size ≤ 15) := h15
  clear hat hl hmx hm h15 h3 hp
  go_enter Try.func9, Try.ntmps9
  go_wp2
  go_loop [3, 4] (fun t j => ∃ k : Nat, k ≤ n ∧ j = .int .i64 k ∧ t = .int .i64 (1 + n + sizes (ss.take k) : Nat)) (fun _ j => n - (intOf j).toNat)
  case atStart => exact ⟨0, Nat.zero_le _, rfl, int_val (by simp [sizes])⟩
  case round =>
    obtain ⟨k, hk, rfl, rfl⟩ := hrel
    have hz := sizes_le (ss.take k) (fun s hs => H15.out s (mem_take' hs))
    have hzl : (ss.take k).length ≤ k := List.length_take_le _ _
    by_cases hlt : k < n
    · obtain ⟨b, off, rfl, hb, hc⟩ := HAT.out (by omega)
      have hck := hc k hlt
      clear hc
      have HT : Hid (ss.take (k + 1) = ss.take k ++ [ss.getD k ByteArray.empty]) := take_getD ss k (by rw [HL.out]; exact hlt)
      have hx15 : (ss.getD k ByteArray.empty).size ≤ 15 := H15.out _ (getD_mem (by rw [HL.out]; exact hlt))
      generalize ss.getD k ByteArray.empty = x at *
      generalize hzz : sizes (ss.take k) = z at *
      have HZ : Hid (sizes (ss.take k) = z) := hzz
      clear hzz
      go_wp2
      go_round
      case rel => exact ⟨k + 1, by omega, by go_num, int_val (by rw [HT.out, sizes_snoc, HZ.out]; omega)⟩
      case measure => simp [intOf]; omega
    · obtain rfl : k = n := by omega
      have HF : Hid (ss.take k = ss) := List.take_of_length_le (by rw [HL.out]; exact Nat.le_refl _)
      go_wp2
      go_ret
      exact ⟨ret_int (by rw [HF.out]), rfl⟩

/-- a message as one text, as the statements have it -/
def jn (ss : List ByteArray) : ByteArray := match ss with
  | [] => ⟨#[]⟩
  | s :: r => (⟨#[UInt8.ofNat (97 + s.size)]⟩ ++ s) ++ jn r
theorem ba_append_assoc (a b c : ByteArray) : a ++ b ++ c = a ++ (b ++ c) := by
  apply ba_ext
  simp [ByteArray.data_append]
theorem jn_snoc (ss : List ByteArray) (x : ByteArray) : jn (ss ++ [x]) = jn ss ++ ⟨#[UInt8.ofNat (97 + x.size)]⟩ ++ x := by
  induction ss with
  | nil => apply ba_ext; simp [jn, ByteArray.data_append]
  | cons a r ih =>
    show (⟨#[UInt8.ofNat (97 + a.size)]⟩ ++ a) ++ jn (r ++ [x]) = _
    rw [ih]
    show _ = (⟨#[UInt8.ofNat (97 + a.size)]⟩ ++ a) ++ jn r ++ _ ++ _
    simp only [ba_append_assoc]
theorem jn_size (ss : List ByteArray) (h : ∀ s ∈ ss, s.size ≤ 15) : (jn ss).size ≤ 16 * ss.length := by
  induction ss with
  | nil => simp [jn, ByteArray.size]
  | cons a r ih =>
    have h1 := ih (fun x hx => h x (by simp [hx]))
    have h2 := h a (by simp)
    show ((⟨#[UInt8.ofNat (97 + a.size)]⟩ ++ a) ++ jn r).size ≤ _
    rw [ByteArray.size_append, ByteArray.size_append]
    have h3 : (⟨#[UInt8.ofNat (97 + a.size)]⟩ : ByteArray).size = 1 := rfl
    rw [h3, List.length_cons]
    omega
theorem conv_ch (w : World) (x : Nat) :
    (convert 34 9 (.slice (some ⟨w.heap.size, 0, none⟩) 1 1)).run Try.prog (w.alloc (.cells #[.int .u8 (97 + (x : Int))] 5)).drew = .ok (.string ⟨#[.ofNat (97 + x)]⟩) (w.alloc (.cells #[.int .u8 (97 + (x : Int))] 5)).drew := by
  have h := conv_one w.drew (97 + x)
  rw [show ((97 + x : Nat) : Int) = 97 + (x : Int) by omega] at h
  exact h
theorem wrap_ch (n : Nat) (h : n ≤ 15) : IntKind.u8.wrap (97 + (n : Int)) = 97 + (n : Int) := by
  rw [IntKind.wrap_u8']; omega
theorem wrap_ch64 (n : Nat) (h : n ≤ 15) : IntKind.i64.wrap (97 + (n : Int)) = 97 + (n : Int) := by
  simp [IntKind.wrap, IntKind.bits, IntKind.signed]
  omega

set_option maxHeartbeats 1000000 in
set_option maxRecDepth 100000 in
theorem joined_calls (a : Option Addr) (n cap : Nat) (ss : List ByteArray) (w : World) (h : StrsAt w a n ss) (hp : properB ss = true) :
    Calls Try.prog 10 #[.slice a n cap] w fun e w' => e = .returned (.string (jn ss)) ∧ Below w.heap.size w w' := by
  obtain ⟨hl, hm, hmx, hat⟩ := h
  obtain ⟨h3, h15⟩ := proper_mem hp
  have HAT : Hid (0 < n → ∃ b off, a = some ⟨b, off, none⟩ ∧ b < w.heap.size ∧ ∀ j, j < n → w.cell? ⟨b, off + j, none⟩ = some (.string (ss.getD j ByteArray.empty))) := hat
  have HL : Hid (ss.length = n) := hl
  have hn3 : n ≤ 3 := by omega
  have H15 : Hid (∀ s ∈ ss, s.size ≤ 15) := h15
  clear hat hl hmx hm h15 h3 hp
  go_enter Try.func10, Try.ntmps10
  go_wp2
  go_loopw [3, 4] (fun t j wr => ∃ k : Nat, k ≤ n ∧ j = .int .i64 k ∧ t = .string (jn (ss.take k)) ∧ Below w.heap.size w wr) (fun _ j _ => n - (intOf j).toNat)
  case atStart => exact ⟨0, Nat.zero_le _, rfl, rfl, Below.refl _ _⟩
  case round =>
    obtain ⟨k, hk, rfl, rfl, hbel⟩ := hrel
    have hsz := hbel.size
    by_cases hlt : k < n
    · obtain ⟨b, off, rfl, hb, hc⟩ := HAT.out (by omega)
      have hck : wr.cell? ⟨b, off + k, none⟩ = some (.string (ss.getD k ByteArray.empty)) := by rw [hbel.cell (p := ⟨b, off + k, none⟩) hb]; exact hc k hlt
      clear hc
      have HT : Hid (ss.take (k + 1) = ss.take k ++ [ss.getD k ByteArray.empty]) := take_getD ss k (by rw [HL.out]; exact hlt)
      have hx15 : (ss.getD k ByteArray.empty).size ≤ 15 := H15.out _ (getD_mem (by rw [HL.out]; exact hlt))
      generalize ss.getD k ByteArray.empty = x at *
      have c1 := conv_ch
      have wx := wrap_ch x.size hx15
      have wy := wrap_ch64 x.size hx15
      have hi0 : (0 : Int) ≤ (k : Int) := by omega
      have hj : (jn (ss.take k)).size ≤ 48 := by
        have := jn_size (ss.take k) (fun s hs => H15.out s (mem_take' hs))
        have hzl : (ss.take k).length ≤ k := List.length_take_le _ _
        omega
      generalize hjj : jn (ss.take k) = y at *
      have HJ : Hid (jn (ss.take k) = y) := hjj
      clear hjj
      have hi1 : (k : Int) < (n : Int) := by omega
      go_wp2
      go_region_held (fun w' => w'.cell? ⟨b, off + k, none⟩ = some (.string x)) (go_keep) (fail)
      go_wp2
      go_roundw
      case rel => exact ⟨k + 1, by omega, by go_num, by rw [HT.out, jn_snoc, HJ.out, UInt8.ofNat_add]; rfl, (hbel.alloc hsz _).drew⟩
      case measure => simp [intOf]; omega
    · obtain rfl : k = n := by omega
      have HF : Hid (ss.take k = ss) := List.take_of_length_le (by rw [HL.out]; exact Nat.le_refl _)
      go_wp2
      go_ret
      rw [HF.out]
      exact ⟨rfl, hbel⟩

theorem StrsAt.below {w w' : World} {a : Option Addr} {n : Nat} {ss : List ByteArray} (h : StrsAt w a n ss) (hb : Below w.heap.size w w') : StrsAt w' a n ss := by
  obtain ⟨h1, h2, h3, h4⟩ := h
  refine ⟨h1, h2, h3, fun hn => ?_⟩
  obtain ⟨b, off, e, hlt, hc⟩ := h4 hn
  exact ⟨b, off, e, Nat.lt_of_lt_of_le hlt hb.size, fun j hj => by rw [hb.cell (p := ⟨b, off + j, none⟩) hlt]; exact hc j hj⟩
theorem StrsAt.row {w : World} {g : Nat} {ps : List ByteArray} (hp : properB ps = true) (h : w.rowIs g 9 ps.length (fun j => .string (ps.getD j ByteArray.empty))) : StrsAt w (some ⟨g, 0, none⟩) ps.length ps := by
  obtain ⟨h3, h15⟩ := proper_mem hp
  refine ⟨rfl, by unfold maxLen; omega, fun s hs => by have := h15 s hs; unfold maxLen; omega, fun _ => ⟨g, 0, rfl, h.lt, fun j hj => ?_⟩⟩
  rw [Nat.zero_add]
  exact h.cell hj
theorem StrsAt.nil (w : World) : StrsAt w none 0 [] := ⟨rfl, by unfold maxLen; omega, by simp, fun h => by omega⟩
theorem packed_data (ss : List ByteArray) : packL ss = (packed ss).data.toList := rfl
theorem packed_size (ss : List ByteArray) : (packed ss).size = 1 + ss.length + sizes ss := by
  show (packL ss).toArray.size = _
  rw [List.size_toArray, packL_eq, List.length_cons, List.length_append, lens_len, sizes_flat]
  omega
def abS : ByteArray := ⟨#[97, 98]⟩
theorem ab_proper : properB [abS] = true := by decide
theorem ab_packed : packL [abS] = (⟨#[1, 2, 97, 98]⟩ : ByteArray).data.toList := by decide
theorem nil_proper : properB [] = true := by decide

set_option maxHeartbeats 2000000 in
set_option maxRecDepth 100000 in
theorem packed_walk (a : Option Addr) (n cap : Nat) (ss : List ByteArray) (raw : ByteArray) (w : World) (h : StrsAt w a n ss) (hraw : raw.size ≤ maxLen) :
    Calls Try.prog 3 #[.slice a n cap, .string raw] w fun e w' => e = .returned (.bool true) ∧ Below w.heap.size w w' := by
  have HS : Hid (StrsAt w a n ss) := h
  clear h
  have hab : (⟨#[1, 2, 97, 98]⟩ : ByteArray).size ≤ maxLen := by unfold maxLen; decide
  have hab2 : (abS.toList == [97, 98]) = true := by rw [ByteArray.toList_eq]; decide
  cases hp : properB ss
  · have HP : Hid (properB ss = false) := hp
    clear hp
    go_enter Try.func3, Try.ntmps3
    go_wp2_with fail
    refine (spack_no a n cap ss _ HS.out HP.out).mono ?_
    rintro e w1 ⟨rfl, hw1⟩
    have hb1 : Below w.heap.size w w1 := by rw [hw1]; exact Below.refl _ _
    clear hw1
    go_wp2_with fail
    refine (proper_calls a n cap ss _ (HS.out.below hb1)).mono ?_
    rintro e w2 ⟨rfl, hw2⟩
    have hb2 : Below w.heap.size w w2 := by rw [hw2]; exact hb1
    clear hw2 hb1 w1
    rw [HP.out]
    go_wp2_with fail
    have hs2 := hb2.size
    by_cases hv : ∃ ps, properB ps = true ∧ packL ps = raw.data.toList
    · obtain ⟨ps, hpp, hpk⟩ := hv
      refine (unpack_yes raw ps _ hraw hpp hpk).mono ?_
      rintro e w3 ⟨g, rfl, hg, hrow, hb3⟩
      have HPP : Hid (properB ps = true) := hpp
      have HRW : Hid (packed ps = raw) := by
        show _ = _
        apply ba_ext
        rw [← packed_data]; exact hpk
      clear hpp hpk
      go_wp2_with fail
      refine (spack_yes _ _ _ ps _ (StrsAt.row HPP.out hrow) HPP.out).mono ?_
      rintro e w4 ⟨rfl, hb4⟩
      rw [HRW.out]
      have hs3 := hb3.size
      have hs4 := hb4.size
      go_wp2_with fail
      refine (unpack_yes ⟨#[1, 2, 97, 98]⟩ [abS] _ hab ab_proper ab_packed).mono ?_
      rintro e w5 ⟨g5, rfl, hg5, hrow5, hb5⟩
      have hcell : w5.cell? ⟨g5, 0, none⟩ = some (.string abS) := hrow5.cell (by decide)
      have hbb : Below w.heap.size w w5 := ((hb2.trans (hb3.mono hs2)).trans (hb4.mono (by omega))).trans (hb5.mono (by omega))
      clear hrow hrow5 hb2 hb3 hb4 hb5 hs2 hs3 hs4 hg hg5
      go_wp2_with fail
      go_ret
      exact ⟨rfl, hbb⟩
    · have HV : Hid (∀ ps, properB ps = true → packL ps ≠ raw.data.toList) := fun ps h1 h2 => hv ⟨ps, h1, h2⟩
      clear hv
      refine (unpack_no raw _ hraw HV.out).mono ?_
      rintro e w3 ⟨rfl, hb3⟩
      go_wp2_with fail
      refine (spack_yes none 0 0 [] _ (StrsAt.nil _) nil_proper).mono ?_
      rintro e w4 ⟨rfl, hb4⟩
      have hs3 := hb3.size
      have hs4 := hb4.size
      go_wp2_with fail
      refine (unpack_yes ⟨#[1, 2, 97, 98]⟩ [abS] _ hab ab_proper ab_packed).mono ?_
      rintro e w5 ⟨g5, rfl, hg5, hrow5, hb5⟩
      have hcell : w5.cell? ⟨g5, 0, none⟩ = some (.string abS) := hrow5.cell (by decide)
      have hbb : Below w.heap.size w w5 := ((hb2.trans (hb3.mono hs2)).trans (hb4.mono (by omega))).trans (hb5.mono (by omega))
      clear hrow5 hb2 hb3 hb4 hb5 hs2 hs3 hs4 hg5
      go_wp2_with fail
      go_ret
      exact ⟨rfl, hbb⟩
  · have HP : Hid (properB ss = true) := hp
    have hn3 := (proper_mem hp).1
    have h15 := (proper_mem hp).2
    have hz := sizes_le ss h15
    have HL : Hid (ss.length = n) := HS.out.1
    have hnn : n ≤ 3 := by rw [← HL.out]; exact hn3
    have hps := packed_size ss
    have HPZ : Hid ((packed ss).size = 1 + n + sizes ss) := by show _ = _; rw [hps, HL.out]
    have hpm : (packed ss).size ≤ maxLen := by unfold maxLen; omega
    clear hp h15 hps
    go_enter Try.func3, Try.ntmps3
    go_wp2_with fail
    refine (spack_yes a n cap ss _ HS.out HP.out).mono ?_
    rintro e w1 ⟨rfl, hb1⟩
    go_wp2_with fail
    refine (proper_calls a n cap ss _ (HS.out.below hb1)).mono ?_
    rintro e w1' ⟨rfl, hw1⟩
    rw [hw1, HP.out]
    clear hw1 w1'
    go_wp2_with fail
    refine (unpack_yes (packed ss) ss _ hpm HP.out (packed_data ss)).mono ?_
    rintro e w2 ⟨g, rfl, hg, hrow, hb2⟩
    have hs1 := hb1.size
    have hb12 := hb1.trans (hb2.mono hs1)
    go_wp2_with fail
    refine (size_calls a n cap ss _ (HS.out.below hb12) HP.out).mono ?_
    rintro e w2' ⟨rfl, hw2⟩
    rw [hw2, HL.out]
    clear hw2 w2'
    have hq1 : ((packed ss).size : Int) = 1 + (n : Int) + (sizes ss : Int) := by
      rw [HPZ.out]; omega
    have hs2 := hb2.size
    have hr0 := StrsAt.row HP.out hrow
    rw [HL.out] at hr0
    go_wp2_with fail
    refine (joined_calls _ n n ss _ hr0 HP.out).mono ?_
    rintro e w3 ⟨rfl, hb3⟩
    have hs3 := hb3.size
    have hb13 := hb12.trans (hb3.mono (by omega))
    go_wp2_with fail
    refine (joined_calls a n cap ss _ (HS.out.below hb13) HP.out).mono ?_
    rintro e w4 ⟨rfl, hb4⟩
    have hb14 := hb13.trans (hb4.mono (by omega))
    clear hq1 hr0 hrow hb1 hb2 hb3 hb4 hb12 hb13 hs1 hs2 hs3 hg hz
    have hb2 := hb14
    clear hb14
    go_wp2_with fail
    have hs2 := hb2.size
    by_cases hv : ∃ ps, properB ps = true ∧ packL ps = raw.data.toList
    · obtain ⟨ps, hpp, hpk⟩ := hv
      refine (unpack_yes raw ps _ hraw hpp hpk).mono ?_
      rintro e w3 ⟨g, rfl, hg, hrow, hb3⟩
      have HPP : Hid (properB ps = true) := hpp
      have HRW : Hid (packed ps = raw) := by
        show _ = _
        apply ba_ext
        rw [← packed_data]; exact hpk
      clear hpp hpk
      go_wp2_with fail
      refine (spack_yes _ _ _ ps _ (StrsAt.row HPP.out hrow) HPP.out).mono ?_
      rintro e w4 ⟨rfl, hb4⟩
      rw [HRW.out]
      have hs3 := hb3.size
      have hs4 := hb4.size
      go_wp2_with fail
      refine (unpack_yes ⟨#[1, 2, 97, 98]⟩ [abS] _ hab ab_proper ab_packed).mono ?_
      rintro e w5 ⟨g5, rfl, hg5, hrow5, hb5⟩
      have hcell : w5.cell? ⟨g5, 0, none⟩ = some (.string abS) := hrow5.cell (by decide)
      have hbb : Below w.heap.size w w5 := ((hb2.trans (hb3.mono hs2)).trans (hb4.mono (by omega))).trans (hb5.mono (by omega))
      clear hrow hrow5 hb2 hb3 hb4 hb5 hs2 hs3 hs4 hg hg5
      go_wp2_with fail
      go_ret
      exact ⟨rfl, hbb⟩
    · have HV : Hid (∀ ps, properB ps = true → packL ps ≠ raw.data.toList) := fun ps h1 h2 => hv ⟨ps, h1, h2⟩
      clear hv
      refine (unpack_no raw _ hraw HV.out).mono ?_
      rintro e w3 ⟨rfl, hb3⟩
      go_wp2_with fail
      refine (spack_yes none 0 0 [] _ (StrsAt.nil _) nil_proper).mono ?_
      rintro e w4 ⟨rfl, hb4⟩
      have hs3 := hb3.size
      have hs4 := hb4.size
      go_wp2_with fail
      refine (unpack_yes ⟨#[1, 2, 97, 98]⟩ [abS] _ hab ab_proper ab_packed).mono ?_
      rintro e w5 ⟨g5, rfl, hg5, hrow5, hb5⟩
      have hcell : w5.cell? ⟨g5, 0, none⟩ = some (.string abS) := hrow5.cell (by decide)
      have hbb : Below w.heap.size w w5 := ((hb2.trans (hb3.mono hs2)).trans (hb4.mono (by omega))).trans (hb5.mono (by omega))
      clear hrow5 hb2 hb3 hb4 hb5 hs2 hs3 hs4 hg5
      go_wp2_with fail
      go_ret
      exact ⟨rfl, hbb⟩

theorem packed_own : ownKnob Try.prog.godebug = none := by kernel_rfl
theorem packed_laidOut : laidOutB Try.prog = true := by kernel_rfl
open Go.ChangeShapes Go.WideShapes Go.ChangeAt Go.RowKit
open Go.ChangeMaps (open_string shut_string)
set_option linter.unusedVariables false

/-- a slice of strings that came in, as the contracts take it -/
theorem strsAt_of {w : World} {a0 : Option Addr} {len cap : Nat} {H : Type} {enc : TypeId × Value → H} {d : DataW H} {p : List MemPlace}
    (h : DataW.Trod enc Try.prog w 0 (fun _ => true) true 22 (.slice a0 len cap) d p) : ∃ ss, StrsAt w a0 len ss := by
  obtain ⟨fuel, hf⟩ := h
  rcases open_strings Try.underlying22 Try.underlying9 (by kernel_rfl) hf with ⟨hcs, _⟩ | ⟨x, l, c, ss, hcs, _, hl, hm, hz, _, hcell, hws⟩
  · simp [Value.cells] at hcs
    obtain ⟨rfl, rfl, rfl⟩ := hcs
    exact ⟨[], StrsAt.nil w⟩
  · simp [Value.cells] at hcs
    obtain ⟨rfl, rfl, rfl⟩ := hcs
    simp at hz
    refine ⟨ss.take len, by rw [List.length_take]; omega, by omega, fun s hs => hws s (List.mem_of_mem_take hs), fun hn => ?_⟩
    have h0 := hcell 0 (by omega)
    obtain ⟨b, off, spot⟩ := x
    have hspot : spot = none := by simpa [Addr.add] using World.cell?_spot h0
    subst hspot
    refine ⟨b, off, rfl, ?_, fun j hj => ?_⟩
    · exact World.block_lt_of_cell? w ⟨b, off, none⟩ (by simpa [Addr.add] using h0)
    · have hj1 := hcell j (by omega)
      have e : (ss.take len).getD j ByteArray.empty = ss.getD j ByteArray.empty := by
        rw [List.getD_eq_getElem?_getD, List.getD_eq_getElem?_getD, List.getElem?_take_of_lt hj]
      have ea : (⟨b, off, none⟩ : Addr).add j = ⟨b, off + j, none⟩ := by unfold Addr.add; split <;> simp_all
      rw [e, ← ea]
      exact hj1

set_option maxRecDepth 100000 in
theorem packed_lifted (os : Os) (started : os.Started) (H : Type) (enc : TypeId × Value → H) :
    ReturnsInHanded {} Try.checked os 3 .any (Rows.packedSpec.pre6 enc Try.prog Try.f3 Rows.packedRow.domain false) (Rows.packedSpec.post enc Try.prog Try.f3 false true false false) := by
  refine returnsInHanded_of_change (C := Try.checked) packed_own started (by kernel_rfl) Try.func3
    (ChangeSpec.witness6 (enc := enc) (C := Try.checked) false ⟨#[], #[.slice none 0 0, .string ⟨#[]⟩], []⟩ 8 (by kernel_rfl) (by kernel_rfl) (by kernel_rfl) (by kernel_rfl)) ?_
  intro W base args ds gs before hval0 hW hcnd _
  have hval : ∀ (j : Nat) t v, Try.f3.params[j]? = some t → args[j]? = some v → Value.okWide Try.prog W .any base t v := hval0
  have hW' := hW
  obtain ⟨p, q, hA0, hV, rfl, hfz, hnd⟩ := hW
  have hA : DataW.TrodAll enc Try.prog W 0 (fun _ => true) true Try.f3.params.toList args.toList ds p := hA0
  rw [Try.params3] at hA hval
  obtain ⟨v0, vs0, d0, ds0, p0, q0, hargs, rfl, rfl, h0, r0⟩ := trodAll_cons hA
  obtain ⟨v1, vs1, d1, ds1, p1, q1, rfl, rfl, rfl, h1, r1⟩ := trodAll_cons r0
  obtain ⟨rfl, rfl, rfl⟩ := trodAll_nil r1
  obtain rfl : args = #[v0, v1] := by cases args; simp_all
  obtain ⟨rfl, rfl⟩ := trodVars_none hV
  obtain ⟨a0, len0, cap0, rfl⟩ := okWide_slice Try.underlying22 (hval 0 22 v0 rfl rfl)
  have k0 := h0
  have lt0 : ∀ x ∈ p0, x.block < W.heap.size := by obtain ⟨m, hm⟩ := k0; exact DataW.trod_lt m _ _ _ hm
  obtain ⟨ss, hss⟩ := strsAt_of h0
  obtain ⟨s1, rfl, rfl, rfl, hs1⟩ := open_string Try.underlying9 (hval 1 9 v1 rfl rfl) h1
  clear hA0 hval0
  refine (packed_walk a0 len0 cap0 ss s1 W hss hs1).mono fun e W' ⟨he, bel⟩ => ?_
  subst he
  exact ⟨_, rfl, _, _, _, [], _, [], hW', trodAll_mk1 (shut_bool Try.underlying4 _), (trodAll_cons_mk (Below.trod packed_laidOut (by kernel_rfl) (of_decide_eq_true (by kernel_rfl)) k0 bel lt0) (trodAll_cons_mk (shut_string Try.underlying9 hs1) trodAll_mk0)), rfl, bel.frame _, fun h => by cases h⟩

theorem packed_over : Rows.packedRow.holds Try.pinned (OpenSpec.ofChange Rows.packedSpec) :=
  OpenClaim.holds_of_wide 3 Try.f3 rfl rfl rfl rfl rfl rfl rfl ⟨rfl, rfl, rfl, rfl, rfl⟩ rfl rfl rfl rfl rfl (by kernel_rfl) Try.func3 (by kernel_rfl)
    (of_decide_eq_true (by kernel_rfl)) (by unfold Func.isWrapper; first | (rw [if_pos (by decide +kernel)]; kernel_rfl) | (rw [if_neg (by decide +kernel)]; exact ⟨rfl, rfl⟩))
    (fun os started H enc _ => packed_lifted os started H enc)

/-- the statement -/
theorem packed_holds : Rows.PackedSaid := packed_over
#print axioms packed_holds
end Go.Proofs.Ytpdobhoebjoijaa
