/-
  Unpack as a contract: it answers the parts of the message whose bytes it was given, in a new list, and refuses bytes that are those of no message.
-/
import Derived.Test.YtnclmbolfpojoaaMsg
import Derived.WalkKit
import Derived.WalkSpells
import Derived.BigQuiet
import Derived.Deep.QuietTactic
import Derived.Deep.OwnRows
import Derived.Lib.Strings
namespace Go.Proofs.Ytnclmbolfpojoaa
open Go.RowKit
theorem ret_three {a b c x y z : Value} (h : a = x) (k : b = y) (l : c = z) : Ending.returned (.tuple #[a, b, c]) = .returned (.tuple #[x, y, z]) := by rw [h, k, l]
theorem below_draws' {B : Nat} {a w : World} (h : Below B a w) (n : Nat) : Below B a (w.drewN n) := h.trans ⟨rfl, rfl, rfl, Nat.le_refl _, fun _ _ => rfl⟩
def sumB : List UInt8 → Nat
  | [] => 0
  | b :: r => b.toNat + sumB r
theorem sumB_snoc (l : List UInt8) (b : UInt8) : sumB (l ++ [b]) = sumB l + b.toNat := by
  induction l with
  | nil => simp [sumB]
  | cons x r ih => simp [sumB, ih]; omega
theorem sumB_le (l : List UInt8) : sumB l ≤ 255 * l.length := by
  induction l with
  | nil => simp [sumB]
  | cons x r ih => have := x.toNat_lt; simp [sumB]; omega
theorem not_empty (s : ByteArray) (h : 0 < s.size) : s.toList.isEmpty = false := by
  rw [ByteArray.toList_eq]
  cases s with
  | mk d =>
    cases d with
    | mk l =>
      cases l with
      | nil => exact absurd h (by decide)
      | cons a b => rfl

set_option maxHeartbeats 400000 in
set_option maxRecDepth 100000 in
theorem split_empty (w : World) :
    Calls Try.prog 42 #[.string ⟨#[]⟩] w fun e w' => e = .returned (.tuple #[.string ⟨#[]⟩, .string ⟨#[]⟩, .bool false]) ∧ w' = w := by
  go_enter Try.func42, Try.ntmps42
  go_wp2
  go_ret3
  exact ⟨ret_three rfl rfl rfl, rfl⟩
set_option maxHeartbeats 400000 in
set_option maxRecDepth 100000 in
theorem split_many (s : ByteArray) (w : World) (h0 : 0 < s.size) (h1 : 3 < s[0].toNat) :
    Calls Try.prog 42 #[.string s] w fun e w' => e = .returned (.tuple #[.string ⟨#[]⟩, .string ⟨#[]⟩, .bool false]) ∧ w' = w := by
  have hb : s[0].toNat < 256 := s[0].toNat_lt
  have hne := not_empty s h0
  go_enter Try.func42, Try.ntmps42
  go_wp2
  go_ret3
  exact ⟨ret_three rfl rfl rfl, rfl⟩
set_option maxHeartbeats 400000 in
set_option maxRecDepth 100000 in
theorem split_short (s : ByteArray) (w : World) (hs : s.size ≤ maxLen) (h0 : 0 < s.size) (h1 : ¬ 3 < s[0].toNat) (h2 : s.size - 1 < s[0].toNat) :
    Calls Try.prog 42 #[.string s] w fun e w' => e = .returned (.tuple #[.string ⟨#[]⟩, .string ⟨#[]⟩, .bool false]) ∧ w' = w := by
  unfold maxLen at hs
  have hne := not_empty s h0
  have hi1 : ¬ (3 : Int) < (s[0].toNat : Int) := by omega
  have hi2 : (s.size : Int) - 1 < (s[0].toNat : Int) := by omega
  go_enter Try.func42, Try.ntmps42
  go_wp2
  go_ret3
  exact ⟨ret_three rfl rfl rfl, rfl⟩
/-- what split answers where the first byte is a number of parts and the lengths are there -/
def SplitPost (le r : ByteArray) (w : World) (e : Ending) (w' : World) : Prop :=
  Below w.heap.size w w' ∧ ∃ (a b : ByteArray) (ok : Bool), e = .returned (.tuple #[.string a, .string b, .bool ok]) ∧
    ((ok = true ∧ a = le ∧ b = r ∧ (∀ x ∈ le.data.toList, x.toNat ≤ 15) ∧ sumB le.data.toList = r.size) ∨
     (ok = false ∧ ¬ ((∀ x ∈ le.data.toList, x.toNat ≤ 15) ∧ sumB le.data.toList = r.size)))
set_option maxHeartbeats 1000000 in
set_option maxRecDepth 100000 in
theorem split_main (s le r : ByteArray) (c : Nat) (w : World) (hs : s.size ≤ maxLen) (h0 : 0 < s.size) (hc : Hid (s[0].toNat = c)) (h1 : ¬ 3 < c) (h2 : ¬ s.size - 1 < c)
    (hle : Hid (s.extract 1 (1 + c) = le)) (hr : Hid (s.extract (1 + c) s.size = r)) :
    Calls Try.prog 42 #[.string s] w fun e w' => SplitPost le r w e w' := by
  unfold maxLen at hs
  have hne := not_empty s h0
  have hcc := hc.out
  have hi1 : ¬ (3 : Int) < (s[0].toNat : Int) := by omega
  have hi2 : ¬ (s.size : Int) - 1 < (s[0].toNat : Int) := by omega
  clear hcc
  go_enter Try.func42, Try.ntmps42
  go_wp2
  go_quiet (fail)
  go_wp2
  rw [show min (1 + s[0].toNat) s.size - 1 = s[0].toNat by have := hc.out; omega, hc.out, hle.out, hr.out]
  have hsz : le.size = c := by rw [← hle.out]; simp; omega
  have hrz : r.size ≤ s.size := by rw [← hr.out]; simp
  clear hi1 hi2 hne hc hle hr
  subst hsz
  go_loop [2, 3, 4, 6, 7, 37] (fun x y z t _ j => x = .string le ∧ y = .string r ∧ ∃ k : Nat, k ≤ le.size ∧ j = .int .i64 k ∧ t = .int .i64 (sumB (le.data.toList.take k)) ∧ ∀ b ∈ le.data.toList.take k, b.toNat ≤ 15) (fun _ _ _ _ _ j => le.size - (intOf j).toNat)
  case atStart => exact ⟨rfl, rfl, 0, Nat.zero_le _, rfl, rfl, by simp⟩
  case round =>
    obtain ⟨rfl, rfl, k, hk, rfl, rfl, hall⟩ := hrel
    have HA : Hid (∀ b ∈ le.data.toList.take k, b.toNat ≤ 15) := hall
    clear hall
    have hsum := sumB_le (le.data.toList.take k)
    have hll : (le.data.toList.take k).length ≤ k := List.length_take_le _ _
    by_cases hlt : k < le.size
    · have HT : Hid (le.data.toList.take (k + 1) = le.data.toList.take k ++ [le[k]]) := take_snoc le k hlt
      have hb : le[k].toNat < 256 := le[k].toNat_lt
      by_cases h15 : 15 < le[k].toNat
      · go_wp2
        go_ret3
        refine ⟨below_draws' (Below.refl _ _) _, _, _, false, ret_three rfl rfl rfl, .inr ⟨rfl, fun hh => ?_⟩⟩
        have := hh.1 le[k] (by rw [← List.take_append_drop (k + 1) le.data.toList, HT.out]; simp)
        omega
      · go_wp2
        go_round
        case rel => exact ⟨rfl, rfl, k + 1, by omega, by go_num, int_val (by rw [HT.out, sumB_snoc]; go_num), by
          rw [HT.out]
          intro b hb'
          rw [List.mem_append, List.mem_singleton] at hb'
          rcases hb' with hb' | rfl
          · exact HA.out b hb'
          · omega⟩
        case measure => simp [intOf]; omega
    · obtain rfl : k = le.size := by omega
      have HF : Hid (le.data.toList.take le.size = le.data.toList) := List.take_of_length_le (by rw [Array.length_toList]; exact Nat.le_refl _)
      go_wp2
      go_ret3
      refine ⟨below_draws' (Below.refl _ _) _, le, r, ((sumB (le.data.toList.take le.size) : Int) == (r.size : Int)), ret_three rfl rfl rfl, ?_⟩
      rw [HF.out]
      by_cases he : sumB le.data.toList = r.size
      · exact .inl ⟨by simp [he], rfl, rfl, by have := HA.out; rwa [HF.out] at this, he⟩
      · exact .inr ⟨by simp; omega, fun hh => he hh.2⟩
/-- the parts that the lengths cut off -/
def cut : List UInt8 → List UInt8 → List ByteArray
  | [], _ => []
  | n :: ns, r => ⟨(r.take n.toNat).toArray⟩ :: cut ns (r.drop n.toNat)
theorem cut_length (ns : List UInt8) : ∀ r, (cut ns r).length = ns.length := by
  induction ns with
  | nil => intro r; rfl
  | cons n ns ih => intro r; simp [cut, ih]
theorem cut_lens (ns : List UInt8) : ∀ r, sumB ns = r.length → lens (cut ns r) = ns ∧ flat (cut ns r) = r := by
  induction ns with
  | nil => intro r h; simp [sumB] at h; simp [cut, lens, flat, List.eq_nil_of_length_eq_zero h.symm]
  | cons n ns ih =>
    intro r h
    simp only [sumB] at h
    obtain ⟨h1, h2⟩ := ih (r.drop n.toNat) (by rw [List.length_drop]; omega)
    have h3 : (r.take n.toNat).length = n.toNat := by rw [List.length_take]; omega
    refine ⟨?_, ?_⟩
    · show UInt8.ofNat ((r.take n.toNat).toArray.size) :: lens (cut ns (r.drop n.toNat)) = n :: ns
      rw [h1, List.size_toArray, h3]
      congr 1
      exact UInt8.ofNat_toNat
    · show (r.take n.toNat).toArray.toList ++ flat (cut ns (r.drop n.toNat)) = r
      rw [h2]
      simp
theorem cut_small (ns : List UInt8) (hs : ∀ x ∈ ns, x.toNat ≤ 15) : ∀ r, ∀ s ∈ cut ns r, s.size ≤ 15 := by
  induction ns with
  | nil => intro r s h; simp [cut] at h
  | cons n ns ih =>
    intro r s h
    simp only [cut, List.mem_cons] at h
    rcases h with rfl | h
    · show (r.take n.toNat).toArray.size ≤ 15
      rw [List.size_toArray, List.length_take]
      have := hs n (by simp)
      omega
    · exact ih (fun x hx => hs x (by simp [hx])) _ s h
theorem packL_eq (ss : List ByteArray) : packL ss = UInt8.ofNat ss.length :: (lens ss ++ flat ss) := rfl
/-- what the lengths of a message are -/
theorem lens_of (ss : List ByteArray) (h : ∀ s ∈ ss, s.size ≤ 15) : (∀ x ∈ lens ss, x.toNat ≤ 15) ∧ sumB (lens ss) = (flat ss).length := by
  induction ss with
  | nil => simp [lens, flat, sumB]
  | cons s r ih =>
    obtain ⟨h1, h2⟩ := ih (fun x hx => h x (by simp [hx]))
    have h3 : s.size ≤ 15 := h s (by simp)
    have h4 : (UInt8.ofNat s.size).toNat = s.size := by rw [UInt8.toNat_ofNat']; omega
    have h5 : s.data.toList.length = s.size := by rw [Array.length_toList]; rfl
    refine ⟨?_, ?_⟩
    · intro x hx
      simp only [lens, List.map_cons, List.mem_cons] at hx
      rcases hx with rfl | hx
      · omega
      · exact h1 x hx
    · show (UInt8.ofNat s.size).toNat + sumB (lens r) = (s.data.toList ++ flat r).length
      rw [List.length_append, h4, h2, h5]
/-- a message is told by its lengths and its texts -/
theorem cut_of (ss : List ByteArray) (h : ∀ s ∈ ss, s.size ≤ 15) : cut (lens ss) (flat ss) = ss := by
  induction ss with
  | nil => rfl
  | cons s r ih =>
    have h3 : s.size ≤ 15 := h s (by simp)
    have h4 : (UInt8.ofNat s.size).toNat = s.size := by rw [UInt8.toNat_ofNat']; omega
    have h5 : s.data.toList.length = s.size := by rw [Array.length_toList]; rfl
    show cut (UInt8.ofNat s.size :: lens r) (s.data.toList ++ flat r) = s :: r
    simp only [cut, h4]
    rw [← h5, List.take_left, List.drop_left, ih (fun x hx => h x (by simp [hx]))]
theorem proper_mem {ss : List ByteArray} (h : properB ss = true) : ss.length ≤ 3 ∧ ∀ s ∈ ss, s.size ≤ 15 := by
  unfold properB at h
  rw [Bool.and_eq_true, decide_eq_true_eq, List.all_eq_true] at h
  exact ⟨h.1, fun s hs => of_decide_eq_true (h.2 s hs)⟩
theorem proper_mk {ss : List ByteArray} (h : ss.length ≤ 3) (k : ∀ s ∈ ss, s.size ≤ 15) : properB ss = true := by
  unfold properB
  rw [Bool.and_eq_true, decide_eq_true_eq, List.all_eq_true]
  exact ⟨h, fun s hs => decide_eq_true (k s hs)⟩
/-- what a message's bytes say: the number, the lengths, the texts -/
theorem packL_parts {ps : List ByteArray} {L : List UInt8} (hp : properB ps = true) (h : packL ps = L) :
    0 < L.length ∧ (L.getD 0 0).toNat = ps.length ∧ ps.length ≤ 3 ∧ ps.length ≤ L.length - 1 ∧ (L.drop 1).take ps.length = lens ps ∧ L.drop (1 + ps.length) = flat ps := by
  obtain ⟨h3, _⟩ := proper_mem hp
  subst h
  rw [packL_eq]
  refine ⟨by simp, ?_, h3, by simp [lens_len], ?_, ?_⟩
  · show (UInt8.ofNat ps.length).toNat = ps.length
    rw [UInt8.toNat_ofNat']; omega
  · show (lens ps ++ flat ps).take ps.length = lens ps
    rw [← lens_len ps]
    exact List.take_left
  · rw [Nat.add_comm]
    show (lens ps ++ flat ps).drop ps.length = flat ps
    rw [← lens_len ps]
    exact List.drop_left
theorem packL_inj {ps qs : List ByteArray} (hp : properB ps = true) (hq : properB qs = true) (h : packL ps = packL qs) : ps = qs := by
  obtain ⟨_, h1, _, _, h2, h3⟩ := packL_parts hp rfl
  obtain ⟨_, g1, _, _, g2, g3⟩ := packL_parts hq rfl
  rw [h] at h1 h2 h3
  have e : ps.length = qs.length := by omega
  rw [← cut_of ps (proper_mem hp).2, ← cut_of qs (proper_mem hq).2, ← h2, ← h3, ← g2, ← g3, e]
theorem ba_ext {a b : ByteArray} (h : a.data.toList = b.data.toList) : a = b := by
  cases a; cases b; simp at h; simp [h]
theorem head_getD (s : ByteArray) (h : 0 < s.size) : (s.data.toList.getD 0 0) = s[0] := by
  rw [List.getD_eq_getElem?_getD, List.getElem?_eq_getElem (by rw [Array.length_toList]; exact h)]
  rfl
theorem split_yes (s : ByteArray) (ps : List ByteArray) (w : World) (hs : s.size ≤ maxLen) (hp : properB ps = true) (hk : packL ps = s.data.toList) :
    Calls Try.prog 42 #[.string s] w fun e w' => Below w.heap.size w w' ∧ ∃ le r : ByteArray, e = .returned (.tuple #[.string le, .string r, .bool true]) ∧ le.data.toList = lens ps ∧ r.data.toList = flat ps := by
  obtain ⟨h0, h1, h3, h4, h5, h6⟩ := packL_parts hp hk
  have hl : s.data.toList.length = s.size := by rw [Array.length_toList]; rfl
  rw [hl] at h0 h4
  rw [head_getD s h0] at h1
  refine (split_main s (s.extract 1 (1 + ps.length)) (s.extract (1 + ps.length) s.size) ps.length w hs h0 h1 (by omega) (by omega) rfl rfl).mono ?_
  rintro e w' ⟨hb, a, b, ok, rfl, hh⟩
  have e1 : (s.extract 1 (1 + ps.length)).data.toList = lens ps := by
    rw [Lib.extract_data, show 1 + ps.length - 1 = ps.length by omega]; exact h5
  have e2 : (s.extract (1 + ps.length) s.size).data.toList = flat ps := by
    rw [Lib.extract_data, h6]
    refine List.take_of_length_le ?_
    rw [← h6, List.length_drop, hl]
    exact Nat.le_refl _
  obtain ⟨g1, g2⟩ := lens_of ps (proper_mem hp).2
  rcases hh with ⟨rfl, rfl, rfl, _, _⟩ | ⟨_, hn⟩
  · exact ⟨hb, _, _, rfl, e1, e2⟩
  · refine absurd ⟨?_, ?_⟩ hn
    · rw [e1]; exact g1
    · rw [e1, g2, ← e2, Array.length_toList]; rfl
theorem split_no (s : ByteArray) (w : World) (hs : s.size ≤ maxLen) (hno : ∀ ps, properB ps = true → packL ps ≠ s.data.toList) :
    Calls Try.prog 42 #[.string s] w fun e w' => Below w.heap.size w w' ∧ ∃ le r : ByteArray, e = .returned (.tuple #[.string le, .string r, .bool false]) := by
  have hl : s.data.toList.length = s.size := by rw [Array.length_toList]; rfl
  by_cases h0 : 0 < s.size
  · by_cases h1 : 3 < s[0].toNat
    · refine (split_many s w h0 h1).mono ?_
      rintro e w' ⟨rfl, rfl⟩
      exact ⟨Below.refl _ _, _, _, rfl⟩
    · by_cases h2 : s.size - 1 < s[0].toNat
      · refine (split_short s w hs h0 h1 h2).mono ?_
        rintro e w' ⟨rfl, rfl⟩
        exact ⟨Below.refl _ _, _, _, rfl⟩
      · generalize hc : s[0].toNat = c at h1 h2
        refine (split_main s (s.extract 1 (1 + c)) (s.extract (1 + c) s.size) c w hs h0 hc h1 h2 rfl rfl).mono ?_
        rintro e w' ⟨hb, a, b, ok, rfl, hh⟩
        rcases hh with ⟨rfl, rfl, rfl, g1, g2⟩ | ⟨rfl, _⟩
        · exfalso
          have e1 : (s.extract 1 (1 + c)).data.toList = (s.data.toList.drop 1).take c := by
            rw [Lib.extract_data, show 1 + c - 1 = c by omega]
          have e2 : (s.extract (1 + c) s.size).data.toList = s.data.toList.drop (1 + c) := by
            rw [Lib.extract_data]
            refine List.take_of_length_le ?_
            rw [List.length_drop, hl]
            exact Nat.le_refl _
          have e3 : (s.extract (1 + c) s.size).size = (s.data.toList.drop (1 + c)).length := by rw [← e2, Array.length_toList]; rfl
          rw [e1] at g1 g2
          rw [e3] at g2
          have hlen : ((s.data.toList.drop 1).take c).length = c := by rw [List.length_take, List.length_drop, hl]; omega
          obtain ⟨k1, k2⟩ := cut_lens _ _ g2
          refine hno (cut ((s.data.toList.drop 1).take c) (s.data.toList.drop (1 + c))) (proper_mk ?_ ?_) ?_
          · rw [cut_length, hlen]; omega
          · exact cut_small _ g1 _
          · rw [packL_eq, cut_length, hlen, k1, k2]
            have h7 : s.data.toList = s[0] :: s.data.toList.drop 1 := by
              rw [← head_getD s h0]
              cases hd : s.data.toList with
              | nil => rw [hd] at hl; simp at hl; omega
              | cons x r => rfl
            have h8 : s.data.toList.drop (1 + c) = (s.data.toList.drop 1).drop c := by rw [List.drop_drop]
            rw [h8, List.take_append_drop, ← hc]
            refine Eq.trans ?_ h7.symm
            congr 1
            exact UInt8.ofNat_toNat
        · exact ⟨hb, _, _, rfl⟩
  · have : s = ⟨#[]⟩ := by
      apply ba_ext
      show s.data.toList = []
      exact List.eq_nil_of_length_eq_zero (by omega)
    subst this
    refine (split_empty w).mono ?_
    rintro e w' ⟨rfl, rfl⟩
    exact ⟨Below.refl _ _, _, _, rfl⟩

set_option maxHeartbeats 1000000 in
set_option maxRecDepth 100000 in
theorem munpack_no (s : ByteArray) (w : World) (hs : s.size ≤ maxLen) (hno : ∀ ps, properB ps = true → packL ps ≠ s.data.toList) :
    Calls Try.prog 25 #[.string s] w fun e w' => e = .returned (.tuple #[.slice none 0 0, .int .i64 11]) ∧ Below w.heap.size w w' := by
  have H : Hid (∀ ps, properB ps = true → packL ps ≠ s.data.toList) := hno
  clear hno
  go_enter Try.func25, Try.ntmps25
  go_wp2_with fail
  refine (split_no s _ hs H.out).mono ?_
  rintro e w1 ⟨hb, le, r, rfl⟩
  go_wp2_with fail
  go_ret2
  exact ⟨ret_two rfl rfl, hb⟩
theorem info9 : (Try.prog.info? 9).map (fun i => (i.zero, i.size, i.bytes)) = some (some (.string ⟨#[]⟩), 1, 16) := by kernel_rfl
theorem len_at (ps : List ByteArray) (le : ByteArray) (h : le.data.toList = lens ps) (hp : ∀ s ∈ ps, s.size ≤ 15) (k : Nat) (hk : k < le.size) (hkp : k < ps.length) : le[k].toNat = (ps.getD k ByteArray.empty).size := by
  have h1 : le[k] = (lens ps)[k]'(by rw [lens_len]; exact hkp) := by
    have : le[k] = le.data.toList[k]'(by rw [Array.length_toList]; exact hk) := rfl
    rw [this]
    simp only [h]
  have h2 : (ps.getD k ByteArray.empty) = ps[k] := by rw [List.getD_eq_getElem?_getD, List.getElem?_eq_getElem hkp]; rfl
  have h3 := hp ps[k] (List.getElem_mem hkp)
  rw [h1, h2]
  simp only [lens, List.getElem_map, UInt8.toNat_ofNat']
  omega
theorem drop_getD (ss : List ByteArray) (k : Nat) (h : k < ss.length) : ss.drop k = ss.getD k ByteArray.empty :: ss.drop (k + 1) := by
  rw [List.drop_eq_getElem_cons h, List.getD_eq_getElem?_getD, List.getElem?_eq_getElem h]
  rfl
set_option maxHeartbeats 1000000 in
set_option maxRecDepth 100000 in
theorem munpack_yes (s : ByteArray) (ps : List ByteArray) (w : World) (hs : s.size ≤ maxLen) (hp : properB ps = true) (hk : packL ps = s.data.toList) :
    Calls Try.prog 25 #[.string s] w fun e w' => ∃ g, e = .returned (.tuple #[.slice (some ⟨g, 0, none⟩) ps.length ps.length, .int .i64 0]) ∧ w.heap.size ≤ g ∧ w'.rowIs g 9 ps.length (fun j => .string (ps.getD j ByteArray.empty)) ∧ Below w.heap.size w w' := by
  obtain ⟨h3, h15⟩ := proper_mem hp
  have H15 : Hid (∀ s ∈ ps, s.size ≤ 15) := h15
  have HK : Hid (packL ps = s.data.toList) := hk
  have HP : Hid (properB ps = true) := hp
  clear hk hp h15
  go_enter Try.func25, Try.ntmps25
  go_wp2_with fail
  refine (split_yes s ps _ hs HP.out HK.out).mono ?_
  rintro e w1 ⟨hb1, le, r, rfl, hle, hr⟩
  have hles : le.size = ps.length := by rw [← lens_len ps, ← hle, Array.length_toList]; rfl
  have HLE : Hid (le.data.toList = lens ps) := hle
  have HR : Hid (r.data.toList = flat ps) := hr
  clear hle hr
  have hmk : ∀ W, (Instr.makeSlice 27 (.int .i64 (ps.length : Int)) (.int .i64 (ps.length : Int))).run Try.prog W = .ok (.slice (some ⟨W.heap.size, 0, none⟩) ps.length ps.length) (W.alloc (.cells (madeCells #[.string ⟨#[]⟩] ps.length) 9)) := fun W => run_make_row' 27 9 (.string ⟨#[]⟩) 16 Try.underlying27 info9 rfl .i64 .i64 ps.length (by omega) (by omega) W
  go_wp2_with fail
  clear hmk
  go_loopw [5, 8, 9, 23] (fun x _ _ j wr => ∃ (k : Nat) (q : ByteArray), k ≤ ps.length ∧ j = .int .i64 k ∧ x = .string q ∧ q.data.toList = flat (ps.drop k) ∧ wr.rowIs w1.heap.size 9 ps.length (fun i => if i < k then .string (ps.getD i ByteArray.empty) else .string ⟨#[]⟩) ∧ Below w1.heap.size w1 wr) (fun _ _ _ j _ => ps.length - (intOf j).toNat)
  case atStart =>
    refine ⟨0, r, Nat.zero_le _, rfl, rfl, HR.out, ?_, (Below.refl _ _).alloc (Nat.le_refl _) _⟩
    exact (World.rowIs_made w1 (.string ⟨#[]⟩) ps.length 9).congr (fun i _ => by simp)
  case round =>
    obtain ⟨k, q, hk, rfl, rfl, hq, hrow, hbel⟩ := hrel
    have HQ : Hid (q.data.toList = flat (ps.drop k)) := hq
    clear hq
    have hsz := hbel.size
    have hlt0 := hrow.lt
    by_cases hlt : k < ps.length
    · have hlen := len_at ps le HLE.out H15.out k (by omega) hlt
      have HD : Hid (ps.drop k = ps.getD k ByteArray.empty :: ps.drop (k + 1)) := drop_getD ps k hlt
      have hx15 : (ps.getD k ByteArray.empty).size ≤ 15 := H15.out _ (getD_mem hlt)
      generalize hx : ps.getD k ByteArray.empty = x at hlen HD hx15
      have HX : Hid (ps.getD k ByteArray.empty = x) := hx
      clear hx
      have hxl : x.data.toList.length = x.size := by rw [Array.length_toList]; rfl
      have hql : q.data.toList.length = q.size := by rw [Array.length_toList]; rfl
      have HF : Hid (q.data.toList = x.data.toList ++ flat (ps.drop (k + 1))) := by
        show _ = _
        rw [HQ.out, HD.out]; simp [flat]
      have hqx : x.size ≤ q.size := by
        have := congrArg List.length HF.out
        rw [List.length_append] at this
        omega
      have HE : Hid (q.extract 0 x.size = x) := by
        show _ = _
        apply ba_ext
        rw [Lib.extract_data, HF.out, List.drop_zero, ← hxl, Nat.sub_zero, List.take_left]
      have HG : Hid ((q.extract x.size q.size).data.toList = flat (ps.drop (k + 1))) := by
        show _ = _
        rw [Lib.extract_data, HF.out, ← hxl, List.drop_left]
        refine List.take_of_length_le ?_
        rw [← hql, HF.out, List.length_append]
        omega
      have hcell := hrow.cell hlt
      rw [if_neg (by omega)] at hcell
      have hfr := hrow.frozen k
      have hi1 : ((le[k].toNat : Nat) : Int) = (x.size : Int) := by omega
      clear hlen hxl hql
      go_wp2_with fail
      rw [HE.out]
      refine (clone_calls x _ (by omega)).mono ?_
      rintro e w2 ⟨rfl, hb2⟩
      have hrow2 := hrow.of_block (hb2.block w1.heap.size hlt0)
      have hcell2 := hrow2.cell hlt
      rw [if_neg (by omega)] at hcell2
      have hfr2 := hrow2.frozen k
      clear hcell hfr
      go_wp2_with fail
      go_roundw
      case rel =>
        refine ⟨k + 1, q.extract x.size q.size, by omega, by go_num, rfl, HG.out, ?_, (hbel.trans (hb2.mono hsz)).setCell (p := ⟨w1.heap.size, k, none⟩) (Nat.le_refl _) _⟩
        refine (hrow2.set k (.string x)).congr (fun i _ => ?_)
        by_cases e : i = k
        · rw [if_pos e, if_pos (by omega), e, HX.out]
        · rw [if_neg e]
          by_cases e2 : i < k
          · rw [if_pos e2, if_pos (by omega)]
          · rw [if_neg e2, if_neg (by omega)]
      case measure => simp [intOf]; omega
    · obtain rfl : k = ps.length := by omega
      go_wp2_with fail
      go_ret2
      refine ⟨w1.heap.size, ret_two rfl rfl, hb1.size, hrow.congr (fun i hi => by rw [if_pos hi]), hb1.trans (hbel.mono hb1.size)⟩

theorem unpack_no (s : ByteArray) (w : World) (hs : s.size ≤ maxLen) (hno : ∀ ps, properB ps = true → packL ps ≠ s.data.toList) :
    Calls Try.prog 12 #[.string s] w fun e w' => e = .returned (.tuple #[.slice none 0 0, .int .i64 11]) ∧ Below w.heap.size w w' := by
  have H : Hid (∀ ps, properB ps = true → packL ps ≠ s.data.toList) := hno
  clear hno
  go_enter Try.func12, Try.ntmps12
  go_wp2_with fail
  refine (munpack_no s _ hs H.out).mono ?_
  rintro e w1 ⟨rfl, hb⟩
  go_wp2_with fail
  go_ret2
  exact ⟨ret_two rfl rfl, hb⟩
theorem unpack_yes (s : ByteArray) (ps : List ByteArray) (w : World) (hs : s.size ≤ maxLen) (hp : properB ps = true) (hk : packL ps = s.data.toList) :
    Calls Try.prog 12 #[.string s] w fun e w' => ∃ g, e = .returned (.tuple #[.slice (some ⟨g, 0, none⟩) ps.length ps.length, .int .i64 0]) ∧ w.heap.size ≤ g ∧ w'.rowIs g 9 ps.length (fun j => .string (ps.getD j ByteArray.empty)) ∧ Below w.heap.size w w' := by
  have HK : Hid (packL ps = s.data.toList) := hk
  have HP : Hid (properB ps = true) := hp
  clear hk hp
  go_enter Try.func12, Try.ntmps12
  go_wp2_with fail
  refine (munpack_yes s ps _ hs HP.out HK.out).mono ?_
  rintro e w1 ⟨g, rfl, hg, hrow, hb⟩
  go_wp2_with fail
  go_ret2
  exact ⟨g, ret_two rfl rfl, hg, hrow, hb⟩
theorem spack_no (a : Option Addr) (n cap : Nat) (ss : List ByteArray) (w : World) (h : StrsAt w a n ss) (hp : properB ss = false) :
    Calls Try.prog 10 #[.slice a n cap] w fun e w' => e = .returned (.tuple #[.string ⟨#[]⟩, .int .i64 3]) ∧ w' = w := by
  have HS : Hid (StrsAt w a n ss) := h
  have HP : Hid (properB ss = false) := hp
  clear h hp
  go_enter Try.func10, Try.ntmps10
  go_wp2_with fail
  refine (pack_no a n cap ss _ HS.out HP.out).mono ?_
  rintro e w' ⟨rfl, rfl⟩
  go_wp2_with fail
  go_ret2
  exact ⟨ret_two rfl rfl, rfl⟩
theorem spack_yes (a : Option Addr) (n cap : Nat) (ss : List ByteArray) (w : World) (h : StrsAt w a n ss) (hp : properB ss = true) :
    Calls Try.prog 10 #[.slice a n cap] w fun e w' => e = .returned (.tuple #[.string (packed ss), .int .i64 0]) ∧ Below w.heap.size w w' := by
  have HS : Hid (StrsAt w a n ss) := h
  have HP : Hid (properB ss = true) := hp
  clear h hp
  go_enter Try.func10, Try.ntmps10
  go_wp2_with fail
  refine (pack_yes a n cap ss _ HS.out HP.out).mono ?_
  rintro e w1 ⟨rfl, hb⟩
  go_wp2_with fail
  go_ret2
  exact ⟨ret_two rfl rfl, hb⟩
/-- how many parts bytes tell of -/
def cnt (L : List UInt8) : Nat := (L.getD 0 0).toNat
/-- the lengths, as far as they are there -/
def lsOf (L : List UInt8) : List UInt8 := (L.drop 1).take (cnt L)
def begN (L : List UInt8) : Nat := 1 + cnt L + sumB (lsOf L)
/-- what Size answers: how many bytes the message has that begins so, and whether none does -/
def sizeE (L : List UInt8) : Nat := if L.length = 0 then 0 else if 3 < cnt L then 11 else if (lsOf L).any (fun b => decide (15 < b.toNat)) then 11 else 0
def sizeV (L : List UInt8) : Nat := if L.length = 0 then 0 else if 3 < cnt L then 0 else if (lsOf L).any (fun b => decide (15 < b.toNat)) then 0 else if (lsOf L).length < cnt L then 0 else begN L
theorem ba_length (s : ByteArray) : s.data.toList.length = s.size := by rw [Array.length_toList]; rfl
end Go.Proofs.Ytnclmbolfpojoaa
