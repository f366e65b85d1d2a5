/-
  Unpack as a contract: it answers the parts of the message whose bytes it was given, in a new list, and refuses bytes that are those of no message.
-/
import Derived.Test.YtpdobhoebjoijaaMsg
import Derived.WalkKit
import Derived.WalkSpells
import Derived.BigQuiet
import Derived.Deep.QuietTactic
import Derived.Deep.OwnRows
import Derived.Lib.Strings
namespace Go.Proofs.Ytpdobhoebjoijaa
open Go.RowKit
theorem ret_three {a b c x y z : Value} (h : a = x) (k : b = y) (l : c = z) : Ending.returned (.tuple #[a, b, c]) = .returned (.tuple #[x, y, z]) := by rw [h, k, l]
theorem below_draws' {B : Nat} {a w : World} (h : Below B a w) (n : Nat) : Below B a (w.drewN n) := h.trans ⟨rfl, rfl, rfl, Nat.le_refl _, fun _ _ => rfl⟩
def sumB : List UInt8 → Nat
  | [] => 0
  | b :: r => b.toNat + sumB r
theorem sumB_snoc (l : List UInt8) (b : UInt8) : sumB (l ++ [b]) = sumB l + b.toNat := by
  induction l with
  | nil => simp [sumB]
  | cons x r ih => simp [sumB, ih]; omega
theorem sumB_le (l : List UInt8) : sumB l ≤ 255 * l.length := by
  induction l with
  | nil => simp [sumB]
  | cons x r ih => have := x.toNat_lt; simp [sumB]; omega
theorem not_empty (s : ByteArray) (h : 0 < s.size) : s.toList.isEmpty = false := by
  rw [ByteArray.toList_eq]
  cases s with
  | mk d =>
    cases d with
    | mk l =>
      cases l with
      | nil => exact absurd h (by decide)
      | cons a b => rfl

/-- the parts that the lengths cut off -/
def cut : List UInt8 → List UInt8 → List ByteArray
  | [], _ => []
  | n :: ns, r => ⟨(r.take n.toNat).toArray⟩ :: cut ns (r.drop n.toNat)
theorem cut_length (ns : List UInt8) : ∀ r, (cut ns r).length = ns.length := by
  induction ns with
  | nil => intro r; rfl
  | cons n ns ih => intro r; simp [cut, ih]
theorem cut_lens (ns : List UInt8) : ∀ r, sumB ns = r.length → lens (cut ns r) = ns ∧ flat (cut ns r) = r := by
  induction ns with
  | nil => intro r h; simp [sumB] at h; simp [cut, lens, flat, List.eq_nil_of_length_eq_zero h.symm]
  | cons n ns ih =>
    intro r h
    simp only [sumB] at h
    obtain ⟨h1, h2⟩ := ih (r.drop n.toNat) (by rw [List.length_drop]; omega)
    have h3 : (r.take n.toNat).length = n.toNat := by rw [List.length_take]; omega
    refine ⟨?_, ?_⟩
    · show UInt8.ofNat ((r.take n.toNat).toArray.size) :: lens (cut ns (r.drop n.toNat)) = n :: ns
      rw [h1, List.size_toArray, h3]
      congr 1
      exact UInt8.ofNat_toNat
    · show (r.take n.toNat).toArray.toList ++ flat (cut ns (r.drop n.toNat)) = r
      rw [h2]
      simp
theorem cut_small (ns : List UInt8) (hs : ∀ x ∈ ns, x.toNat ≤ 15) : ∀ r, ∀ s ∈ cut ns r, s.size ≤ 15 := by
  induction ns with
  | nil => intro r s h; simp [cut] at h
  | cons n ns ih =>
    intro r s h
    simp only [cut, List.mem_cons] at h
    rcases h with rfl | h
    · show (r.take n.toNat).toArray.size ≤ 15
      rw [List.size_toArray, List.length_take]
      have := hs n (by simp)
      omega
    · exact ih (fun x hx => hs x (by simp [hx])) _ s h
theorem packL_eq (ss : List ByteArray) : packL ss = UInt8.ofNat ss.length :: (lens ss ++ flat ss) := rfl
/-- what the lengths of a message are -/
theorem lens_of (ss : List ByteArray) (h : ∀ s ∈ ss, s.size ≤ 15) : (∀ x ∈ lens ss, x.toNat ≤ 15) ∧ sumB (lens ss) = (flat ss).length := by
  induction ss with
  | nil => simp [lens, flat, sumB]
  | cons s r ih =>
    obtain ⟨h1, h2⟩ := ih (fun x hx => h x (by simp [hx]))
    have h3 : s.size ≤ 15 := h s (by simp)
    have h4 : (UInt8.ofNat s.size).toNat = s.size := by rw [UInt8.toNat_ofNat']; omega
    have h5 : s.data.toList.length = s.size := by rw [Array.length_toList]; rfl
    refine ⟨?_, ?_⟩
    · intro x hx
      simp only [lens, List.map_cons, List.mem_cons] at hx
      rcases hx with rfl | hx
      · omega
      · exact h1 x hx
    · show (UInt8.ofNat s.size).toNat + sumB (lens r) = (s.data.toList ++ flat r).length
      rw [List.length_append, h4, h2, h5]
/-- a message is told by its lengths and its texts -/
theorem cut_of (ss : List ByteArray) (h : ∀ s ∈ ss, s.size ≤ 15) : cut (lens ss) (flat ss) = ss := by
  induction ss with
  | nil => rfl
  | cons s r ih =>
    have h3 : s.size ≤ 15 := h s (by simp)
    have h4 : (UInt8.ofNat s.size).toNat = s.size := by rw [UInt8.toNat_ofNat']; omega
    have h5 : s.data.toList.length = s.size := by rw [Array.length_toList]; rfl
    show cut (UInt8.ofNat s.size :: lens r) (s.data.toList ++ flat r) = s :: r
    simp only [cut, h4]
    rw [← h5, List.take_left, List.drop_left, ih (fun x hx => h x (by simp [hx]))]
theorem proper_mem {ss : List ByteArray} (h : properB ss = true) : ss.length ≤ 3 ∧ ∀ s ∈ ss, s.size ≤ 15 := by
  unfold properB at h
  rw [Bool.and_eq_true, decide_eq_true_eq, List.all_eq_true] at h
  exact ⟨h.1, fun s hs => of_decide_eq_true (h.2 s hs)⟩
theorem proper_mk {ss : List ByteArray} (h : ss.length ≤ 3) (k : ∀ s ∈ ss, s.size ≤ 15) : properB ss = true := by
  unfold properB
  rw [Bool.and_eq_true, decide_eq_true_eq, List.all_eq_true]
  exact ⟨h, fun s hs => decide_eq_true (k s hs)⟩
/-- what a message's bytes say: the number, the lengths, the texts -/
theorem packL_parts {ps : List ByteArray} {L : List UInt8} (hp : properB ps = true) (h : packL ps = L) :
    0 < L.length ∧ (L.getD 0 0).toNat = ps.length ∧ ps.length ≤ 3 ∧ ps.length ≤ L.length - 1 ∧ (L.drop 1).take ps.length = lens ps ∧ L.drop (1 + ps.length) = flat ps := by
  obtain ⟨h3, _⟩ := proper_mem hp
  subst h
  rw [packL_eq]
  refine ⟨by simp, ?_, h3, by simp [lens_len], ?_, ?_⟩
  · show (UInt8.ofNat ps.length).toNat = ps.length
    rw [UInt8.toNat_ofNat']; omega
  · show (lens ps ++ flat ps).take ps.length = lens ps
    rw [← lens_len ps]
    exact List.take_left
  · rw [Nat.add_comm]
    show (lens ps ++ flat ps).drop ps.length = flat ps
    rw [← lens_len ps]
    exact List.drop_left
theorem packL_inj {ps qs : List ByteArray} (hp : properB ps = true) (hq : properB qs = true) (h : packL ps = packL qs) : ps = qs := by
  obtain ⟨_, h1, _, _, h2, h3⟩ := packL_parts hp rfl
  obtain ⟨_, g1, _, _, g2, g3⟩ := packL_parts hq rfl
  rw [h] at h1 h2 h3
  have e : ps.length = qs.length := by omega
  rw [← cut_of ps (proper_mem hp).2, ← cut_of qs (proper_mem hq).2, ← h2, ← h3, ← g2, ← g3, e]
theorem ba_ext {a b : ByteArray} (h : a.data.toList = b.data.toList) : a = b := by
  cases a; cases b; simp at h; simp [h]
theorem head_getD (s : ByteArray) (h : 0 < s.size) : (s.data.toList.getD 0 0) = s[0] := by
  rw [List.getD_eq_getElem?_getD, List.getElem?_eq_getElem (by rw [Array.length_toList]; exact h)]
  rfl
/-- how many parts bytes tell of -/
def cnt (L : List UInt8) : Nat := (L.getD 0 0).toNat
/-- the lengths, as far as they are there -/
def lsOf (L : List UInt8) : List UInt8 := (L.drop 1).take (cnt L)
def begN (L : List UInt8) : Nat := 1 + cnt L + sumB (lsOf L)
/-- what Size answers: how many bytes the message has that begins so, and whether none does -/
def sizeE (L : List UInt8) : Nat := if L.length = 0 then 0 else if 3 < cnt L then 11 else if (lsOf L).any (fun b => decide (15 < b.toNat)) then 11 else 0
def sizeV (L : List UInt8) : Nat := if L.length = 0 then 0 else if 3 < cnt L then 0 else if (lsOf L).any (fun b => decide (15 < b.toNat)) then 0 else if (lsOf L).length < cnt L then 0 else begN L
theorem ba_length (s : ByteArray) : s.data.toList.length = s.size := by rw [Array.length_toList]; rfl
theorem cnt_ba (s : ByteArray) (h : 0 < s.size) : cnt s.data.toList = s[0].toNat := by unfold cnt; rw [head_getD s h]
theorem any_none {l : List UInt8} (h : ∀ b ∈ l, b.toNat ≤ 15) : (l.any (fun b => decide (15 < b.toNat))) = false := by
  rw [List.any_eq_false]
  intro b hb
  have := h b hb
  rw [decide_eq_true_eq]
  omega
def SizePost (L : List UInt8) (w : World) (e : Ending) (w' : World) : Prop := e = .returned (.tuple #[.int .i64 (sizeV L), .int .i64 (sizeE L)]) ∧ Below w.heap.size w w'
set_option maxHeartbeats 400000 in
set_option maxRecDepth 100000 in
theorem size_empty (w : World) : Calls Try.prog 29 #[.string ⟨#[]⟩] w fun e w' => SizePost [] w e w' := by
  go_enter Try.func29, Try.ntmps29
  go_wp2
  go_ret2
  exact ⟨ret_two rfl rfl, Below.refl _ _⟩
set_option maxHeartbeats 400000 in
set_option maxRecDepth 100000 in
theorem size_many (s : ByteArray) (w : World) (h0 : 0 < s.size) (h1 : 3 < s[0].toNat) (hL : Hid (cnt s.data.toList = s[0].toNat)) :
    Calls Try.prog 29 #[.string s] w fun e w' => SizePost s.data.toList w e w' := by
  have hb : s[0].toNat < 256 := s[0].toNat_lt
  have hne := not_empty s h0
  have HV : Hid (sizeV s.data.toList = 0 ∧ sizeE s.data.toList = 11) := by
    show _ ∧ _
    unfold sizeV sizeE
    rw [ba_length, hL.out]
    have hz : ¬ s.size = 0 := by omega
    rw [if_neg hz, if_neg hz, if_pos h1, if_pos h1]
    exact ⟨rfl, rfl⟩
  obtain ⟨V, hV⟩ : ∃ V, sizeV s.data.toList = V := ⟨_, rfl⟩
  obtain ⟨E, hE⟩ : ∃ E, sizeE s.data.toList = E := ⟨_, rfl⟩
  unfold SizePost
  rw [hV, hE]
  rw [hV, hE] at HV
  go_enter Try.func29, Try.ntmps29
  go_wp2
  go_ret2
  obtain ⟨rfl, rfl⟩ := HV.out
  exact ⟨ret_two rfl rfl, Below.refl _ _⟩
set_option maxHeartbeats 1000000 in
set_option maxRecDepth 100000 in
theorem size_main (s le : ByteArray) (c V E : Nat) (w : World) (hs : s.size ≤ maxLen) (h0 : 0 < s.size) (hc : Hid (s[0].toNat = c)) (h1 : ¬ 3 < c)
    (hle : Hid (s.extract 1 (min (1 + c) s.size) = le)) (hall : Hid ((∀ b ∈ le.data.toList, b.toNat ≤ 15) → E = 0 ∧ V = if le.size < c then 0 else 1 + c + sumB le.data.toList))
    (hany : Hid ((∃ b ∈ le.data.toList, 15 < b.toNat) → E = 11 ∧ V = 0)) :
    Calls Try.prog 29 #[.string s] w fun e w' => e = .returned (.tuple #[.int .i64 V, .int .i64 E]) ∧ Below w.heap.size w w' := by
  unfold maxLen at hs
  have hne := not_empty s h0
  have hcc := hc.out
  have hi1 : ¬ (3 : Int) < (s[0].toNat : Int) := by omega
  have hlz : le.size ≤ 3 := by rw [← hle.out, ByteArray.size_extract]; omega
  have HM : Hid (min (1 + c) s.size ≤ s.size ∧ 1 ≤ min (1 + c) s.size) := by show _ ∧ _; omega
  clear hcc
  go_enter Try.func29, Try.ntmps29
  go_wp2
  rw [show (min ((1 : Int) + (s[0].toNat : Int)) (s.size : Int)).toNat = min (1 + c) s.size by have := hc.out; omega, hle.out, show min (min (1 + c) s.size) s.size - 1 = le.size by rw [← hle.out, ByteArray.size_extract], hc.out]
  clear hi1 hne hle hc HM
  go_loop [2, 3, 6, 7, 26] (fun _ _ t _ j => ∃ k : Nat, k ≤ le.size ∧ j = .int .i64 k ∧ t = .int .i64 ((1 + c + sumB (le.data.toList.take k) : Nat) : Int) ∧ ∀ b ∈ le.data.toList.take k, b.toNat ≤ 15) (fun _ _ _ _ j => le.size - (intOf j).toNat)
  case atStart => exact ⟨0, Nat.zero_le _, rfl, int_val (by simp [sumB]), by simp⟩
  case round =>
    obtain ⟨k, hk, rfl, rfl, hal⟩ := hrel
    have HA : Hid (∀ b ∈ le.data.toList.take k, b.toNat ≤ 15) := hal
    clear hal
    have hsum := sumB_le (le.data.toList.take k)
    have hll : (le.data.toList.take k).length ≤ k := List.length_take_le _ _
    by_cases hlt : k < le.size
    · have HT : Hid (le.data.toList.take (k + 1) = le.data.toList.take k ++ [le[k]]) := take_snoc le k hlt
      have hb : le[k].toNat < 256 := le[k].toNat_lt
      by_cases h15 : 15 < le[k].toNat
      · have HE := hany.out ⟨le[k], by rw [← List.take_append_drop (k + 1) le.data.toList, HT.out]; simp, h15⟩
        obtain ⟨rfl, rfl⟩ := HE
        go_wp2
        go_ret2
        exact ⟨ret_two rfl rfl, Below.refl _ _⟩
      · go_wp2
        go_round
        case rel => exact ⟨k + 1, by omega, by go_num, int_val (by rw [HT.out, sumB_snoc]; go_num), by
          rw [HT.out]
          intro b hb'
          rw [List.mem_append, List.mem_singleton] at hb'
          rcases hb' with hb' | rfl
          · exact HA.out b hb'
          · omega⟩
        case measure => simp [intOf]; omega
    · obtain rfl : k = le.size := by omega
      have HF : le.data.toList.take le.size = le.data.toList := List.take_of_length_le (by rw [Array.length_toList]; exact Nat.le_refl _)
      have HA2 := HA.out
      rw [HF] at HA2 hsum hll
      rw [HF]
      obtain ⟨rfl, hV⟩ := hall.out HA2
      clear HA HA2 HF
      by_cases hlc : le.size < c
      · rw [if_pos hlc] at hV
        subst hV
        go_wp2
        go_ret2
        exact ⟨ret_two rfl rfl, Below.refl _ _⟩
      · rw [if_neg hlc] at hV
        have HV : Hid (V = 1 + c + sumB le.data.toList) := hV
        clear hV
        go_wp2
        go_ret2
        exact ⟨ret_two (int_val (by rw [HV.out]; omega)) rfl, Below.refl _ _⟩
theorem any_some {l : List UInt8} (h : ∃ b ∈ l, 15 < b.toNat) : (l.any (fun b => decide (15 < b.toNat))) = true := by
  obtain ⟨b, hb, h15⟩ := h
  exact List.any_eq_true.2 ⟨b, hb, decide_eq_true h15⟩
theorem msize_calls (s : ByteArray) (w : World) (hs : s.size ≤ maxLen) : Calls Try.prog 29 #[.string s] w fun e w' => SizePost s.data.toList w e w' := by
  by_cases h0 : 0 < s.size
  · have hcn := cnt_ba s h0
    have hz : ¬ s.size = 0 := by omega
    by_cases h1 : 3 < s[0].toNat
    · exact size_many s w h0 h1 hcn
    · obtain ⟨c, hc⟩ : ∃ c, s[0].toNat = c := ⟨_, rfl⟩
      rw [hc] at hcn h1
      have hls : (s.extract 1 (min (1 + c) s.size)).data.toList = lsOf s.data.toList := by
        unfold lsOf
        rw [Lib.extract_data, hcn]
        by_cases hle : 1 + c ≤ s.size
        · rw [Nat.min_eq_left hle, show 1 + c - 1 = c by omega]
        · rw [Nat.min_eq_right (by omega), List.take_of_length_le (by rw [List.length_drop, ba_length]; exact Nat.le_refl _), List.take_of_length_le (by rw [List.length_drop, ba_length]; omega)]
      have hlz : (lsOf s.data.toList).length = (s.extract 1 (min (1 + c) s.size)).size := by rw [← hls, ba_length]
      refine (size_main s _ c (sizeV s.data.toList) (sizeE s.data.toList) w hs h0 hc h1 rfl ?_ ?_).mono ?_
      · show _ → _
        intro hall
        rw [hls] at hall
        unfold sizeV sizeE
        rw [ba_length, if_neg hz, if_neg hz, hcn, if_neg h1, if_neg h1, any_none hall, hls, hlz]
        unfold begN
        rw [hcn]
        exact ⟨rfl, rfl⟩
      · show _ → _
        intro hany
        rw [hls] at hany
        unfold sizeV sizeE
        rw [ba_length, if_neg hz, if_neg hz, hcn, if_neg h1, if_neg h1, any_some hany]
        exact ⟨rfl, rfl⟩
      · exact fun _ _ x => x
  · have : s = ⟨#[]⟩ := by
      apply ba_ext
      show s.data.toList = []
      exact List.eq_nil_of_length_eq_zero (by rw [ba_length]; omega)
    subst this
    exact size_empty w
/-- bytes are those of a message just where Size tells as many as they are -/
theorem size_pack {ps : List ByteArray} {L : List UInt8} (hp : properB ps = true) (h : packL ps = L) : sizeE L = 0 ∧ sizeV L = L.length ∧ cnt L = ps.length ∧ 0 < L.length := by
  obtain ⟨h0, h1, h3, h4, h5, h6⟩ := packL_parts hp h
  have hc : cnt L = ps.length := h1
  have hl : lsOf L = lens ps := by unfold lsOf; rw [hc]; exact h5
  obtain ⟨g1, g2⟩ := lens_of ps (proper_mem hp).2
  have hz : ¬ L.length = 0 := by omega
  refine ⟨?_, ?_, hc, h0⟩
  · unfold sizeE
    rw [if_neg hz, hc, if_neg (by omega), hl, any_none g1]
    rfl
  · unfold sizeV begN
    rw [if_neg hz, hc, if_neg (by omega), hl, any_none g1, if_neg (by decide), lens_len, if_neg (by omega), g2, ← h6, List.length_drop]
    omega
theorem pack_size {L : List UInt8} (hE : sizeE L = 0) (hV : sizeV L = L.length) (h0 : L.length ≠ 0) : ∃ ps, properB ps = true ∧ packL ps = L := by
  unfold sizeE at hE
  unfold sizeV at hV
  rw [if_neg h0] at hE hV
  by_cases h3 : 3 < cnt L
  · rw [if_pos h3] at hE; cases hE
  rw [if_neg h3] at hE hV
  cases ha : (lsOf L).any (fun b => decide (15 < b.toNat))
  · rw [ha] at hV
    simp only [Bool.false_eq_true, if_false] at hV
    by_cases hs : (lsOf L).length < cnt L
    · rw [if_pos hs] at hV; exact absurd hV.symm h0
    rw [if_neg hs] at hV
    have hall : ∀ b ∈ lsOf L, b.toNat ≤ 15 := by
      intro b hb
      rw [List.any_eq_false] at ha
      have := ha b hb
      rw [decide_eq_true_eq] at this
      omega
    have hll : (lsOf L).length = cnt L := by
      have : (lsOf L).length ≤ cnt L := by unfold lsOf; exact List.length_take_le _ _
      omega
    have hsum : sumB (lsOf L) = (L.drop (1 + cnt L)).length := by rw [List.length_drop]; unfold begN at hV; omega
    obtain ⟨k1, k2⟩ := cut_lens _ _ hsum
    refine ⟨cut (lsOf L) (L.drop (1 + cnt L)), proper_mk ?_ ?_, ?_⟩
    · rw [cut_length, hll]; omega
    · exact cut_small _ hall _
    · rw [packL_eq, cut_length, hll, k1, k2]
      have h7 : L = L.getD 0 0 :: L.drop 1 := by
        cases L with
        | nil => exact absurd rfl h0
        | cons x r => rfl
      have h8 : L.drop (1 + cnt L) = (L.drop 1).drop (cnt L) := by rw [List.drop_drop]
      rw [h8]
      unfold lsOf
      rw [List.take_append_drop]
      refine Eq.trans ?_ h7.symm
      congr 1
      exact UInt8.ofNat_toNat
  · rw [ha] at hE
    cases hE
set_option maxHeartbeats 1000000 in
set_option maxRecDepth 100000 in
theorem munpack_no (s : ByteArray) (w : World) (hs : s.size ≤ maxLen) (hno : ∀ ps, properB ps = true → packL ps ≠ s.data.toList) :
    Calls Try.prog 18 #[.string s] w fun e w' => e = .returned (.tuple #[.slice none 0 0, .int .i64 11]) ∧ Below w.heap.size w w' := by
  have hl := ba_length s
  have hcase : ¬ (sizeE s.data.toList = 0 ∧ sizeV s.data.toList ≠ 0 ∧ sizeV s.data.toList = s.size) := by
    rintro ⟨a, b, c⟩
    obtain ⟨ps, h1, h2⟩ := pack_size a (by omega) (by omega)
    exact hno ps h1 h2
  have hvm : sizeV s.data.toList ≤ 1000 := by
    unfold sizeV
    repeat' split
    all_goals first | omega | skip
    rename_i h3 _ _
    have : (lsOf s.data.toList).length ≤ cnt s.data.toList := by unfold lsOf; exact List.length_take_le _ _
    have := sumB_le (lsOf s.data.toList)
    unfold begN
    omega
  obtain ⟨V, hV⟩ : ∃ V, sizeV s.data.toList = V := ⟨_, rfl⟩
  obtain ⟨E, hE⟩ : ∃ E, sizeE s.data.toList = E := ⟨_, rfl⟩
  have HS : Hid (Calls Try.prog 29 #[.string s] w fun e w' => e = .returned (.tuple #[.int .i64 V, .int .i64 E]) ∧ Below w.heap.size w w') := by
    have := msize_calls s w hs
    unfold SizePost at this
    rw [hV, hE] at this
    exact this
  rw [hV] at hvm
  rw [hV, hE] at hcase
  have hor : E ≠ 0 ∨ (E = 0 ∧ V = 0) ∨ (E = 0 ∧ V ≠ 0 ∧ V ≠ s.size) := by omega
  unfold maxLen at hs
  clear hno hl hV hE hcase
  rcases hor with h | ⟨h, h'⟩ | ⟨h, h', h''⟩
  · have e1 : ((E : Int) == 0) = false := by rw [beq_eq_false_iff_ne]; omega
    have e2 : ((E : Int) != 0) = true := by rw [bne_iff_ne]; omega
    go_enter Try.func18, Try.ntmps18
    go_wp2_with fail
    refine HS.out.mono ?_
    rintro e w1 ⟨rfl, hb⟩
    go_wp2_with fail
    go_ret2
    exact ⟨ret_two rfl rfl, hb⟩
  · subst h h'
    go_enter Try.func18, Try.ntmps18
    go_wp2_with fail
    refine HS.out.mono ?_
    rintro e w1 ⟨rfl, hb⟩
    go_wp2_with fail
    go_ret2
    exact ⟨ret_two rfl rfl, hb⟩
  · subst h
    have e1 : ((V : Int) == 0) = false := by rw [beq_eq_false_iff_ne]; omega
    have e2 : ((V : Int) == (s.size : Int)) = false := by rw [beq_eq_false_iff_ne]; omega
    have e3 : ((V : Int) != (s.size : Int)) = true := by rw [bne_iff_ne]; omega
    go_enter Try.func18, Try.ntmps18
    go_wp2_with fail
    refine HS.out.mono ?_
    rintro e w1 ⟨rfl, hb⟩
    go_wp2_with fail
    go_ret2
    exact ⟨ret_two rfl rfl, hb⟩
theorem info9 : (Try.prog.info? 9).map (fun i => (i.zero, i.size, i.bytes)) = some (some (.string ⟨#[]⟩), 1, 16) := by kernel_rfl
theorem tab_at (ps : List ByteArray) (ta : ByteArray) (x : UInt8) (h : ta.data.toList = x :: lens ps) (hp : ∀ s ∈ ps, s.size ≤ 15) (k : Nat) (hk : 1 + k < ta.size) (hkp : k < ps.length) : ta[1 + k].toNat = (ps.getD k ByteArray.empty).size := by
  have hk2 : k < (lens ps).length := by rw [lens_len]; exact hkp
  have h1 : ta[1 + k] = (lens ps)[k] := by
    have : ta[1 + k] = ta.data.toList[1 + k]'(by rw [Array.length_toList]; exact hk) := rfl
    rw [this]
    simp only [h, Nat.add_comm 1 k, List.getElem_cons_succ]
  have h2 : (ps.getD k ByteArray.empty) = ps[k] := by rw [List.getD_eq_getElem?_getD, List.getElem?_eq_getElem hkp]; rfl
  have h3 := hp ps[k] (List.getElem_mem hkp)
  rw [h1, h2]
  simp only [lens, List.getElem_map, UInt8.toNat_ofNat']
  omega
theorem drop_getD (ss : List ByteArray) (k : Nat) (h : k < ss.length) : ss.drop k = ss.getD k ByteArray.empty :: ss.drop (k + 1) := by
  rw [List.drop_eq_getElem_cons h, List.getD_eq_getElem?_getD, List.getElem?_eq_getElem h]
  rfl
set_option maxHeartbeats 1000000 in
set_option maxRecDepth 100000 in
theorem munpack_yes (s : ByteArray) (ps : List ByteArray) (w : World) (hs : s.size ≤ maxLen) (hp : properB ps = true) (hk : packL ps = s.data.toList) :
    Calls Try.prog 18 #[.string s] w fun e w' => ∃ g, e = .returned (.tuple #[.slice (some ⟨g, 0, none⟩) ps.length ps.length, .int .i64 0]) ∧ w.heap.size ≤ g ∧ w'.rowIs g 9 ps.length (fun j => .string (ps.getD j ByteArray.empty)) ∧ Below w.heap.size w w' := by
  obtain ⟨h3, h15⟩ := proper_mem hp
  obtain ⟨hE, hV, hcn, h0⟩ := size_pack hp hk
  obtain ⟨_, _, _, p4, p5, p6⟩ := packL_parts hp hk
  have hl := ba_length s
  rw [hl] at h0 hV p4
  have H15 : Hid (∀ s ∈ ps, s.size ≤ 15) := h15
  have hs0 : s[0].toNat = ps.length := by rw [← cnt_ba s h0]; exact hcn
  have HS : Hid (Calls Try.prog 29 #[.string s] w fun e w' => e = .returned (.tuple #[.int .i64 s.size, .int .i64 0]) ∧ Below w.heap.size w w') := by
    have := msize_calls s w hs
    unfold SizePost at this
    rw [hV, hE] at this
    exact this
  have HR0 : Hid ((s.extract (1 + ps.length) s.size).data.toList = flat ps) := by
    show _ = _
    rw [Lib.extract_data, p6]
    refine List.take_of_length_le ?_
    rw [← p6, List.length_drop, hl]
    exact Nat.le_refl _
  have HL0 : Hid ((s.extract 1 (1 + ps.length)).data.toList = lens ps) := by
    show _ = _
    rw [Lib.extract_data, show 1 + ps.length - 1 = ps.length by omega]; exact p5
  have hle1 : 1 + ps.length ≤ s.size := by omega
  unfold maxLen at hs
  clear hk hp h15 hE hV hcn p4 p5 p6 hl
  have e1 : ((s.size : Int) == 0) = false := by rw [beq_eq_false_iff_ne]; omega
  have e2 : ((s.size : Int) != (s.size : Int)) = false := by simp
  have HS0 : Hid (s[0].toNat = ps.length) := hs0
  have hi0 : (1 : Int) + (s[0].toNat : Int) ≤ (s.size : Int) := by omega
  have hi3 : (s[0].toNat : Int) ≤ 3 := by omega
  clear hs0
  go_enter Try.func18, Try.ntmps18
  go_wp2_with fail
  refine HS.out.mono ?_
  rintro e w1 ⟨rfl, hb1⟩
  go_wp2_with fail
  rw [show min (1 + s[0].toNat) s.size = 1 + ps.length by have := HS0.out; omega, HS0.out]
  rw [show ((1 + ps.length : Nat) : Int) - 1 = (ps.length : Int) by omega]
  have HTA : Hid ((s.extract 0 (1 + ps.length)).data.toList = s[0] :: lens ps) := by
    show _ = _
    rw [← HL0.out, Lib.extract_data, Lib.extract_data, List.drop_zero, Nat.sub_zero, show 1 + ps.length - 1 = ps.length by omega]
    have h7 : s.data.toList = s[0] :: s.data.toList.drop 1 := by
      rw [← head_getD s h0]
      cases hd : s.data.toList with
      | nil => have := ba_length s; rw [hd] at this; simp at this; omega
      | cons x r => rfl
    rw [Nat.add_comm 1 ps.length]
    conv => lhs; rw [h7]
    rfl
  have htz : (s.extract 0 (1 + ps.length)).size = 1 + ps.length := by rw [ByteArray.size_extract]; omega
  obtain ⟨ta, hta⟩ : ∃ ta, s.extract 0 (1 + ps.length) = ta := ⟨_, rfl⟩
  obtain ⟨r, hr⟩ : ∃ r, s.extract (1 + ps.length) s.size = r := ⟨_, rfl⟩
  rw [hta] at HTA htz
  rw [hr] at HR0
  rw [hta, hr]
  have HR : Hid (r.data.toList = flat ps) := HR0.out
  clear hta hr HR0 HL0 HS HS0 hi0 hi3 e1 e2
  have hmk : ∀ W, (Instr.makeSlice 22 (.int .i64 (ps.length : Int)) (.int .i64 (ps.length : Int))).run Try.prog W = .ok (.slice (some ⟨W.heap.size, 0, none⟩) ps.length ps.length) (W.alloc (.cells (madeCells #[.string ⟨#[]⟩] ps.length) 9)) := fun W => run_make_row' 22 9 (.string ⟨#[]⟩) 16 Try.underlying22 info9 rfl .i64 .i64 ps.length (by omega) (by omega) W
  rw [hmk w1]
  clear hmk
  go_wp2_with fail
  go_loopw [7, 9, 10, 44] (fun x _ _ j wr => ∃ (k : Nat) (q : ByteArray), k ≤ ps.length ∧ j = .int .i64 k ∧ x = .string q ∧ q.data.toList = flat (ps.drop k) ∧ wr.rowIs w1.heap.size 9 ps.length (fun i => if i < k then .string (ps.getD i ByteArray.empty) else .string ⟨#[]⟩) ∧ Below w1.heap.size w1 wr) (fun _ _ _ j _ => ps.length - (intOf j).toNat)
  case atStart =>
    refine ⟨0, r, Nat.zero_le _, rfl, rfl, HR.out, ?_, (Below.refl _ _).alloc (Nat.le_refl _) _⟩
    exact (World.rowIs_made w1 (.string ⟨#[]⟩) ps.length 9).congr (fun i _ => by simp)
  case round =>
    obtain ⟨k, q, hk, rfl, rfl, hq, hrow, hbel⟩ := hrel
    have HQ : Hid (q.data.toList = flat (ps.drop k)) := hq
    clear hq
    have hsz := hbel.size
    have hlt0 := hrow.lt
    by_cases hlt : k < ps.length
    · have hlen := tab_at ps ta _ HTA.out H15.out k (by omega) hlt
      have hk0 : (0 : Int) ≤ 1 + (k : Int) := by omega
      have hk1 : (1 : Int) + (k : Int) < (ta.size : Int) := by omega
      have HD : Hid (ps.drop k = ps.getD k ByteArray.empty :: ps.drop (k + 1)) := drop_getD ps k hlt
      have hx15 : (ps.getD k ByteArray.empty).size ≤ 15 := H15.out _ (getD_mem hlt)
      generalize hx : ps.getD k ByteArray.empty = x at hlen HD hx15
      have HX : Hid (ps.getD k ByteArray.empty = x) := hx
      clear hx
      have hxl : x.data.toList.length = x.size := by rw [Array.length_toList]; rfl
      have hql : q.data.toList.length = q.size := by rw [Array.length_toList]; rfl
      have HF : Hid (q.data.toList = x.data.toList ++ flat (ps.drop (k + 1))) := by
        show _ = _
        rw [HQ.out, HD.out]; simp [flat]
      have hqx : x.size ≤ q.size := by
        have := congrArg List.length HF.out
        rw [List.length_append] at this
        omega
      have HE : Hid (q.extract 0 x.size = x) := by
        show _ = _
        apply ba_ext
        rw [Lib.extract_data, HF.out, List.drop_zero, ← hxl, Nat.sub_zero, List.take_left]
      have HG : Hid ((q.extract x.size q.size).data.toList = flat (ps.drop (k + 1))) := by
        show _ = _
        rw [Lib.extract_data, HF.out, ← hxl, List.drop_left]
        refine List.take_of_length_le ?_
        rw [← hql, HF.out, List.length_append]
        omega
      have hcell := hrow.cell hlt
      rw [if_neg (by omega)] at hcell
      have hfr := hrow.frozen k
      have hi1 : ((ta[1 + k].toNat : Nat) : Int) = (x.size : Int) := by omega
      clear hlen hxl hql
      go_wp2_with fail
      rw [HE.out]
      refine (clone_calls x _ (by omega)).mono ?_
      rintro e w2 ⟨rfl, hb2⟩
      have hrow2 := hrow.of_block (hb2.block w1.heap.size hlt0)
      have hcell2 := hrow2.cell hlt
      rw [if_neg (by omega)] at hcell2
      have hfr2 := hrow2.frozen k
      clear hcell hfr
      go_wp2_with fail
      go_roundw
      case rel =>
        refine ⟨k + 1, q.extract x.size q.size, by omega, by go_num, rfl, HG.out, ?_, (hbel.trans (hb2.mono hsz)).setCell (p := ⟨w1.heap.size, k, none⟩) (Nat.le_refl _) _⟩
        refine (hrow2.set k (.string x)).congr (fun i _ => ?_)
        by_cases e : i = k
        · rw [if_pos e, if_pos (by omega), e, HX.out]
        · rw [if_neg e]
          by_cases e2 : i < k
          · rw [if_pos e2, if_pos (by omega)]
          · rw [if_neg e2, if_neg (by omega)]
      case measure => simp [intOf]; omega
    · obtain rfl : k = ps.length := by omega
      go_wp2_with fail
      go_ret2
      refine ⟨w1.heap.size, ret_two rfl rfl, hb1.size, hrow.congr (fun i hi => by rw [if_pos hi]), hb1.trans (hbel.mono hb1.size)⟩

theorem unpack_no (s : ByteArray) (w : World) (hs : s.size ≤ maxLen) (hno : ∀ ps, properB ps = true → packL ps ≠ s.data.toList) :
    Calls Try.prog 8 #[.string s] w fun e w' => e = .returned (.tuple #[.slice none 0 0, .int .i64 11]) ∧ Below w.heap.size w w' := by
  have H : Hid (∀ ps, properB ps = true → packL ps ≠ s.data.toList) := hno
  clear hno
  go_enter Try.func8, Try.ntmps8
  go_wp2_with fail
  refine (munpack_no s _ hs H.out).mono ?_
  rintro e w1 ⟨rfl, hb⟩
  go_wp2_with fail
  go_ret2
  exact ⟨ret_two rfl rfl, hb⟩
theorem unpack_yes (s : ByteArray) (ps : List ByteArray) (w : World) (hs : s.size ≤ maxLen) (hp : properB ps = true) (hk : packL ps = s.data.toList) :
    Calls Try.prog 8 #[.string s] w fun e w' => ∃ g, e = .returned (.tuple #[.slice (some ⟨g, 0, none⟩) ps.length ps.length, .int .i64 0]) ∧ w.heap.size ≤ g ∧ w'.rowIs g 9 ps.length (fun j => .string (ps.getD j ByteArray.empty)) ∧ Below w.heap.size w w' := by
  have HK : Hid (packL ps = s.data.toList) := hk
  have HP : Hid (properB ps = true) := hp
  clear hk hp
  go_enter Try.func8, Try.ntmps8
  go_wp2_with fail
  refine (munpack_yes s ps _ hs HP.out HK.out).mono ?_
  rintro e w1 ⟨g, rfl, hg, hrow, hb⟩
  go_wp2_with fail
  go_ret2
  exact ⟨g, ret_two rfl rfl, hg, hrow, hb⟩
theorem spack_no (a : Option Addr) (n cap : Nat) (ss : List ByteArray) (w : World) (h : StrsAt w a n ss) (hp : properB ss = false) :
    Calls Try.prog 6 #[.slice a n cap] w fun e w' => e = .returned (.tuple #[.string ⟨#[]⟩, .int .i64 3]) ∧ w' = w := by
  have HS : Hid (StrsAt w a n ss) := h
  have HP : Hid (properB ss = false) := hp
  clear h hp
  go_enter Try.func6, Try.ntmps6
  go_wp2_with fail
  refine (pack_no a n cap ss _ HS.out HP.out).mono ?_
  rintro e w' ⟨rfl, rfl⟩
  go_wp2_with fail
  go_ret2
  exact ⟨ret_two rfl rfl, rfl⟩
theorem spack_yes (a : Option Addr) (n cap : Nat) (ss : List ByteArray) (w : World) (h : StrsAt w a n ss) (hp : properB ss = true) :
    Calls Try.prog 6 #[.slice a n cap] w fun e w' => e = .returned (.tuple #[.string (packed ss), .int .i64 0]) ∧ Below w.heap.size w w' := by
  have HS : Hid (StrsAt w a n ss) := h
  have HP : Hid (properB ss = true) := hp
  clear h hp
  go_enter Try.func6, Try.ntmps6
  go_wp2_with fail
  refine (pack_yes a n cap ss _ HS.out HP.out).mono ?_
  rintro e w1 ⟨rfl, hb⟩
  go_wp2_with fail
  go_ret2
  exact ⟨ret_two rfl rfl, hb⟩
end Go.Proofs.Ytpdobhoebjoijaa
