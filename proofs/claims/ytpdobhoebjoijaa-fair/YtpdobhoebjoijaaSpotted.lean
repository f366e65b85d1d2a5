/-
  The statement Spotted holds for every input: the check byte of each header is another than that of any header that differs from it in bits within eight; the arguments read as they did.
-/
import Derived.Test.YtpdobhoebjoijaaRows
import Derived.Test.YtpdobhoebjoijaaFrame
import Derived.ProofKit
import Derived.OpenShut
import Derived.ChangeOld
import Derived.Below
import Derived.WalkKit
import Derived.WalkSpells
import Derived.BigRegion
import Derived.Deep.RegionHeld
import Derived.Deep.DrawnRows
import Derived.BigQuiet
import Derived.Deep.QuietTactic
namespace Go.Proofs.Ytpdobhoebjoijaa
open Go.RowKit
theorem conv_three_drew (w : World) (a b c : Nat) :
    (convert 34 9 (.slice (some ⟨w.heap.size, 0, none⟩) 3 3)).run Try.prog (w.alloc (.cells #[.int .u8 a, .int .u8 b, .int .u8 c] 5)).drew = .ok (.string ⟨#[.ofNat a, .ofNat b, .ofNat c]⟩) (w.alloc (.cells #[.int .u8 a, .int .u8 b, .int .u8 c] 5)).drew :=
  conv_three w.drew a b c
theorem wrap_byte (a : Nat) (h : a < 256) : IntKind.u8.wrap (a : Int) = a := by
  rw [IntKind.wrap_u8']; omega
theorem wrap_i64 (n : Int) (h1 : 0 ≤ n) (h2 : n < 4611686018427387904) : IntKind.i64.wrap n = n := by
  simp [IntKind.wrap, IntKind.bits, IntKind.signed]
  omega
theorem xor_i64 (a b : Nat) (ha : a < 4611686018427387904) (hb : b < 4611686018427387904) : bits .xor .i64 (a : Int) (b : Int) = ((a ^^^ b : Nat) : Int) := by
  have hx : a ^^^ b < 2 ^ 62 := Nat.xor_lt_two_pow (by omega) (by omega)
  have h1 : (BitVec.ofInt 64 (a : Int)).toNat = a := by
    rw [BitVec.ofInt_natCast, BitVec.toNat_ofNat]; exact Nat.mod_eq_of_lt (by omega)
  have h2 : (BitVec.ofInt 64 (b : Int)).toNat = b := by
    rw [BitVec.ofInt_natCast, BitVec.toNat_ofNat]; exact Nat.mod_eq_of_lt (by omega)
  show IntKind.i64.wrap ((BitVec.ofInt 64 (a : Int) ^^^ BitVec.ofInt 64 (b : Int)).toNat : Int) = _
  rw [BitVec.toNat_xor, h1, h2]
  exact wrap_i64 _ (by omega) (by omega)
theorem shl_eq (d k : Nat) (hd : d < 255) (hk : k < 17) : wrap64 ((1 + (d : Int)) * 2 ^ k) = (((1 + d) * 2 ^ k : Nat) : Int) ∧ (1 + d) * 2 ^ k < 16777216 := by
  have h1 : 2 ^ k ≤ 2 ^ 16 := Nat.pow_le_pow_right (by omega) (by omega)
  have h2 : (1 + d) * 2 ^ k ≤ 255 * 2 ^ 16 := Nat.mul_le_mul (by omega) h1
  have h3 : (1 + (d : Int)) * 2 ^ k = (((1 + d) * 2 ^ k : Nat) : Int) := by simp
  refine ⟨?_, by omega⟩
  rw [h3]
  generalize (1 + d) * 2 ^ k = D at *
  unfold wrap64
  omega
theorem diff_eq (a b c d k : Nat) (ha : a < 256) (hb : b < 256) (hc : c < 256) (hd : d < 255) (hk : k < 17) :
    bits BinOp.xor IntKind.i64 ((a : Int) * 65536 + b * 256 + c) (wrap64 ((1 + (d : Int)) * 2 ^ k)) = (((a * 65536 + b * 256 + c) ^^^ ((1 + d) * 2 ^ k) : Nat) : Int)
    ∧ (a * 65536 + b * 256 + c) ^^^ ((1 + d) * 2 ^ k) < 16777216 := by
  obtain ⟨e, h⟩ := shl_eq d k hd hk
  rw [e, show ((a : Int) * 65536 + b * 256 + c) = ((a * 65536 + b * 256 + c : Nat) : Int) by omega]
  exact ⟨xor_i64 _ _ (by omega) (by omega), Nat.xor_lt_two_pow (n := 24) (by omega) (by omega)⟩
theorem part1 (M : Nat) (h : M < 16777216) : (wrap64 ((M : Int).tdiv 65536)).tmod 256 = ((M / 65536 % 256 : Nat) : Int) := by
  rw [Int.tdiv_eq_ediv_of_nonneg (by omega), show wrap64 ((M : Int) / 65536) = ((M / 65536 : Nat) : Int) by unfold wrap64; omega, Int.tmod_eq_emod_of_nonneg (by omega)]
  omega
theorem part2 (M : Nat) (h : M < 16777216) : (wrap64 ((M : Int).tdiv 256)).tmod 256 = ((M / 256 % 256 : Nat) : Int) := by
  rw [Int.tdiv_eq_ediv_of_nonneg (by omega), show wrap64 ((M : Int) / 256) = ((M / 256 : Nat) : Int) by unfold wrap64; omega, Int.tmod_eq_emod_of_nonneg (by omega)]
  omega
theorem part3 (M : Nat) : (M : Int).tmod 256 = ((M % 256 : Nat) : Int) := by
  rw [Int.tmod_eq_emod_of_nonneg (by omega)]
  omega
theorem byte_back (n : Nat) (h : n < 256) : (UInt8.ofNat n).toNat = n := by
  rw [UInt8.toNat_ofNat']; exact Nat.mod_eq_of_lt h
theorem below_draws {B : Nat} {a w : World} (h : Below B a w) (n : Nat) : Below B a (w.drewN n) := h.trans ⟨rfl, rfl, rfl, Nat.le_refl _, fun _ _ => rfl⟩
theorem pick_nat (c : Int) (n : Nat) (h1 : -9223372036854775808 ≤ c) (h2 : c ≤ 9223372036854775807) (hn : 1 ≤ n) (hn2 : n ≤ 65536) :
    ∃ k : Nat, k < n ∧ ∀ w : World, Calls Try.prog 11 #[.int .i64 c, .int .i64 n] w fun e w' => e = .returned (.int .i64 k) ∧ w' = w := by
  have hr := pk_range c n (by omega)
  refine ⟨(pk c n).toNat, by omega, fun w => (pick_calls c n w h1 h2 (by omega) (by omega)).mono ?_⟩
  rintro e w' ⟨rfl, rfl⟩
  exact ⟨ret_int (by omega), rfl⟩

set_option maxHeartbeats 1000000 in
set_option maxRecDepth 100000 in
theorem spot_core (a0 a1 a2 a3 a4 : Int) (a b c d k : Nat) (w : World) (ha : a < 256) (hb : b < 256) (hc : c < 256) (hd : d < 255) (hk : k < 17)
    (p0 : ∀ w : World, Calls Try.prog 11 #[.int .i64 a0, .int .i64 256] w fun e w' => e = .returned (.int .i64 a) ∧ w' = w)
    (p1 : ∀ w : World, Calls Try.prog 11 #[.int .i64 a1, .int .i64 256] w fun e w' => e = .returned (.int .i64 b) ∧ w' = w)
    (p2 : ∀ w : World, Calls Try.prog 11 #[.int .i64 a2, .int .i64 256] w fun e w' => e = .returned (.int .i64 c) ∧ w' = w)
    (p3 : ∀ w : World, Calls Try.prog 11 #[.int .i64 a3, .int .i64 17] w fun e w' => e = .returned (.int .i64 k) ∧ w' = w)
    (p4 : ∀ w : World, Calls Try.prog 11 #[.int .i64 a4, .int .i64 255] w fun e w' => e = .returned (.int .i64 d) ∧ w' = w) :
    Calls Try.prog 4 #[.int .i64 a0, .int .i64 a1, .int .i64 a2, .int .i64 a3, .int .i64 a4] w fun e w' => e = .returned (.bool true) ∧ Below w.heap.size w w' := by
  have P0 : Hid _ := p0
  have P1 : Hid _ := p1
  have P2 : Hid _ := p2
  have P3 : Hid _ := p3
  have P4 : Hid _ := p4
  clear p0 p1 p2 p3 p4
  go_enter Try.func4, Try.ntmps4
  go_wp2_with fail
  refine (P0.out _).mono ?_
  rintro e w' ⟨rfl, rfl⟩
  go_wp2_with fail
  refine (P1.out _).mono ?_
  rintro e w' ⟨rfl, rfl⟩
  go_wp2_with fail
  refine (P2.out _).mono ?_
  rintro e w' ⟨rfl, rfl⟩
  go_wp2_with fail
  refine (header_yes a b c _ ha hb hc).mono ?_
  rintro e w1 ⟨rfl, hb1⟩
  go_wp2_with fail
  have c3 := conv_three_drew
  have wa := wrap_byte a ha
  have wb := wrap_byte b hb
  have wc := wrap_byte c hc
  have hz : (hdr a b c).size = 4 := rfl
  have hx : (hdr a b c).extract 0 3 = ⟨#[.ofNat a, .ofNat b, .ofNat c]⟩ := rfl
  go_region_held (fun _ => True) (trivial) (fail)
  clear c3 wa wb wc
  go_wp2_with fail
  refine (P4.out _).mono ?_
  rintro e w' ⟨rfl, rfl⟩
  go_wp2_with fail
  refine (P3.out _).mono ?_
  rintro e w' ⟨rfl, rfl⟩
  go_wp2_with fail
  obtain ⟨e1, hM⟩ := diff_eq a b c d k ha hb hc hd hk
  have hs := Skein.spotted ha hb hc hd hk
  rw [e1]
  clear e1
  generalize (a * 65536 + b * 256 + c) ^^^ ((1 + d) * 2 ^ k) = M at *
  rw [part1 M hM, part2 M hM, part3 M]
  have hx : M / 65536 % 256 < 256 := Nat.mod_lt _ (by omega)
  have hy : M / 256 % 256 < 256 := Nat.mod_lt _ (by omega)
  have hz : M % 256 < 256 := Nat.mod_lt _ (by omega)
  generalize M / 65536 % 256 = x at *
  generalize M / 256 % 256 = y at *
  generalize M % 256 = z at *
  refine (header_yes x y z _ hx hy hz).mono ?_
  rintro e w2 ⟨rfl, hb2⟩
  go_wp2_with fail
  refine (header_no _ _ _ _ (by decide)).mono ?_
  rintro e w' ⟨rfl, rfl⟩
  go_wp2_with fail
  refine (header_no _ _ _ _ (by decide)).mono ?_
  rintro e w' ⟨rfl, rfl⟩
  go_wp2_with fail
  have hz1 : (hdr a b c).size = 4 := rfl
  have hz2 : (hdr x y z).size = 4 := rfl
  have hg1 : (hdr a b c)[3] = UInt8.ofNat (Skein.crc3 a b c) := rfl
  have hg2 : (hdr x y z)[3] = UInt8.ofNat (Skein.crc3 x y z) := rfl
  have hq1 := byte_back (Skein.crc3 a b c) (Skein.sh8_lt _)
  have hq2 := byte_back (Skein.crc3 x y z) (Skein.sh8_lt _)
  have hq : ((Skein.crc3 a b c : Int) != (Skein.crc3 x y z : Int)) = true := by
    rw [bne_iff_ne]
    intro h
    exact hs (by omega)
  go_quiet (fail)
  go_wp2
  go_ret
  exact ⟨rfl, below_draws ((hb1.alloc hb1.size _).drew.trans (hb2.mono (by have := hb1.size; simp; omega))) nq⟩
theorem spotted_walk (a0 a1 a2 a3 a4 : Int) (w0 : (Lit.int .i64 a0).wf = true) (w1 : (Lit.int .i64 a1).wf = true) (w2 : (Lit.int .i64 a2).wf = true) (w3 : (Lit.int .i64 a3).wf = true) (w4 : (Lit.int .i64 a4).wf = true) (w : World) :
    Calls Try.prog 4 #[.int .i64 a0, .int .i64 a1, .int .i64 a2, .int .i64 a3, .int .i64 a4] w fun e w' => e = .returned (.bool true) ∧ Below w.heap.size w w' := by
  obtain ⟨a, ha, p0⟩ := pick_nat a0 256 (bounds_i64 w0).1 (bounds_i64 w0).2 (by omega) (by omega)
  obtain ⟨b, hb, p1⟩ := pick_nat a1 256 (bounds_i64 w1).1 (bounds_i64 w1).2 (by omega) (by omega)
  obtain ⟨c, hc, p2⟩ := pick_nat a2 256 (bounds_i64 w2).1 (bounds_i64 w2).2 (by omega) (by omega)
  obtain ⟨k, hk, p3⟩ := pick_nat a3 17 (bounds_i64 w3).1 (bounds_i64 w3).2 (by omega) (by omega)
  obtain ⟨d, hd, p4⟩ := pick_nat a4 255 (bounds_i64 w4).1 (bounds_i64 w4).2 (by omega) (by omega)
  exact spot_core a0 a1 a2 a3 a4 a b c d k w ha hb hc hd hk p0 p1 p2 p3 p4
theorem own : ownKnob Try.prog.godebug = none := by kernel_rfl
open Go.ChangeShapes Go.WideShapes Go.ChangeAt Go.RowKit
set_option maxRecDepth 100000 in
theorem spotted_lifted (os : Os) (started : os.Started) (H : Type) (enc : TypeId × Value → H) :
    ReturnsInHanded {} Try.checked os 4 .any (Rows.spottedSpec.pre6 enc Try.prog Try.f4 Rows.spottedRow.domain false) (Rows.spottedSpec.post enc Try.prog Try.f4 false true false false) := by
  refine returnsInHanded_of_change (C := Try.checked) own started (by kernel_rfl) Try.func4
    (ChangeSpec.witness6 (enc := enc) (C := Try.checked) false ⟨#[], #[.int .i64 0, .int .i64 0, .int .i64 0, .int .i64 0, .int .i64 0], []⟩ 8 (by kernel_rfl) (by kernel_rfl) (by kernel_rfl) (by kernel_rfl)) ?_
  intro W base args ds gs before hval0 hW hcnd _
  have hval : ∀ (j : Nat) t v, Try.f4.params[j]? = some t → args[j]? = some v → Value.okWide Try.prog W .any base t v := hval0
  have hW' := hW
  obtain ⟨p, q, hA0, hV, rfl, hfz, hnd⟩ := hW
  have hA : DataW.TrodAll enc Try.prog W 0 (fun _ => true) true Try.f4.params.toList args.toList ds p := hA0
  rw [Try.params4] at hA hval
  obtain ⟨v0, vs0, d0, ds0, p0, q0, hargs, rfl, rfl, h0, r0⟩ := trodAll_cons hA
  obtain ⟨v1, vs1, d1, ds1, p1, q1, rfl, rfl, rfl, h1, r1⟩ := trodAll_cons r0
  obtain ⟨v2, vs2, d2, ds2, p2, q2, rfl, rfl, rfl, h2, r2⟩ := trodAll_cons r1
  obtain ⟨v3, vs3, d3, ds3, p3, q3, rfl, rfl, rfl, h3, r3⟩ := trodAll_cons r2
  obtain ⟨v4, vs4, d4, ds4, p4, q4, rfl, rfl, rfl, h4, r4⟩ := trodAll_cons r3
  obtain ⟨rfl, rfl, rfl⟩ := trodAll_nil r4
  obtain rfl : args = #[v0, v1, v2, v3, v4] := by cases args; simp_all
  obtain ⟨rfl, rfl⟩ := trodVars_none hV
  obtain ⟨a0, rfl, rfl, rfl, w0⟩ := open_int Try.underlying3 (hval 0 3 v0 rfl rfl) h0
  obtain ⟨a1, rfl, rfl, rfl, w1⟩ := open_int Try.underlying3 (hval 1 3 v1 rfl rfl) h1
  obtain ⟨a2, rfl, rfl, rfl, w2⟩ := open_int Try.underlying3 (hval 2 3 v2 rfl rfl) h2
  obtain ⟨a3, rfl, rfl, rfl, w3⟩ := open_int Try.underlying3 (hval 3 3 v3 rfl rfl) h3
  obtain ⟨a4, rfl, rfl, rfl, w4⟩ := open_int Try.underlying3 (hval 4 3 v4 rfl rfl) h4
  clear hA0 hval0
  simp only [List.append_nil] at hW'
  refine (spotted_walk a0 a1 a2 a3 a4 w0 w1 w2 w3 w4 W).mono fun e W' ⟨he, bel⟩ => ?_
  subst he
  exact ⟨_, rfl, _, _, _, [], _, [], hW', trodAll_mk1 (shut_bool Try.underlying4 _), (trodAll_cons_mk (shut_int Try.underlying3 w0) (trodAll_cons_mk (shut_int Try.underlying3 w1) (trodAll_cons_mk (shut_int Try.underlying3 w2) (trodAll_cons_mk (shut_int Try.underlying3 w3) (trodAll_cons_mk (shut_int Try.underlying3 w4) trodAll_mk0))))), rfl, bel.frame _, fun h => by cases h⟩

theorem spotted_over : Rows.spottedRow.holds Try.pinned (OpenSpec.ofChange Rows.spottedSpec) :=
  OpenClaim.holds_of_wide 4 Try.f4 rfl rfl rfl rfl rfl rfl rfl ⟨rfl, rfl, rfl, rfl, rfl⟩ rfl rfl rfl rfl rfl (by kernel_rfl) Try.func4 (by kernel_rfl)
    (of_decide_eq_true (by kernel_rfl)) (by unfold Func.isWrapper; first | (rw [if_pos (by decide +kernel)]; kernel_rfl) | (rw [if_neg (by decide +kernel)]; exact ⟨rfl, rfl⟩))
    (fun os started H enc _ => spotted_lifted os started H enc)

/-- the statement -/
theorem spotted_holds : Rows.SpottedSaid :=
  spotted_over
#print axioms spotted_holds
end Go.Proofs.Ytpdobhoebjoijaa
