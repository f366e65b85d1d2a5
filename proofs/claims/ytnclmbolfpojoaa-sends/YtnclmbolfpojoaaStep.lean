/-
  A step of a script whose kind is at most that of Header: it answers as the document does, and what is kept stays kept.
-/
import Derived.Test.YtnclmbolfpojoaaSteps
import Derived.WalkKit
import Derived.WalkSpells
import Derived.BigQuiet
import Derived.Deep.QuietTactic
namespace Go.Proofs.Ytnclmbolfpojoaa
open Go.RowKit
theorem texts_calls (BB gW : Nat) (ve vr vl vm : Value) (xs : List Value) (ms : List ByteArray) (w : World) (hl : xs.length = ms.length) (hk : xs.length ≤ 4398046511104) (h : Kept w BB gW ve vr vl vm xs ms)
    (k A B D W : Int) (s : ByteArray) (a : Option Addr) (n cap : Nat) (c0 c1 c2 c3 c4 c5 c6 c7 c8 c9 : Int) (ss : List ByteArray) (hst : StrsAt w a n ss) (hn : n ≤ 8796093022208) (hs : s.size ≤ 9223372036854775000) (h1 : 1 ≤ k) (h3 : k ≤ 3)
    (K : Nat → Prop) (hKn : ∀ k, w.heap.size ≤ k → K k) (hKW : K gW) (hKI : KIn K vl vm xs) :
    Calls Try.prog 34 #[.pointer (some ⟨gW, 0, none⟩), .agg #[.int .i64 k, .int .i64 A, .int .i64 B, .int .i64 D, .int .i64 W, .string s, .slice a n cap, .int .i64 c0, .int .i64 c1, .int .i64 c2, .int .i64 c3, .int .i64 c4, .int .i64 c5, .int .i64 c6, .int .i64 c7, .int .i64 c8, .int .i64 c9]] w fun e w' => StepPost w BB gW ve vr xs.length K e w' := by
  have : k = 1 ∨ k = 2 ∨ k = 3 := by omega
  rcases this with rfl | rfl | rfl
  · exact texts_pack BB gW ve vr vl vm xs ms w hl h A B D W s a n cap c0 c1 c2 c3 c4 c5 c6 c7 c8 c9 ss hst hn K hKI
  · exact texts_unpack BB gW ve vr vl vm xs ms w hl hk h A B D W s a n cap c0 c1 c2 c3 c4 c5 c6 c7 c8 c9 hs K hKn hKW hKI
  · exact texts_header BB gW ve vr vl vm xs ms w hl h A B D W s a n cap c0 c1 c2 c3 c4 c5 c6 c7 c8 c9 K hKI
set_option maxHeartbeats 2000000 in
set_option maxRecDepth 100000 in
theorem step_low (BB gW : Nat) (vr vl vm : Value) (xs : List Value) (ms : List ByteArray) (w : World) (hl : xs.length = ms.length) (hk : xs.length ≤ 4398046511104) (h : Kept w BB gW (.slice none 0 0) vr vl vm xs ms)
    (k A B D W : Int) (s : ByteArray) (a : Option Addr) (n cap : Nat) (c0 c1 c2 c3 c4 c5 c6 c7 c8 c9 : Int) (ss : List ByteArray) (hst : StrsAt w a n ss) (hn : n ≤ 8796093022208) (hs : s.size ≤ 9223372036854775000) (h3 : k ≤ 3)
    (K : Nat → Prop) (hKn : ∀ k, w.heap.size ≤ k → K k) (hKW : K gW) (hKI : KIn K vl vm xs) :
    Calls Try.prog 22 #[.pointer (some ⟨gW, 0, none⟩), .agg #[.int .i64 k, .int .i64 A, .int .i64 B, .int .i64 D, .int .i64 W, .string s, .slice a n cap, .int .i64 c0, .int .i64 c1, .int .i64 c2, .int .i64 c3, .int .i64 c4, .int .i64 c5, .int .i64 c6, .int .i64 c7, .int .i64 c8, .int .i64 c9]] w fun e w' => StepPost w BB gW (.slice none 0 0) vr xs.length K e w' := by
  have HK : Hid (Kept w BB gW (.slice none 0 0) vr vl vm xs ms) := h
  have HL : Hid (xs.length = ms.length) := hl
  have HST : Hid (StrsAt w a n ss) := hst
  have hBw : BB ≤ w.heap.size := Nat.le_trans h.1 (Nat.le_of_lt (Array.getElem?_eq_some_iff.1 h.2.1).1)
  have hW : w.cell? ⟨gW, 0, none⟩ = some (.slice none 0 0) := by rw [Lib.cell_of_heap h.2.1]; rfl
  have hWlt : gW < w.heap.size := (Array.getElem?_eq_some_iff.1 h.2.1).1
  have HKN : Hid (∀ k, w.heap.size ≤ k → K k) := hKn
  have HKW : Hid (K gW) := hKW
  have HKI : Hid (KIn K vl vm xs) := hKI
  clear h hl hst hKn hKW hKI
  by_cases h1 : 1 ≤ k
  · go_enter Try.func22, Try.ntmps22
    go_wp2_with fail
    have hb1 := below_alloc w (.cells #[.int .i64 k, .int .i64 A, .int .i64 B, .int .i64 D, .int .i64 W, .string s, .slice a n cap, .int .i64 c0, .int .i64 c1, .int .i64 c2, .int .i64 c3, .int .i64 c4, .int .i64 c5, .int .i64 c6, .int .i64 c7, .int .i64 c8, .int .i64 c9] 62)
    refine (texts_calls BB gW _ vr vl vm xs ms _ HL.out hk (HK.out.below hb1) k A B D W s a n cap c0 c1 c2 c3 c4 c5 c6 c7 c8 c9 ss (HST.out.keeps hb1) hn hs h1 h3 K (fun k hk => HKN.out k (Nat.le_trans hb1.size hk)) HKW.out HKI.out).mono ?_
    rintro e w2 ⟨rfl, hb2, hc2, hrest⟩
    have HR : Hid (∃ vl vm xs' ms', xs'.length = ms'.length ∧ xs'.length ≤ xs.length + 4 ∧ Kept w2 BB gW (.slice none 0 0) vr vl vm xs' ms' ∧ KIn K vl vm xs') := hrest
    have hbw : Below BB w w2 := (hb1.mono hBw).trans hb2
    have HC : Hid (Chg K w w2) := (Chg.of_below hb1).trans' hc2
    clear hrest hb1 hb2 hc2
    go_wp2_with fail
    go_ret
    exact ⟨rfl, hbw, HC.out, HR.out⟩
  · have h4 : (k == 4) = false := by rw [beq_eq_false_iff_ne]; omega
    go_enter Try.func22, Try.ntmps22
    go_wp2
    go_ret
    have hb1 := below_alloc w (.cells #[.int .i64 k, .int .i64 A, .int .i64 B, .int .i64 D, .int .i64 W, .string s, .slice a n cap, .int .i64 c0, .int .i64 c1, .int .i64 c2, .int .i64 c3, .int .i64 c4, .int .i64 c5, .int .i64 c6, .int .i64 c7, .int .i64 c8, .int .i64 c9] 62)
    exact ⟨rfl, hb1.mono hBw, Chg.of_below hb1, vl, vm, xs, ms, HL.out, by omega, HK.out.below hb1, HKI.out⟩
end Go.Proofs.Ytnclmbolfpojoaa
