/-
  The statements own helpers that lend a list and take it back, compare two lists, and tell a number of an answer, as contracts.
-/
import Derived.Test.YtnclmbolfpojoaaBeg
import Derived.WalkKit
import Derived.WalkSpells
import Derived.BigRegion
import Derived.BigQuiet
import Derived.Deep.QuietTactic
import Derived.Deep.RegionHeld
import Derived.Deep.DrawnRows
import Derived.OwnWalk
import Derived.Laws.CopyOwn
namespace Go.Proofs.Ytnclmbolfpojoaa
open Go.RowKit
theorem StrsAt.keeps {w w' : World} {a : Option Addr} {n : Nat} {ss : List ByteArray} (h : StrsAt w a n ss) (hb : Below w.heap.size w w') : StrsAt w' a n ss := by
  obtain ⟨h1, h2, h3, h4⟩ := h
  refine ⟨h1, h2, h3, fun hn => ?_⟩
  obtain ⟨b, off, e, hlt, hc⟩ := h4 hn
  exact ⟨b, off, e, Nat.lt_of_lt_of_le hlt hb.size, fun j hj => by rw [hb.cell (p := ⟨b, off + j, none⟩) hlt]; exact hc j hj⟩
theorem num_calls (n : Int) (w : World) : Calls Try.prog 45 #[.int .i64 n] w fun e w' => e = .returned (.int .i64 n) ∧ w' = w := by
  go_enter Try.func45, Try.ntmps45
  go_wp2
  go_ret
  exact ⟨rfl, rfl⟩
set_option maxHeartbeats 1000000 in
set_option maxRecDepth 100000 in
theorem same_calls (a1 a2 : Option Addr) (n c1 c2 : Nat) (ss : List ByteArray) (w : World) (h1 : StrsAt w a1 n ss) (h2 : StrsAt w a2 n ss) :
    Calls Try.prog 60 #[.slice a1 n c1, .slice a2 n c2] w fun e w' => e = .returned (.bool true) ∧ Below w.heap.size w w' := by
  obtain ⟨hl, hm, _, hat1⟩ := h1
  obtain ⟨_, _, _, hat2⟩ := h2
  unfold maxLen at hm
  have HAT1 : Hid (0 < n → ∃ b off, a1 = some ⟨b, off, none⟩ ∧ b < w.heap.size ∧ ∀ j, j < n → w.cell? ⟨b, off + j, none⟩ = some (.string (ss.getD j ByteArray.empty))) := hat1
  have HAT2 : Hid (0 < n → ∃ b off, a2 = some ⟨b, off, none⟩ ∧ b < w.heap.size ∧ ∀ j, j < n → w.cell? ⟨b, off + j, none⟩ = some (.string (ss.getD j ByteArray.empty))) := hat2
  clear hat1 hat2 hl
  go_enter Try.func60, Try.ntmps60
  go_wp2
  go_loopw [4, 5] (fun _ j wr => ∃ (k q : Nat), k ≤ n ∧ j = .int .i64 k ∧ wr = w.drewN q) (fun _ j _ => n - (intOf j).toNat)
  case atStart => exact ⟨0, 0, Nat.zero_le _, rfl, rfl⟩
  case round =>
    obtain ⟨k, q, hk, rfl, rfl⟩ := hrel
    by_cases hlt : k < n
    · obtain ⟨b1, o1, rfl, hb1, hc1⟩ := HAT1.out (by omega)
      obtain ⟨b2, o2, rfl, hb2, hc2⟩ := HAT2.out (by omega)
      have hck1 := hc1 k hlt
      have hck2 := hc2 k hlt
      clear hc1 hc2
      generalize ss.getD k ByteArray.empty = x at *
      have hi0 : (0 : Int) ≤ (k : Int) := by omega
      have hi1 : (k : Int) < (n : Int) := by omega
      have hx : (x.toList == x.toList) = true := by simp
      go_wp2
      go_quiet (fail)
      go_wp2
      go_roundw
      case rel => exact ⟨k + 1, _, by omega, by go_num, rfl⟩
      case measure => simp [intOf]; omega
    · go_wp2
      go_ret
      exact ⟨rfl, below_draws' (Below.refl _ _) _⟩
theorem lent_row (w : World) (g n : Nat) (ss : List ByteArray) (hl : ss.length = n) (h : w.heap[g]? = some (.cells (splice (madeCells #[Value.string ⟨#[]⟩] (n + 8)).toList 0 (ss.map Value.string)).toArray 9)) :
    w.rowIs g 9 (n + 8) (fun j => .string (if j < n then ss.getD j ByteArray.empty else ⟨#[]⟩)) := by
  have hml : (madeCells #[Value.string ⟨#[]⟩] (n + 8)).toList.length = n + 8 := by rw [Array.length_toList, size_madeCells]
  have hsl : (ss.map Value.string).length = n := by rw [List.length_map, hl]
  refine ⟨_, h, ?_, fun i hi => ?_⟩
  · rw [List.size_toArray, length_splice _ _ _ (by omega), hml]
  · show _ = some (Value.string (if i < n then ss.getD i ByteArray.empty else ⟨#[]⟩))
    rw [List.getElem?_toArray]
    unfold splice
    rw [List.take_zero, List.nil_append, hsl, Nat.zero_add]
    by_cases h1 : i < n
    · rw [List.getElem?_append_left (by omega), if_pos h1, List.getElem?_map, List.getD_eq_getElem?_getD, List.getElem?_eq_getElem (by omega)]
      rfl
    · rw [List.getElem?_append_right (by omega), if_neg h1, toList_madeCells_one, List.getElem?_drop, hsl, List.getElem?_replicate, if_pos (by omega)]
set_option maxHeartbeats 1000000 in
set_option maxRecDepth 100000 in
theorem lent_calls (a : Option Addr) (n cap : Nat) (ss : List ByteArray) (w : World) (h : StrsAt w a n ss) (hn : n ≤ 8796093022208) :
    Calls Try.prog 56 #[.slice a n cap] w fun e w' => e = .returned (.slice (some ⟨w.heap.size, 0, none⟩) (n + 8) (n + 8)) ∧ w'.rowIs w.heap.size 9 (n + 8) (fun j => .string (lentS ss n j)) ∧ Below w.heap.size w w' := by
  obtain ⟨hl, hm, _, hat⟩ := h
  have hmk : ∀ W, (Instr.makeSlice 27 (.int .i64 ((n : Int) + 8)) (.int .i64 ((n : Int) + 8))).run Try.prog W = .ok (.slice (some ⟨W.heap.size, 0, none⟩) (n + 8) (n + 8)) (W.alloc (.cells (madeCells #[.string ⟨#[]⟩] (n + 8)) 9)) := fun W => by
    have := run_make_row' (P := Try.prog) 27 9 (.string ⟨#[]⟩) 16 Try.underlying27 info9 rfl .i64 .i64 (n + 8) (by omega) (by omega) W
    rwa [show (((n + 8 : Nat)) : Int) = (n : Int) + 8 by omega] at this
  have HAT : Hid (0 < n → ∃ b off, a = some ⟨b, off, none⟩ ∧ b < w.heap.size ∧ ∀ j, j < n → w.cell? ⟨b, off + j, none⟩ = some (.string (ss.getD j ByteArray.empty))) := hat
  have HL : Hid (ss.length = n) := hl
  clear hat hl hm
  obtain ⟨X1, hX1⟩ : ∃ X1, X1 = ss.map Value.string := ⟨_, rfl⟩
  have HX1 : Hid (X1 = ss.map Value.string) := hX1
  have hXl : X1.length = n := by rw [hX1, List.length_map, HL.out]
  clear hX1
  go_enter Try.func56, Try.ntmps56
  go_wp2_with (refine wpList_copy_splice rfl _ _ 27 27 rfl 9 Try.underlying27 (by kernel_rfl) _ _ _ _ _ _ rfl rfl w.heap.size 0 (madeCells #[.string ⟨#[]⟩] (n + 8)).toList 9 ?hg X1 ?hn ?hpos ?hfit ?h1 w.heap.size w ?hb (Nat.le_refl _) ?_)
  case hg => rw [heap_alloc_new]
  case hn => rw [hXl]; exact (Nat.min_eq_left (by omega)).symm
  case hpos =>
    intro h0
    obtain ⟨b, off, rfl, hb, hc⟩ := HAT.out h0
    refine ⟨_, rfl, fun j v hv => ?_⟩
    rw [HX1.out, List.getElem?_map] at hv
    have hj : j < n := by
      rcases Nat.lt_or_ge j n with h | h
      · exact h
      · rw [List.getElem?_eq_none (by rw [HL.out]; exact h)] at hv
        simp at hv
    have ea : (⟨b, off, none⟩ : Addr).add j = ⟨b, off + j, none⟩ := by unfold Addr.add; split <;> simp_all
    rw [ea, World.cell?_alloc_lt w _ ⟨b, off + j, none⟩ hb, hc j hj]
    rw [List.getElem?_eq_getElem (by rw [HL.out]; exact hj)] at hv
    rw [← hv, List.getD_eq_getElem?_getD, List.getElem?_eq_getElem (by rw [HL.out]; exact hj)]
    rfl
  case hfit => rw [hXl, Array.length_toList, size_madeCells]; omega
  case h1 =>
    intro v hv
    rw [HX1.out, List.mem_map] at hv
    obtain ⟨x, _, rfl⟩ := hv
    rfl
  case hb => exact (Below.refl _ _).alloc (Nat.le_refl _) _
  intro w1 H1 hb1
  have h1 := H1.out
  rw [HX1.out] at h1
  have hrow1 := lent_row w1 w.heap.size n ss HL.out h1
  clear h1 H1 hmk HX1 hXl
  go_wp2
  go_loopw [4] (fun j wr => ∃ k : Nat, k ≤ 8 ∧ j = .int .i64 k ∧ wr.rowIs w.heap.size 9 (n + 8) (fun j => .string (if j < n + k then lentS ss n j else ⟨#[]⟩)) ∧ Below w.heap.size w wr) (fun j _ => 8 - (intOf j).toNat)
  case atStart => exact ⟨0, Nat.zero_le _, rfl, hrow1.congr (fun i _ => by
    by_cases h : i < n
    · rw [if_pos h, if_pos (by omega)]; unfold lentS; rw [if_pos h]
    · rw [if_neg h, if_neg (by omega)]), hb1⟩
  case round =>
    clear hrow1 hb1
    obtain ⟨k, hk, rfl, hrow, hbel⟩ := hrel
    by_cases hlt : k < 8
    · have hcell := hrow.cell (i := n + k) (by omega)
      rw [if_neg (by omega)] at hcell
      have hfr := hrow.frozen (n + k)
      go_wp2
      go_roundw
      case rel =>
        refine ⟨k + 1, by omega, by go_num, (hrow.set (n + k) _).congr (fun i hi => ?_), hbel.setCell (p := ⟨w.heap.size, n + k, none⟩) (Nat.le_refl _) _⟩
        by_cases e : i = n + k
        · rw [if_pos e, if_pos (by omega), e]
          unfold lentS behind
          rw [if_neg (by omega), show n + k - n = k by omega]
        · rw [if_neg e]
          by_cases e2 : i < n + k
          · rw [if_pos e2, if_pos (by omega)]
          · rw [if_neg e2, if_neg (by omega)]
      case measure => simp [intOf]; omega
    · go_wp2
      go_ret
      refine ⟨rfl, hrow.congr (fun i hi => ?_), hbel⟩
      rw [if_pos (by omega)]

theorem back_row {w : World} {g m : Nat} {f : Nat → Value} (k : Nat) (q : Nat) (h : w.rowIs g 9 m (fun j => if j < k then .string othersS else f j)) :
    ((w.drewN q).setCell ⟨g, k, none⟩ (.string othersS)).rowIs g 9 m (fun j => if j < k + 1 then .string othersS else f j) := by
  have h' : (w.drewN q).rowIs g 9 m (fun j => if j < k then .string othersS else f j) := h
  refine (h'.set k _).congr (fun i _ => ?_)
  by_cases e : i = k
  · rw [if_pos e, if_pos (by omega)]
  · rw [if_neg e]
    by_cases e2 : i < k
    · rw [if_pos e2, if_pos (by omega)]
    · rw [if_neg e2, if_neg (by omega)]
set_option maxHeartbeats 1000000 in
set_option maxRecDepth 100000 in
theorem back_calls (g : Nat) (a : Option Addr) (n cap : Nat) (ss : List ByteArray) (w : World) (h : StrsAt w a n ss) (ha : ∀ x, a = some x → 0 < n → x.block < g) (hrow : w.rowIs g 9 (n + 8) (fun j => .string (lentS ss n j))) (hn : n ≤ 8796093022208) :
    Calls Try.prog 58 #[.slice (some ⟨g, 0, none⟩) (n + 8) (n + 8), .slice a n cap] w fun e w' => e = .returned (.bool true) ∧ Below g w w' := by
  obtain ⟨hl, hm, _, hat⟩ := h
  have HAT : Hid (0 < n → ∃ b off, a = some ⟨b, off, none⟩ ∧ b < w.heap.size ∧ ∀ j, j < n → w.cell? ⟨b, off + j, none⟩ = some (.string (ss.getD j ByteArray.empty))) := hat
  have HG : Hid (∀ x, a = some x → 0 < n → x.block < g) := ha
  clear hat hl hm ha
  go_enter Try.func58, Try.ntmps58
  go_wp2
  go_loopw [5, 6] (fun o j wr => o = .bool true ∧ ∃ k : Nat, k ≤ n + 8 ∧ j = .int .i64 k ∧ wr.rowIs g 9 (n + 8) (fun j => if j < k then .string othersS else .string (lentS ss n j)) ∧ Below g w wr) (fun _ j _ => n + 8 - (intOf j).toNat)
  case atStart => exact ⟨rfl, 0, Nat.zero_le _, rfl, hrow.congr (fun i _ => by rw [if_neg (by omega)]), Below.refl _ _⟩
  case round =>
    clear hrow
    obtain ⟨rfl, k, hk, rfl, hrow, hbel⟩ := hrel
    by_cases hlt : k < n + 8
    · have hcell := hrow.cell (i := k) (by omega)
      rw [if_neg (by omega)] at hcell
      have hfr := hrow.frozen k
      have hi0 : (0 : Int) ≤ (k : Int) := by omega
      have hi1 : (k : Int) < (n : Int) + 8 := by omega
      by_cases hkn : k < n
      · obtain ⟨b, off, rfl, hb, hc⟩ := HAT.out (by omega)
        have hbg : b < g := HG.out _ rfl (by omega)
        have hck : wr.cell? ⟨b, off + k, none⟩ = some (.string (lentS ss n k)) := by
          rw [hbel.cell (p := ⟨b, off + k, none⟩) hbg, hc k hkn]
          unfold lentS
          rw [if_pos hkn]
        clear hc
        generalize lentS ss n k = x at *
        have hi2 : (k : Int) < (n : Int) := by omega
        have hx : (x.toList == x.toList) = true := by simp
        go_wp2
        go_quiet (fail)
        go_wp2
        go_roundw
        case rel =>
          refine ⟨rfl, k + 1, by omega, by go_num, ?_, (below_draws' hbel _).setCell (p := ⟨g, k, none⟩) (Nat.le_refl _) _⟩
          exact back_row k _ hrow
        case measure => simp [intOf]; omega
      · have HB : Hid (lentS ss n k = behind (k - n)) := by
          show _ = _
          unfold lentS
          rw [if_neg hkn]
        rw [HB.out] at hcell
        have hi2 : ¬ (k : Int) < (n : Int) := by omega
        unfold behind at hcell
        go_wp2
        go_quiet (fail)
        go_wp2
        go_roundw
        case rel =>
          exact ⟨rfl, k + 1, by omega, by go_num, back_row k _ hrow, (below_draws' hbel _).setCell (p := ⟨g, k, none⟩) (Nat.le_refl _) _⟩
        case measure => simp [intOf]; omega
    · go_wp2
      go_ret
      exact ⟨rfl, hbel⟩
end Go.Proofs.Ytnclmbolfpojoaa
