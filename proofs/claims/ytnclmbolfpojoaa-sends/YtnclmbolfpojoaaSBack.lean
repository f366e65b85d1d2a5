/-
  A list that was lent comes back: it alone has turned.
-/
import Derived.Test.YtnclmbolfpojoaaSInv
import Derived.Test.YtnclmbolfpojoaaLent
import Derived.WalkKit
import Derived.WalkSpells
import Derived.BigQuiet
import Derived.Deep.QuietTactic
namespace Go.Proofs.Ytnclmbolfpojoaa
open Go.RowKit
set_option maxHeartbeats 1000000 in
set_option maxRecDepth 100000 in
theorem back_chg (g : Nat) (a : Option Addr) (n cap : Nat) (ss : List ByteArray) (w : World) (h : StrsAt w a n ss) (ha : ∀ x, a = some x → 0 < n → x.block < g) (hrow : w.rowIs g 9 (n + 8) (fun j => .string (lentS ss n j))) (hn : n ≤ 8796093022208) :
    Calls Try.prog 58 #[.slice (some ⟨g, 0, none⟩) (n + 8) (n + 8), .slice a n cap] w fun e w' => e = .returned (.bool true) ∧ Chg (fun k => k = g) w w' := by
  obtain ⟨hl, hm, _, hat⟩ := h
  have HAT : Hid (0 < n → ∃ b off, a = some ⟨b, off, none⟩ ∧ b < w.heap.size ∧ ∀ j, j < n → w.cell? ⟨b, off + j, none⟩ = some (.string (ss.getD j ByteArray.empty))) := hat
  have HG : Hid (∀ x, a = some x → 0 < n → x.block < g) := ha
  clear hat hl hm ha
  go_enter Try.func58, Try.ntmps58
  go_wp2
  go_loopw [5, 6] (fun o j wr => o = .bool true ∧ ∃ k : Nat, k ≤ n + 8 ∧ j = .int .i64 k ∧ wr.rowIs g 9 (n + 8) (fun j => if j < k then .string othersS else .string (lentS ss n j)) ∧ Chg (fun k => k = g) w wr) (fun _ j _ => n + 8 - (intOf j).toNat)
  case atStart => exact ⟨rfl, 0, Nat.zero_le _, rfl, hrow.congr (fun i _ => by rw [if_neg (by omega)]), Chg.refl _ _⟩
  case round =>
    clear hrow
    obtain ⟨rfl, k, hk, rfl, hrow, hbel⟩ := hrel
    by_cases hlt : k < n + 8
    · have hcell := hrow.cell (i := k) (by omega)
      rw [if_neg (by omega)] at hcell
      have hfr := hrow.frozen k
      have hi0 : (0 : Int) ≤ (k : Int) := by omega
      have hi1 : (k : Int) < (n : Int) + 8 := by omega
      by_cases hkn : k < n
      · obtain ⟨b, off, rfl, hb, hc⟩ := HAT.out (by omega)
        have hbg : b < g := HG.out _ rfl (by omega)
        have hck : wr.cell? ⟨b, off + k, none⟩ = some (.string (lentS ss n k)) := by
          refine hbel.cell (a := ⟨b, off + k, none⟩) (Nat.ne_of_lt hbg) ?_
          rw [hc k hkn]
          unfold lentS
          rw [if_pos hkn]
        clear hc
        generalize lentS ss n k = x at *
        have hi2 : (k : Int) < (n : Int) := by omega
        have hx : (x.toList == x.toList) = true := by simp
        go_wp2
        go_quiet (fail)
        go_wp2
        go_roundw
        case rel =>
          refine ⟨rfl, k + 1, by omega, by go_num, ?_, (hbel.drewN _).trans' (Chg.setCell (F := fun k => k = g) _ ⟨g, k, none⟩ _ rfl)⟩
          exact back_row k _ hrow
        case measure => simp [intOf]; omega
      · have HB : Hid (lentS ss n k = behind (k - n)) := by
          show _ = _
          unfold lentS
          rw [if_neg hkn]
        rw [HB.out] at hcell
        have hi2 : ¬ (k : Int) < (n : Int) := by omega
        unfold behind at hcell
        go_wp2
        go_quiet (fail)
        go_wp2
        go_roundw
        case rel =>
          exact ⟨rfl, k + 1, by omega, by go_num, back_row k _ hrow, (hbel.drewN _).trans' (Chg.setCell (F := fun k => k = g) _ ⟨g, k, none⟩ _ rfl)⟩
        case measure => simp [intOf]; omega
    · go_wp2
      go_ret
      exact ⟨rfl, hbel⟩
end Go.Proofs.Ytnclmbolfpojoaa
