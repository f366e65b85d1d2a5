/-
  The configuration of a statement that plays two ends.
-/
import Derived.Test.YtpdobhoebjoijaaPNew
import Derived.Test.YtpdobhoebjoijaaFairP
import Derived.Test.YtpdobhoebjoijaaSpotted
import Derived.Deep.DeepCutAuto
namespace Go.Proofs.Ytpdobhoebjoijaa
open Go.RowKit
def In64 (x : Int) : Prop := -9223372036854775808 ≤ x ∧ x ≤ 9223372036854775807
/-- the weights are set one behind the other -/
def cfgArr (c : Cfg) (i : Nat) : Array Value := #[.int .i64 c.n, .int .i64 (if 0 < i then c.w0 else 0), .int .i64 (if 1 < i then c.w1 else 0), .int .i64 (if 2 < i then c.w2 else 0), .int .i64 (if 3 < i then c.w3 else 0), .int .i64 c.quantum, .int .i64 c.chunk, .int .i64 c.window, .int .i64 c.queue, .int .i64 c.patience]
theorem cfgArr_step (c : Cfg) {i : Nat} (h : i < 4) : (cfgArr c i).setIfInBounds (1 + i) (.int .i64 (c.raw i)) = cfgArr c (i + 1) := by
  match i, h with
  | 0, _ => rfl
  | 1, _ => rfl
  | 2, _ => rfl
  | 3, _ => rfl
set_option maxHeartbeats 2000000 in
set_option maxRecDepth 100000 in
theorem config_walk (s0 s1 s2 s3 s4 s5 a0 a1 a2 a3 : Int) (k0 k1 k2 k3 k4 k5 q0 q1 q2 q3 : Nat) (b0 : k0 < 4) (b1 : k1 < 8) (b2 : k2 < 8) (b3 : k3 < 243) (b4 : k4 < 600) (b5 : k5 < 9) (d0 : q0 < 4) (d1 : q1 < 4) (d2 : q2 < 4) (d3 : q3 < 4)
    (p0 : ∀ w : World, Calls Try.prog 11 #[.int .i64 s0, .int .i64 4] w fun e w' => e = .returned (.int .i64 k0) ∧ w' = w)
    (p1 : ∀ w : World, Calls Try.prog 11 #[.int .i64 s1, .int .i64 8] w fun e w' => e = .returned (.int .i64 k1) ∧ w' = w)
    (p2 : ∀ w : World, Calls Try.prog 11 #[.int .i64 s2, .int .i64 8] w fun e w' => e = .returned (.int .i64 k2) ∧ w' = w)
    (p3 : ∀ w : World, Calls Try.prog 11 #[.int .i64 s3, .int .i64 243] w fun e w' => e = .returned (.int .i64 k3) ∧ w' = w)
    (p4 : ∀ w : World, Calls Try.prog 11 #[.int .i64 s4, .int .i64 600] w fun e w' => e = .returned (.int .i64 k4) ∧ w' = w)
    (p5 : ∀ w : World, Calls Try.prog 11 #[.int .i64 s5, .int .i64 9] w fun e w' => e = .returned (.int .i64 k5) ∧ w' = w)
    (e0 : ∀ w : World, Calls Try.prog 11 #[.int .i64 a0, .int .i64 4] w fun e w' => e = .returned (.int .i64 q0) ∧ w' = w)
    (e1 : ∀ w : World, Calls Try.prog 11 #[.int .i64 a1, .int .i64 4] w fun e w' => e = .returned (.int .i64 q1) ∧ w' = w)
    (e2 : ∀ w : World, Calls Try.prog 11 #[.int .i64 a2, .int .i64 4] w fun e w' => e = .returned (.int .i64 q2) ∧ w' = w)
    (e3 : ∀ w : World, Calls Try.prog 11 #[.int .i64 a3, .int .i64 4] w fun e w' => e = .returned (.int .i64 q3) ∧ w' = w) (w : World) (c : Cfg) (hc : c = ⟨1 + k0, ((1 + q0 : Nat) : Int), ((1 + q1 : Nat) : Int), ((1 + q2 : Nat) : Int), ((1 + q3 : Nat) : Int), 1 + k1, 1 + k2, 8 + k3, 1 + k4, 1 + k5⟩) :
    Calls Try.prog 13 #[.agg #[.int .i64 s0, .int .i64 s1, .int .i64 s2, .int .i64 s3, .int .i64 s4, .int .i64 s5, .int .i64 a0, .int .i64 a1, .int .i64 a2, .int .i64 a3]] w fun e w' =>
      e = .returned (.agg (cfgCells c)) ∧ Below w.heap.size w w' := by
  have P0 := hid p0
  have P1 := hid p1
  have P2 := hid p2
  have P3 := hid p3
  have P4 := hid p4
  have P5 := hid p5
  have E0 := hid e0
  have E1 := hid e1
  have E2 := hid e2
  have E3 := hid e3
  clear p0 p1 p2 p3 p4 p5 e0 e1 e2 e3
  go_enter Try.func13, Try.ntmps13
  go_wp2
  obtain ⟨W, hW⟩ : ∃ W, (w.alloc (.cells #[.int .i64 s0, .int .i64 s1, .int .i64 s2, .int .i64 s3, .int .i64 s4, .int .i64 s5, .int .i64 a0, .int .i64 a1, .int .i64 a2, .int .i64 a3] 38)).alloc (.cells #[.int .i64 0, .int .i64 0, .int .i64 0, .int .i64 0, .int .i64 0, .int .i64 0, .int .i64 0, .int .i64 0, .int .i64 0, .int .i64 0] 40) = W := ⟨_, rfl⟩
  rw [hW]
  have hsz : W.heap.size = w.heap.size + 2 := by rw [← hW]; simp
  have hbx : W.heap[w.heap.size]? = some (.cells #[.int .i64 s0, .int .i64 s1, .int .i64 s2, .int .i64 s3, .int .i64 s4, .int .i64 s5, .int .i64 a0, .int .i64 a1, .int .i64 a2, .int .i64 a3] 38 (0, 0)) := by
    rw [← hW, Below.heap_alloc _ _ _ (by simp)]
    exact heap_alloc_new w _
  have hrs : W.heap[w.heap.size + 1]? = some (.cells #[.int .i64 0, .int .i64 0, .int .i64 0, .int .i64 0, .int .i64 0, .int .i64 0, .int .i64 0, .int .i64 0, .int .i64 0, .int .i64 0] 40 (0, 0)) := by
    rw [← hW]
    have := heap_alloc_new (w.alloc (.cells #[.int .i64 s0, .int .i64 s1, .int .i64 s2, .int .i64 s3, .int .i64 s4, .int .i64 s5, .int .i64 a0, .int .i64 a1, .int .i64 a2, .int .i64 a3] 38)) (.cells #[.int .i64 0, .int .i64 0, .int .i64 0, .int .i64 0, .int .i64 0, .int .i64 0, .int .i64 0, .int .i64 0, .int .i64 0, .int .i64 0] 40)
    simpa using this
  have hbw : Below w.heap.size w W := by rw [← hW]; exact (below_alloc1 w _).alloc (by simp) _
  have c0 : W.cell? ⟨w.heap.size, 0, none⟩ = some (.int .i64 s0) := Lib.cell_of_heap hbx 0
  have c1 : W.cell? ⟨w.heap.size, 1, none⟩ = some (.int .i64 s1) := Lib.cell_of_heap hbx 1
  have c2 : W.cell? ⟨w.heap.size, 2, none⟩ = some (.int .i64 s2) := Lib.cell_of_heap hbx 2
  have c3 : W.cell? ⟨w.heap.size, 3, none⟩ = some (.int .i64 s3) := Lib.cell_of_heap hbx 3
  have c4 : W.cell? ⟨w.heap.size, 4, none⟩ = some (.int .i64 s4) := Lib.cell_of_heap hbx 4
  have c5 : W.cell? ⟨w.heap.size, 5, none⟩ = some (.int .i64 s5) := Lib.cell_of_heap hbx 5
  have hlt := heap_some hbx
  have HBX := hid hbx
  have HRS := hid hrs
  have HBW := hid hbw
  clear hbx hrs hbw hW
  have HC := hid hc
  have v0 : IntKind.i64.wrap (1 + (k0 : Int)) = (c.n : Int) := by rw [hc]; simp [IntKind.wrap, IntKind.bits, IntKind.signed]; omega
  have v1 : IntKind.i64.wrap (1 + (k1 : Int)) = (c.quantum : Int) := by rw [hc]; simp [IntKind.wrap, IntKind.bits, IntKind.signed]; omega
  have v2 : IntKind.i64.wrap (1 + (k2 : Int)) = (c.chunk : Int) := by rw [hc]; simp [IntKind.wrap, IntKind.bits, IntKind.signed]; omega
  have v3 : IntKind.i64.wrap (8 + (k3 : Int)) = (c.window : Int) := by rw [hc]; simp [IntKind.wrap, IntKind.bits, IntKind.signed]; omega
  have v4 : IntKind.i64.wrap (1 + (k4 : Int)) = (c.queue : Int) := by rw [hc]; simp [IntKind.wrap, IntKind.bits, IntKind.signed]; omega
  have v5 : IntKind.i64.wrap (1 + (k5 : Int)) = (c.patience : Int) := by rw [hc]; simp [IntKind.wrap, IntKind.bits, IntKind.signed]; omega
  have HV : Hid (Obj.cells #[.int .i64 (IntKind.i64.wrap (1 + (k0 : Int))), .int .i64 0, .int .i64 0, .int .i64 0, .int .i64 0, .int .i64 (IntKind.i64.wrap (1 + (k1 : Int))), .int .i64 (IntKind.i64.wrap (1 + (k2 : Int))), .int .i64 (IntKind.i64.wrap (8 + (k3 : Int))), .int .i64 (IntKind.i64.wrap (1 + (k4 : Int))), .int .i64 (IntKind.i64.wrap (1 + (k5 : Int)))] 40 (0, 0) = Obj.cells (cfgArr c 0) 40 (0, 0)) := by
    show _ = _
    rw [v0, v1, v2, v3, v4, v5]
    rfl
  clear v0 v1 v2 v3 v4 v5
  clear hc
  go_cut [3] (fun v3 wx => v3 = .pointer (some ⟨w.heap.size + 2, 0, none⟩) ∧ wx = (W.alloc (.cells (cfgArr c 0) 40)).drew)
  case first =>
   go_region_held3 (fun w' => w'.cell? ⟨w.heap.size, 0, none⟩ = some (.int .i64 s0) ∧ w'.cell? ⟨w.heap.size, 1, none⟩ = some (.int .i64 s1) ∧ w'.cell? ⟨w.heap.size, 2, none⟩ = some (.int .i64 s2) ∧ w'.cell? ⟨w.heap.size, 3, none⟩ = some (.int .i64 s3) ∧ w'.cell? ⟨w.heap.size, 4, none⟩ = some (.int .i64 s4) ∧ w'.cell? ⟨w.heap.size, 5, none⟩ = some (.int .i64 s5))
     (first
      | (go_keep; done))
     (first
      | (go_at_call_of 11 (Value.int IntKind.i64 s0)
         refine (P0.out _).mono ?_
         rintro e w2 ⟨rfl, hw2⟩
         replace hw2 := hw2.symm
         subst hw2)
      | (go_at_call_of 11 (Value.int IntKind.i64 s1)
         refine (P1.out _).mono ?_
         rintro e w2 ⟨rfl, hw2⟩
         replace hw2 := hw2.symm
         subst hw2)
      | (go_at_call_of 11 (Value.int IntKind.i64 s2)
         refine (P2.out _).mono ?_
         rintro e w2 ⟨rfl, hw2⟩
         replace hw2 := hw2.symm
         subst hw2)
      | (go_at_call_of 11 (Value.int IntKind.i64 s3)
         refine (P3.out _).mono ?_
         rintro e w2 ⟨rfl, hw2⟩
         replace hw2 := hw2.symm
         subst hw2)
      | (go_at_call_of 11 (Value.int IntKind.i64 s4)
         refine (P4.out _).mono ?_
         rintro e w2 ⟨rfl, hw2⟩
         replace hw2 := hw2.symm
         subst hw2)
      | (go_at_call_of 11 (Value.int IntKind.i64 s5)
         refine (P5.out _).mono ?_
         rintro e w2 ⟨rfl, hw2⟩
         replace hw2 := hw2.symm
         subst hw2))
   all_goals go_wp2_with fail
   all_goals go_meet
   all_goals exact ⟨rfl, by rw [HV.out]⟩
  case rest =>
   obtain ⟨rfl, hwc⟩ := hcut
   have hbc : Below W.heap.size W wc := by rw [hwc]; exact (below_alloc1 W _).drew
   have h3 : wc.heap[w.heap.size + 2]? = some (.cells (cfgArr c 0) 40 (0, 0)) := by rw [hwc, ← hsz]; exact heap_alloc_new W _
   have hbx := (hbc.block _ (heap_some HBX.out)).trans HBX.out
   have hrs := (hbc.block _ (heap_some HRS.out)).trans HRS.out
   have hbw := HBW.out.trans (hbc.mono HBW.out.size)
   have HBX := hid hbx
   have HRS := hid hrs
   have HBW := hid hbw
   have H3 := hid h3
   obtain ⟨av, hav⟩ : ∃ av : Nat → Int, av = fun i => match i with | 0 => a0 | 1 => a1 | 2 => a2 | _ => a3 := ⟨_, rfl⟩
   have HE : Hid (∀ i, i < 4 → ∃ q : Nat, q < 4 ∧ c.raw i = ((1 + q : Nat) : Int) ∧ ∀ w : World, Calls Try.prog 11 #[.int .i64 (av i), .int .i64 4] w fun e w' => e = .returned (.int .i64 q) ∧ w' = w) := by
     intro i hi
     rw [HC.out, hav]
     match i, hi with
     | 0, _ => exact ⟨q0, d0, rfl, E0.out⟩
     | 1, _ => exact ⟨q1, d1, rfl, E1.out⟩
     | 2, _ => exact ⟨q2, d2, rfl, E2.out⟩
     | 3, _ => exact ⟨q3, d3, rfl, E3.out⟩
   have HAV : Hid (∀ i, i < 4 → (#[Value.int .i64 s0, .int .i64 s1, .int .i64 s2, .int .i64 s3, .int .i64 s4, .int .i64 s5, .int .i64 a0, .int .i64 a1, .int .i64 a2, .int .i64 a3] : Array Value)[6 + i]? = some (.int .i64 (av i))) := by
     intro i hi
     rw [hav]
     match i, hi with
     | 0, _ => rfl
     | 1, _ => rfl
     | 2, _ => rfl
     | 3, _ => rfl
   clear hbx hrs hbw h3 hbc hwc c0 c1 c2 c3 c4 c5 hav P0 P1 P2 P3 P4 P5 E0 E1 E2 E3 HV HC
   go_wp2
   go_loopw [4] (fun j wr => ∃ i : Nat, i ≤ 4 ∧ j = .int .i64 i ∧ wr.heap[w.heap.size]? = some (.cells #[.int .i64 s0, .int .i64 s1, .int .i64 s2, .int .i64 s3, .int .i64 s4, .int .i64 s5, .int .i64 a0, .int .i64 a1, .int .i64 a2, .int .i64 a3] 38 (0, 0)) ∧
       wr.heap[w.heap.size + 1]? = some (.cells #[.int .i64 0, .int .i64 0, .int .i64 0, .int .i64 0, .int .i64 0, .int .i64 0, .int .i64 0, .int .i64 0, .int .i64 0, .int .i64 0] 40 (0, 0)) ∧ wr.heap[w.heap.size + 2]? = some (.cells (cfgArr c i) 40 (0, 0)) ∧ Below w.heap.size w wr) (fun j _ => 4 - (intOf j).toNat)
   case atStart => exact ⟨0, by omega, rfl, HBX.out, HRS.out, H3.out, HBW.out⟩
   case round =>
     obtain ⟨i, hi, rfl, x1, x2, x3, x4⟩ := hrel
     have X1 := hid x1
     have X2 := hid x2
     have X3 := hid x3
     have X4 := hid x4
     by_cases hlt : i < 4
     · obtain ⟨q, hq, hraw, hpk⟩ := HE.out i hlt
       have HP := hid hpk
       have HR := hid hraw
       have ca : wr.cell? ⟨w.heap.size, 6 + i, none⟩ = some (.int .i64 (av i)) := (Lib.cell_of_heap x1 (6 + i)).trans (HAV.out i hlt)
       have cb : ∃ u, wr.cell? ⟨w.heap.size + 2, 1 + i, none⟩ = some u := by
         rw [Lib.cell_of_heap x3 (1 + i)]
         exact ⟨_, Array.getElem?_eq_getElem (by simp [cfgArr]; omega)⟩
       obtain ⟨u, cb⟩ := cb
       have cf := unfrozen x3 (1 + i)
       have hi0 : (0 : Int) ≤ (i : Int) := by omega
       have hi4 : (i : Int) < 4 := by omega
       clear x1 x2 x3 x4 hpk hraw
       go_wp2_with (go_at_call 11; refine (HP.out _).mono ?_; rintro e w2 ⟨rfl, hw2⟩; replace hw2 := hw2.symm; subst hw2)
       have hcs : Chg (fun k => k = w.heap.size + 2) wr (wr.setCell ⟨w.heap.size + 2, 1 + i, none⟩ (.int .i64 (1 + (q : Int)))) := Chg.setCell wr _ _ rfl
       refine ⟨⟨i + 1, by omega, by go_num, hcs.keeps X1.out (by omega), hcs.keeps X2.out (by omega), ?_, X4.out.setCell (p := ⟨w.heap.size + 2, 1 + i, none⟩) (by simp only; omega) _⟩, by simp [intOf]; omega⟩
       have e1 : (1 + (q : Int)) = c.raw i := by rw [HR.out]; omega
       rw [← cfgArr_step c hlt, e1]
       simp [World.setCell, Array.getElem?_modify, X3.out]
     · obtain rfl : i = 4 := by omega
       have e4 : cfgArr c 4 = cfgCells c := rfl
       rw [e4] at x3
       have y0 : wr.cell? ⟨w.heap.size + 2, 0, none⟩ = some (.int .i64 c.n) := Lib.cell_of_heap x3 0
       have y1 : wr.cell? ⟨w.heap.size + 2, 1, none⟩ = some (.int .i64 c.w0) := Lib.cell_of_heap x3 1
       have y2 : wr.cell? ⟨w.heap.size + 2, 2, none⟩ = some (.int .i64 c.w1) := Lib.cell_of_heap x3 2
       have y3 : wr.cell? ⟨w.heap.size + 2, 3, none⟩ = some (.int .i64 c.w2) := Lib.cell_of_heap x3 3
       have y4 : wr.cell? ⟨w.heap.size + 2, 4, none⟩ = some (.int .i64 c.w3) := Lib.cell_of_heap x3 4
       have y5 : wr.cell? ⟨w.heap.size + 2, 5, none⟩ = some (.int .i64 c.quantum) := Lib.cell_of_heap x3 5
       have y6 : wr.cell? ⟨w.heap.size + 2, 6, none⟩ = some (.int .i64 c.chunk) := Lib.cell_of_heap x3 6
       have y7 : wr.cell? ⟨w.heap.size + 2, 7, none⟩ = some (.int .i64 c.window) := Lib.cell_of_heap x3 7
       have y8 : wr.cell? ⟨w.heap.size + 2, 8, none⟩ = some (.int .i64 c.queue) := Lib.cell_of_heap x3 8
       have y9 : wr.cell? ⟨w.heap.size + 2, 9, none⟩ = some (.int .i64 c.patience) := Lib.cell_of_heap x3 9
       have z0 : wr.cell? ⟨w.heap.size + 1, 0, none⟩ = some (.int .i64 0) := Lib.cell_of_heap x2 0
       have z1 : wr.cell? ⟨w.heap.size + 1, 1, none⟩ = some (.int .i64 0) := Lib.cell_of_heap x2 1
       have z2 : wr.cell? ⟨w.heap.size + 1, 2, none⟩ = some (.int .i64 0) := Lib.cell_of_heap x2 2
       have z3 : wr.cell? ⟨w.heap.size + 1, 3, none⟩ = some (.int .i64 0) := Lib.cell_of_heap x2 3
       have z4 : wr.cell? ⟨w.heap.size + 1, 4, none⟩ = some (.int .i64 0) := Lib.cell_of_heap x2 4
       have z5 : wr.cell? ⟨w.heap.size + 1, 5, none⟩ = some (.int .i64 0) := Lib.cell_of_heap x2 5
       have z6 : wr.cell? ⟨w.heap.size + 1, 6, none⟩ = some (.int .i64 0) := Lib.cell_of_heap x2 6
       have z7 : wr.cell? ⟨w.heap.size + 1, 7, none⟩ = some (.int .i64 0) := Lib.cell_of_heap x2 7
       have z8 : wr.cell? ⟨w.heap.size + 1, 8, none⟩ = some (.int .i64 0) := Lib.cell_of_heap x2 8
       have z9 : wr.cell? ⟨w.heap.size + 1, 9, none⟩ = some (.int .i64 0) := Lib.cell_of_heap x2 9
       have zf := unfrozen x2
       clear x1 x2 x3 x4 X1 X3
       go_wp2
       obtain ⟨Wf, hWf⟩ : ∃ Wf, ((((((((((wr.setCell ⟨w.heap.size + 1, 0, none⟩ (.int .i64 c.n)).setCell ⟨w.heap.size + 1, 1, none⟩ (.int .i64 c.w0)).setCell ⟨w.heap.size + 1, 2, none⟩ (.int .i64 c.w1)).setCell ⟨w.heap.size + 1, 3, none⟩ (.int .i64 c.w2)).setCell ⟨w.heap.size + 1, 4, none⟩ (.int .i64 c.w3)).setCell ⟨w.heap.size + 1, 5, none⟩ (.int .i64 c.quantum)).setCell ⟨w.heap.size + 1, 6, none⟩ (.int .i64 c.chunk)).setCell ⟨w.heap.size + 1, 7, none⟩ (.int .i64 c.window)).setCell ⟨w.heap.size + 1, 8, none⟩ (.int .i64 c.queue)).setCell ⟨w.heap.size + 1, 9, none⟩ (.int .i64 c.patience)) = Wf := ⟨_, rfl⟩
       have hbf : Below w.heap.size w Wf := by rw [← hWf]; exact ((((((((((X4.out.setCell (p := ⟨w.heap.size + 1, 0, none⟩) (by simp only; omega) _).setCell (p := ⟨w.heap.size + 1, 1, none⟩) (by simp only; omega) _).setCell (p := ⟨w.heap.size + 1, 2, none⟩) (by simp only; omega) _).setCell (p := ⟨w.heap.size + 1, 3, none⟩) (by simp only; omega) _).setCell (p := ⟨w.heap.size + 1, 4, none⟩) (by simp only; omega) _).setCell (p := ⟨w.heap.size + 1, 5, none⟩) (by simp only; omega) _).setCell (p := ⟨w.heap.size + 1, 6, none⟩) (by simp only; omega) _).setCell (p := ⟨w.heap.size + 1, 7, none⟩) (by simp only; omega) _).setCell (p := ⟨w.heap.size + 1, 8, none⟩) (by simp only; omega) _).setCell (p := ⟨w.heap.size + 1, 9, none⟩) (by simp only; omega) _)
       have hf : Wf.heap[w.heap.size + 1]? = some (.cells (cfgCells c) 40 (0, 0)) := by
         rw [← hWf]
         simp [World.setCell, Array.getElem?_modify, X2.out, cfgCells]
       have f0 : Wf.cell? ⟨w.heap.size + 1, 0, none⟩ = some (.int .i64 c.n) := Lib.cell_of_heap hf 0
       have f1 : Wf.cell? ⟨w.heap.size + 1, 1, none⟩ = some (.int .i64 c.w0) := Lib.cell_of_heap hf 1
       have f2 : Wf.cell? ⟨w.heap.size + 1, 2, none⟩ = some (.int .i64 c.w1) := Lib.cell_of_heap hf 2
       have f3 : Wf.cell? ⟨w.heap.size + 1, 3, none⟩ = some (.int .i64 c.w2) := Lib.cell_of_heap hf 3
       have f4 : Wf.cell? ⟨w.heap.size + 1, 4, none⟩ = some (.int .i64 c.w3) := Lib.cell_of_heap hf 4
       have f5 : Wf.cell? ⟨w.heap.size + 1, 5, none⟩ = some (.int .i64 c.quantum) := Lib.cell_of_heap hf 5
       have f6 : Wf.cell? ⟨w.heap.size + 1, 6, none⟩ = some (.int .i64 c.chunk) := Lib.cell_of_heap hf 6
       have f7 : Wf.cell? ⟨w.heap.size + 1, 7, none⟩ = some (.int .i64 c.window) := Lib.cell_of_heap hf 7
       have f8 : Wf.cell? ⟨w.heap.size + 1, 8, none⟩ = some (.int .i64 c.queue) := Lib.cell_of_heap hf 8
       have f9 : Wf.cell? ⟨w.heap.size + 1, 9, none⟩ = some (.int .i64 c.patience) := Lib.cell_of_heap hf 9
       rw [hWf]
       refine ⟨rfl, .agg (cfgCells c), ?_, rfl, hbf⟩
       clear hWf hbf hf y0 y1 y2 y3 y4 y5 y6 y7 y8 y9 z0 z1 z2 z3 z4 z5 z6 z7 z8 z9 zf
       unfold cfgCells
       simp [results, Try.f13, go_sem, f0, f1, f2, f3, f4, f5, f6, f7, f8, f9]
/-- config -/
theorem config_calls (s0 s1 s2 s3 s4 s5 a0 a1 a2 a3 : Int) (h0 : In64 s0) (h1 : In64 s1) (h2 : In64 s2) (h3 : In64 s3) (h4 : In64 s4) (h5 : In64 s5) (g0 : In64 a0) (g1 : In64 a1) (g2 : In64 a2) (g3 : In64 a3) :
    ∃ c : Cfg, c.Ok ∧ (∀ i, i < 4 → 1 ≤ c.weight i ∧ c.weight i ≤ 4 ∧ c.raw i = (c.weight i : Nat)) ∧ ∀ w : World, Calls Try.prog 13 #[.agg #[.int .i64 s0, .int .i64 s1, .int .i64 s2, .int .i64 s3, .int .i64 s4, .int .i64 s5, .int .i64 a0, .int .i64 a1, .int .i64 a2, .int .i64 a3]] w fun e w' =>
      e = .returned (.agg (cfgCells c)) ∧ Below w.heap.size w w' := by
  obtain ⟨k0, b0, p0⟩ := pick_nat s0 4 h0.1 h0.2 (by omega) (by omega)
  obtain ⟨k1, b1, p1⟩ := pick_nat s1 8 h1.1 h1.2 (by omega) (by omega)
  obtain ⟨k2, b2, p2⟩ := pick_nat s2 8 h2.1 h2.2 (by omega) (by omega)
  obtain ⟨k3, b3, p3⟩ := pick_nat s3 243 h3.1 h3.2 (by omega) (by omega)
  obtain ⟨k4, b4, p4⟩ := pick_nat s4 600 h4.1 h4.2 (by omega) (by omega)
  obtain ⟨k5, b5, p5⟩ := pick_nat s5 9 h5.1 h5.2 (by omega) (by omega)
  obtain ⟨q0, d0, e0⟩ := pick_nat a0 4 g0.1 g0.2 (by omega) (by omega)
  obtain ⟨q1, d1, e1⟩ := pick_nat a1 4 g1.1 g1.2 (by omega) (by omega)
  obtain ⟨q2, d2, e2⟩ := pick_nat a2 4 g2.1 g2.2 (by omega) (by omega)
  obtain ⟨q3, d3, e3⟩ := pick_nat a3 4 g3.1 g3.2 (by omega) (by omega)
  obtain ⟨c, hc⟩ : ∃ c : Cfg, c = ⟨1 + k0, ((1 + q0 : Nat) : Int), ((1 + q1 : Nat) : Int), ((1 + q2 : Nat) : Int), ((1 + q3 : Nat) : Int), 1 + k1, 1 + k2, 8 + k3, 1 + k4, 1 + k5⟩ := ⟨_, rfl⟩
  have hw : ∀ i, i < 4 → 1 ≤ c.weight i ∧ c.weight i ≤ 4 ∧ c.raw i = (c.weight i : Nat) := by
    intro i hi
    rw [hc]
    match i, hi with
    | 0, _ => exact ⟨by simp [Cfg.weight]; omega, by simp [Cfg.weight]; omega, by simp [Cfg.weight, Cfg.raw]; omega⟩
    | 1, _ => exact ⟨by simp [Cfg.weight]; omega, by simp [Cfg.weight]; omega, by simp [Cfg.weight, Cfg.raw]; omega⟩
    | 2, _ => exact ⟨by simp [Cfg.weight]; omega, by simp [Cfg.weight]; omega, by simp [Cfg.weight, Cfg.raw]; omega⟩
    | 3, _ => exact ⟨by simp [Cfg.weight]; omega, by simp [Cfg.weight]; omega, by simp [Cfg.weight, Cfg.raw]; omega⟩
  refine ⟨c, ?_, hw, fun w => config_walk s0 s1 s2 s3 s4 s5 a0 a1 a2 a3 k0 k1 k2 k3 k4 k5 q0 q1 q2 q3 b0 b1 b2 b3 b4 b5 d0 d1 d2 d3 p0 p1 p2 p3 p4 p5 e0 e1 e2 e3 w c hc⟩
  have h4n : c.n ≤ 4 := by rw [hc]; simp only; omega
  refine ⟨by rw [hc]; simp only; omega, h4n, fun i hi => ⟨(hw i (by omega)).1, (hw i (by omega)).2.1⟩, ?_, ?_, ?_, ?_, ?_, ?_, ?_, ?_, ?_, ?_⟩ <;> (rw [hc]; simp only; omega)
end Go.Proofs.Ytpdobhoebjoijaa
