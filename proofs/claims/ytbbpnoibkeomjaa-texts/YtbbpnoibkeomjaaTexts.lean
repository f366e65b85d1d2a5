/-
  The statement Texts holds for every script: every Pack, Unpack and Header answers as the document does, and lists that went in or came out stay their owners'; the script reads as it did.
-/
import Derived.Test.YtbbpnoibkeomjaaRows
import Derived.Test.YtbbpnoibkeomjaaPlay
import Derived.WalkKit
import Derived.WalkSpells
import Derived.ProofKit
import Derived.OpenShut
import Derived.ShutString
import Derived.ChangeOld
import Derived.Below
import Derived.SliceStrings
import Derived.SizedLaws
import Derived.Deep.Slices
namespace Go.Proofs.Ytbbpnoibkeomjaa
open Go.RowKit
theorem hd_105 : hdS 1 0 5 = ⟨#[1, 0, 5, 112]⟩ ∧ hdE 1 0 5 = 0 := by
  have h1 : (isB 1 && isB 0 && isB 5) = true := by decide
  have h2 : Skein.crc3 1 0 5 = 112 := by decide
  refine ⟨?_, ?_⟩
  · unfold hdS
    rw [if_pos h1]
    show hdr 1 0 5 = _
    unfold hdr
    rw [h2]
    rfl
  · unfold hdE
    rw [if_pos h1]
theorem kept_new (w : World) : Kept (w.alloc (.cells #[.slice none 0 0, .slice none 0 0, .slice none 0 0, .slice none 0 0] 29)) w.heap.size w.heap.size (.slice none 0 0) (.slice none 0 0) (.slice none 0 0) (.slice none 0 0) [] [] :=
  ⟨Nat.le_refl _, heap_alloc_new w _, World.ownsRow_nil _ _ _ _, World.ownsRow_nil _ _ _ _, by simp⟩
theorem OpAt.below {w w' : World} {B b o : Nat} (h : OpAt w B b o) (hb : Below B w w') (hB : b < B) : OpAt w' B b o := by
  obtain ⟨k, A, B', D, W, s, a', n', cap', c0, c1, c2, c3, c4, c5, c6, c7, c8, c9, ss, hcells, hst, hn', hs'⟩ := h
  have cc : ∀ j, w'.cell? ⟨b, j, none⟩ = w.cell? ⟨b, j, none⟩ := fun j => hb.cell (p := ⟨b, j, none⟩) hB
  refine ⟨k, A, B', D, W, s, a', n', cap', c0, c1, c2, c3, c4, c5, c6, c7, c8, c9, ss, ?_, ?_, hn', hs'⟩
  · simp only [cc]
    exact hcells
  · obtain ⟨h1, h2, h3, h4⟩ := hst
    refine ⟨h1, h2, h3, fun hn => ?_⟩
    obtain ⟨b2, off, e, hlt, hc⟩ := h4 hn
    exact ⟨b2, off, e, hlt, fun j hj => by rw [hb.cell (p := ⟨b2, off + j, none⟩) hlt]; exact hc j hj⟩
theorem ScriptAt.below {w w' : World} {B : Nat} {a : Option Addr} {n : Nat} (h : ScriptAt w B a n) (hb : Below B w w') : ScriptAt w' B a n := by
  obtain ⟨h1, h2⟩ := h
  refine ⟨h1, fun hn => ?_⟩
  obtain ⟨b, off, e, hlt, hc⟩ := h2 hn
  exact ⟨b, off, e, hlt, fun i hi => (hc i hi).below hb hlt⟩
set_option maxHeartbeats 2000000 in
set_option maxRecDepth 100000 in
theorem texts_walk (a : Option Addr) (n cap : Nat) (w : World) (hsc : ScriptAt w w.heap.size a n) :
    Calls Try.prog 3 #[.slice a n cap] w fun e w' => e = .returned (.bool true) ∧ Below w.heap.size w w' := by
  have HSC : Hid (ScriptAt w w.heap.size a n) := hsc
  clear hsc
  have hx : ((⟨#[1, 0, 5, 112]⟩ : ByteArray).toList == [1, 0, 5, 112]) = true := by rw [ByteArray.toList_eq]; decide
  go_enter Try.func3, Try.ntmps3
  go_wp2_with fail
  have hk1 := kept_new w
  have hb1 := below_alloc w (.cells #[.slice none 0 0, .slice none 0 0, .slice none 0 0, .slice none 0 0] 29)
  generalize w.alloc (.cells #[.slice none 0 0, .slice none 0 0, .slice none 0 0, .slice none 0 0] 29) = w1 at *
  have HK1 : Hid (Kept w1 w.heap.size w.heap.size (.slice none 0 0) (.slice none 0 0) (.slice none 0 0) (.slice none 0 0) [] []) := hk1
  have hs1 := hb1.size
  clear hk1
  refine (header_calls 1 0 5 w1).mono ?_
  rintro e w2 ⟨rfl, hb2⟩
  rw [hd_105.1, hd_105.2]
  have hb12 : Below w.heap.size w w2 := hb1.trans (hb2.mono hs1)
  go_wp2_with fail
  refine (play_low w.heap.size w.heap.size (.slice none 0 0) (.slice none 0 0) (.slice none 0 0) w2 a n cap (HK1.out.below hb2) (HSC.out.below hb12)).mono ?_
  rintro e w3 ⟨rfl, hb3⟩
  have hb13 : Below w.heap.size w w3 := hb12.trans hb3
  go_wp2_with fail
  go_ret
  exact ⟨rfl, hb13⟩
open Go.ChangeShapes Go.WideShapes Go.ChangeAt
set_option linter.unusedVariables false
theorem head_of {l : List Value} {o m : Nat} {v : Value} (h : (l.drop o).take m = [v]) : l[o]? = some v := by
  have h1 : ((l.drop o).take m)[0]? = some v := by rw [h]; rfl
  rw [List.getElem?_take] at h1
  split at h1
  · rw [List.getElem?_drop] at h1
    simpa using h1
  · cases h1
theorem head_in {l : List Value} {o m j : Nat} {v : Value} (h : ((l.drop o).take m)[j]? = some v) : l[o + j]? = some v := by
  rw [List.getElem?_take] at h
  split at h
  · rw [List.getElem?_drop] at h
    exact h
  · cases h
theorem slice_shape {H : Type} {enc : TypeId × Value → H} {w : World} {spare : Nat → Bool} {held : Bool} {t e : TypeId} {fuel : Nat} {cs : List Value} {y : DataW H × List MemPlace} (ht : Try.prog.underlying t = some (.slice e)) (hf : DataW.trod enc Try.prog w 0 spare held fuel t cs = some y) : ∃ a l c, cs = [.slice a l c] := by
  rcases DataW.trod_slice ht hf with ⟨h, _⟩ | ⟨a, len, cap, elems, rest, n, _, h, _⟩
  · exact ⟨_, _, _, h⟩
  · exact ⟨_, _, _, h⟩
section
variable {H : Type} {enc : TypeId × Value → H} {w : World} {spare : Nat → Bool} {held : Bool}
/-- the strings of a slice, out of its reading -/
theorem strs_trod {fuel : Nat} {a0 : Option Addr} {len cap : Nat} {y : DataW H × List MemPlace} (hf : DataW.trod enc Try.prog w 0 (fun _ => true) held fuel 27 [.slice a0 len cap] = some y)
    (hz : ∀ n ∈ y.1.weights Try.prog 27, n ≤ reachBytes) : ∃ ss, StrsLow w w.heap.size a0 len ss ∧ len ≤ 8796093022208 := by
  rcases open_strings Try.underlying27 Try.underlying9 (by kernel_rfl) hf with ⟨hcs, _⟩ | ⟨x, l, c, ss, hcs, _, hl, hm, hzl, hy, hcell, hws⟩
  · simp at hcs
    obtain ⟨rfl, rfl, rfl⟩ := hcs
    exact ⟨[], ⟨rfl, by unfold maxLen; omega, by simp, fun h => by omega⟩, by omega⟩
  · simp at hcs
    obtain ⟨rfl, rfl, rfl⟩ := hcs
    simp at hzl
    have hb : Try.prog.bytesOf 9 = 16 := by kernel_rfl
    have hz1 := hz (((strs (H := H) (ss.take len)).length + (strs (H := H) (ss.drop len)).length) * Try.prog.bytesOf 9) (by rw [hy]; simp [DataW.weights, Try.underlying27])
    rw [hb] at hz1
    simp [strs, reachBytes] at hz1
    refine ⟨ss.take len, ⟨by rw [List.length_take]; omega, by omega, fun s hs => hws s (List.mem_of_mem_take hs), fun hn => ?_⟩, by omega⟩
    have h0 := hcell 0 (by omega)
    obtain ⟨b, off, spot⟩ := x
    have hspot : spot = none := by simpa [Addr.add] using World.cell?_spot h0
    subst hspot
    refine ⟨b, off, rfl, ?_, fun j hj => ?_⟩
    · exact World.block_lt_of_cell? w ⟨b, off, none⟩ (by simpa [Addr.add] using h0)
    · have hj1 := hcell j (by omega)
      have e : (ss.take len).getD j ByteArray.empty = ss.getD j ByteArray.empty := by
        rw [List.getD_eq_getElem?_getD, List.getD_eq_getElem?_getD, List.getElem?_take_of_lt hj]
      have ea : (⟨b, off, none⟩ : Addr).add j = ⟨b, off + j, none⟩ := by unfold Addr.add; split <;> simp_all
      rw [e, ← ea]
      exact hj1
/-- a configuration's numbers -/
theorem config_trod {fuel : Nat} {cs : List Value} {y : DataW H × List MemPlace} (ht : DataW.trod enc Try.prog w 0 spare held fuel 47 cs = some y) :
    ∃ c0 c1 c2 c3 c4 c5 c6 c7 c8 c9 : Int, cs[0]? = some (.int .i64 c0) ∧ cs[1]? = some (.int .i64 c1) ∧ cs[2]? = some (.int .i64 c2) ∧ cs[3]? = some (.int .i64 c3) ∧ cs[4]? = some (.int .i64 c4) ∧
      cs[5]? = some (.int .i64 c5) ∧ cs[6]? = some (.int .i64 c6) ∧ cs[7]? = some (.int .i64 c7) ∧ cs[8]? = some (.int .i64 c8) ∧ cs[9]? = some (.int .i64 c9) := by
  obtain ⟨xs, n, _, _, hlen, hxl, hf⟩ := DataW.trod_struct Try.underlying47 ht
  have hsome : ∀ i, i < 7 → ∃ z, xs[i]? = some z := fun i hi => ⟨xs[i]'(by rw [hxl]; exact hi), List.getElem?_eq_getElem _⟩
  obtain ⟨z0, e0⟩ := hsome 0 (by omega)
  have h0 := hf 0 _ rfl
  rw [e0] at h0
  obtain ⟨c0, g0, _⟩ := DataW.trod_int Try.underlying3 h0
  have k0 : cs[0]? = some (.int .i64 c0) := head_of g0
  obtain ⟨z2, e2⟩ := hsome 2 (by omega)
  have h2 := hf 2 _ rfl
  rw [e2] at h2
  obtain ⟨c5, g2, _⟩ := DataW.trod_int Try.underlying3 h2
  have k5 : cs[5]? = some (.int .i64 c5) := head_of g2
  obtain ⟨z3, e3⟩ := hsome 3 (by omega)
  have h3 := hf 3 _ rfl
  rw [e3] at h3
  obtain ⟨c6, g3, _⟩ := DataW.trod_int Try.underlying3 h3
  have k6 : cs[6]? = some (.int .i64 c6) := head_of g3
  obtain ⟨z4, e4⟩ := hsome 4 (by omega)
  have h4 := hf 4 _ rfl
  rw [e4] at h4
  obtain ⟨c7, g4, _⟩ := DataW.trod_int Try.underlying3 h4
  have k7 : cs[7]? = some (.int .i64 c7) := head_of g4
  obtain ⟨z5, e5⟩ := hsome 5 (by omega)
  have h5 := hf 5 _ rfl
  rw [e5] at h5
  obtain ⟨c8, g5, _⟩ := DataW.trod_int Try.underlying3 h5
  have k8 : cs[8]? = some (.int .i64 c8) := head_of g5
  obtain ⟨z6, e6⟩ := hsome 6 (by omega)
  have h6 := hf 6 _ rfl
  rw [e6] at h6
  obtain ⟨c9, g6, _⟩ := DataW.trod_int Try.underlying3 h6
  have k9 : cs[9]? = some (.int .i64 c9) := head_of g6
  obtain ⟨z1, e1⟩ := hsome 1 (by omega)
  have h1 := hf 1 _ rfl
  rw [e1] at h1
  obtain ⟨ys, m, _, _, _, hyl, hg⟩ := DataW.trod_array Try.underlying45 h1
  have hsome2 : ∀ i, i < 4 → ∃ z, ys[i]? = some z := fun i hi => ⟨ys[i]'(by rw [hyl]; exact hi), List.getElem?_eq_getElem _⟩
  obtain ⟨v0, u0⟩ := hsome2 0 (by omega)
  have q0 := hg 0 (by omega)
  rw [u0] at q0
  obtain ⟨c1, r0, _⟩ := DataW.trod_int Try.underlying3 q0
  have k1 : cs[1 + 0]? = some (.int .i64 c1) := by
    have hh := head_of r0
    have hc3 : 0 * Try.prog.cellsOf 3 = 0 := by kernel_rfl
    generalize 0 * Try.prog.cellsOf 3 = jj at hh hc3
    subst hc3
    exact head_in hh
  obtain ⟨v1, u1⟩ := hsome2 1 (by omega)
  have q1 := hg 1 (by omega)
  rw [u1] at q1
  obtain ⟨c2, r1, _⟩ := DataW.trod_int Try.underlying3 q1
  have k2 : cs[1 + 1]? = some (.int .i64 c2) := by
    have hh := head_of r1
    have hc3 : 1 * Try.prog.cellsOf 3 = 1 := by kernel_rfl
    generalize 1 * Try.prog.cellsOf 3 = jj at hh hc3
    subst hc3
    exact head_in hh
  obtain ⟨v2, u2⟩ := hsome2 2 (by omega)
  have q2 := hg 2 (by omega)
  rw [u2] at q2
  obtain ⟨c3, r2, _⟩ := DataW.trod_int Try.underlying3 q2
  have k3 : cs[1 + 2]? = some (.int .i64 c3) := by
    have hh := head_of r2
    have hc3 : 2 * Try.prog.cellsOf 3 = 2 := by kernel_rfl
    generalize 2 * Try.prog.cellsOf 3 = jj at hh hc3
    subst hc3
    exact head_in hh
  obtain ⟨v3, u3⟩ := hsome2 3 (by omega)
  have q3 := hg 3 (by omega)
  rw [u3] at q3
  obtain ⟨c4, r3, _⟩ := DataW.trod_int Try.underlying3 q3
  have k4 : cs[1 + 3]? = some (.int .i64 c4) := by
    have hh := head_of r3
    have hc3 : 3 * Try.prog.cellsOf 3 = 3 := by kernel_rfl
    generalize 3 * Try.prog.cellsOf 3 = jj at hh hc3
    subst hc3
    exact head_in hh
  exact ⟨c0, c1, c2, c3, c4, c5, c6, c7, c8, c9, k0, k1, k2, k3, k4, k5, k6, k7, k8, k9⟩
/-- a step of a script, out of its reading -/
theorem op_trod {fuel b o : Nat} {cs : List Value} {y : DataW H × List MemPlace} (hc : w.cells? 0 ⟨b, o, none⟩ 17 = some cs) (ht : DataW.trod enc Try.prog w 0 (fun _ => true) held fuel 62 cs = some y)
    (hz : ∀ n ∈ y.1.weights Try.prog 62, n ≤ reachBytes) : OpAt w w.heap.size b o := by
  obtain ⟨_, hcl, hce⟩ := World.cells?_some hc
  have key : ∀ j v, j < 17 → cs[j]? = some v → w.cell? ⟨b, o + j, none⟩ = some v := by
    intro j v hj hv
    have h := hce j hj
    have ea : (⟨b, o, none⟩ : Addr).add j = ⟨b, o + j, none⟩ := by unfold Addr.add; split <;> simp_all
    rw [ea, hv] at h
    exact h
  obtain ⟨xs, n, _, hy, hlen, hxl, hf⟩ := DataW.trod_struct Try.underlying62 ht
  have hsome : ∀ i, i < 8 → ∃ z, xs[i]? = some z := fun i hi => ⟨xs[i]'(by rw [hxl]; exact hi), List.getElem?_eq_getElem _⟩
  obtain ⟨z0, e0⟩ := hsome 0 (by omega)
  have h0 := hf 0 _ rfl
  rw [e0] at h0
  obtain ⟨d0, g0, _⟩ := DataW.trod_int Try.underlying3 h0
  have k0 := key 0 _ (by omega) (head_of g0)
  obtain ⟨z1, e1⟩ := hsome 1 (by omega)
  have h1 := hf 1 _ rfl
  rw [e1] at h1
  obtain ⟨d1, g1, _⟩ := DataW.trod_int Try.underlying3 h1
  have k1 := key 1 _ (by omega) (head_of g1)
  obtain ⟨z2, e2⟩ := hsome 2 (by omega)
  have h2 := hf 2 _ rfl
  rw [e2] at h2
  obtain ⟨d2, g2, _⟩ := DataW.trod_int Try.underlying3 h2
  have k2 := key 2 _ (by omega) (head_of g2)
  obtain ⟨z3, e3⟩ := hsome 3 (by omega)
  have h3 := hf 3 _ rfl
  rw [e3] at h3
  obtain ⟨d3, g3, _⟩ := DataW.trod_int Try.underlying3 h3
  have k3 := key 3 _ (by omega) (head_of g3)
  obtain ⟨z4, e4⟩ := hsome 4 (by omega)
  have h4 := hf 4 _ rfl
  rw [e4] at h4
  obtain ⟨d4, g4, _⟩ := DataW.trod_int Try.underlying3 h4
  have k4 := key 4 _ (by omega) (head_of g4)
  obtain ⟨z5, e5⟩ := hsome 5 (by omega)
  have h5 := hf 5 _ rfl
  rw [e5] at h5
  obtain ⟨st, g5, hz5, _⟩ := DataW.trod_string Try.underlying9 h5
  have k5 := key 5 _ (by omega) (head_of g5)
  obtain ⟨z6, e6⟩ := hsome 6 (by omega)
  have h6 := hf 6 _ rfl
  rw [e6] at h6
  obtain ⟨a, l, c, g6⟩ := slice_shape Try.underlying27 h6
  have k6 := key 6 _ (by omega) (head_of g6)
  obtain ⟨z7, e7⟩ := hsome 7 (by omega)
  have h7 := hf 7 _ rfl
  rw [e7] at h7
  obtain ⟨c0, c1, c2, c3, c4, c5, c6, c7, c8, c9, q0, q1, q2, q3, q4, q5, q6, q7, q8, q9⟩ := config_trod h7
  have hmem : ∀ (j : Nat) (t : TypeId) (z : DataW H × List MemPlace), [3, 3, 3, 3, 3, 9, 27, 47][j]? = some t → xs[j]? = some z → ∀ m ∈ z.1.weights Try.prog t, m ≤ reachBytes := by
    intro j t z htj hzj m hm
    refine hz m ?_
    rw [hy]
    simp only [DataW.weights, Try.underlying62]
    exact DataW.weights_mem_each (ts := [3, 3, 3, 3, 3, 9, 27, 47]) htj (by rw [List.getElem?_map, hzj]; rfl) m hm
  rw [g6] at h6
  obtain ⟨ss, hss, hn⟩ := strs_trod h6 (hmem 6 27 z6 rfl e6)
  have hs5 : st.size ≤ reachBytes := by
    have := hmem 5 9 z5 rfl e5 st.data.toList.length (by rw [hz5]; simp [DataW.weights])
    rw [Array.length_toList] at this
    exact this
  unfold reachBytes at hs5
  exact ⟨d0, d1, d2, d3, d4, st, a, l, c, c0, c1, c2, c3, c4, c5, c6, c7, c8, c9, ss,
    ⟨k0, k1, k2, k3, k4, k5, k6, key 7 _ (by omega) (head_in q0), key 8 _ (by omega) (head_in q1), key 9 _ (by omega) (head_in q2), key 10 _ (by omega) (head_in q3), key 11 _ (by omega) (head_in q4), key 12 _ (by omega) (head_in q5), key 13 _ (by omega) (head_in q6), key 14 _ (by omega) (head_in q7), key 15 _ (by omega) (head_in q8), key 16 _ (by omega) (head_in q9)⟩, hss, hn, by omega⟩
end

theorem weightsAll_mem {H : Type} {P : Program} {e : TypeId} {d : DataW H} {ds : List (DataW H)} {q : Nat} (h : d ∈ ds) (hq : q ∈ d.weights P e) : q ∈ DataW.weightsAll P e ds := by
  induction ds with
  | nil => cases h
  | cons x r ih =>
    simp only [DataW.weightsAll, List.mem_append]
    rcases List.mem_cons.1 h with rfl | h
    · exact .inl hq
    · exact .inr (ih h)
theorem texts_own : ownKnob Try.prog.godebug = none := by kernel_rfl
theorem texts_laidOut : laidOutB Try.prog = true := by kernel_rfl
theorem cells49 : Try.prog.cellsOf 62 = 17 := by kernel_rfl
theorem bytes49 : Try.prog.bytesOf 62 = 160 := by kernel_rfl
/-- a script, out of its reading -/
theorem script_trod {H : Type} {enc : TypeId × Value → H} {w : World} {a0 : Option Addr} {len cap : Nat} {d : DataW H} {p : List MemPlace}
    (h : DataW.Trod enc Try.prog w 0 (fun _ => true) true 22 (.slice a0 len cap) d p) (hz : ∀ n ∈ d.weights Try.prog 22, n ≤ reachBytes) : ScriptAt w w.heap.size a0 len := by
  obtain ⟨fuel, hf⟩ := h
  rcases Deep.open_slice Try.underlying22 hf with ⟨hcs, _⟩ | ⟨x, l, c, m, n, D, Pl, hcs, _, hl, hm, hme, hx, hel⟩
  · simp [Value.cells] at hcs
    obtain ⟨rfl, rfl, rfl⟩ := hcs
    exact ⟨by omega, fun h => by omega⟩
  · simp [Value.cells] at hcs
    obtain ⟨rfl, rfl, rfl⟩ := hcs
    simp at hme
    subst hme
    simp only [Prod.mk.injEq] at hx
    obtain ⟨rfl, _⟩ := hx
    have hw1 := hz ((((List.range len).map D).length + ((List.range (m - len)).map fun j => D (len + j)).length) * Try.prog.bytesOf 62) (by simp [DataW.weights, Try.underlying22])
    rw [bytes49] at hw1
    simp [reachBytes] at hw1
    have hwi : ∀ i, i < len → ∀ q ∈ (D i).weights Try.prog 62, q ≤ reachBytes := by
      intro i hi q hq
      refine hz q ?_
      simp only [DataW.weights, Try.underlying22]
      refine List.mem_cons_of_mem _ (List.mem_append_left _ ?_)
      exact weightsAll_mem (List.mem_map.2 ⟨i, List.mem_range.2 hi, rfl⟩) hq
    refine ⟨by omega, fun hn => ?_⟩
    have h17 := cells49
    generalize Try.prog.cellsOf 62 = kk at hel h17
    subst h17
    obtain ⟨cs0, hc0, _⟩ := hel 0 (by omega)
    have hc00 := (World.cells?_some hc0).2.2 0 (by omega)
    have hl0 := (World.cells?_some hc0).2.1
    obtain ⟨b, off, spot⟩ := x
    have hspot : spot = none := by
      have : ∃ v, w.cell? (Addr.add (Addr.add ⟨b, off, spot⟩ (0 * 17)) 0) = some v := ⟨_, hc00.trans (List.getElem?_eq_getElem (by omega))⟩
      obtain ⟨v, hv⟩ := this
      simpa [Addr.add] using World.cell?_spot hv
    subst hspot
    have hblt : b < w.heap.size := by
      have : ∃ v, w.cell? (Addr.add (Addr.add ⟨b, off, none⟩ (0 * 17)) 0) = some v := ⟨_, hc00.trans (List.getElem?_eq_getElem (by omega))⟩
      obtain ⟨v, hv⟩ := this
      exact World.block_lt_of_cell? w ⟨b, off, none⟩ (by simpa [Addr.add] using hv)
    refine ⟨b, off, rfl, hblt, fun i hi => ?_⟩
    obtain ⟨cs, hc, ht⟩ := hel i (by omega)
    have ea : (⟨b, off, none⟩ : Addr).add (i * 17) = ⟨b, off + i * 17, none⟩ := by unfold Addr.add; split <;> simp_all
    rw [ea] at hc
    exact op_trod hc ht (hwi i hi)

set_option maxRecDepth 100000 in
theorem texts_lifted (os : Os) (started : os.Started) (H : Type) (enc : TypeId × Value → H) :
    ReturnsInHanded {} Try.checked os 3 .any (Rows.textsSpec.pre6 enc Try.prog Try.f3 Rows.textsRow.domain false) (Rows.textsSpec.post enc Try.prog Try.f3 false true false false) := by
  refine returnsInHanded_of_change_sized (C := Try.checked) texts_own started (by kernel_rfl) Try.func3
    (ChangeSpec.witness6 (enc := enc) (C := Try.checked) false ⟨#[], #[.slice none 0 0], []⟩ 8 (by kernel_rfl) (by kernel_rfl) (by kernel_rfl) (by kernel_rfl)) ?_
  intro W base args ds gs before hval0 hW hcnd hsz0 _
  have hval : ∀ (j : Nat) t v, Try.f3.params[j]? = some t → args[j]? = some v → Value.okWide Try.prog W .any base t v := hval0
  have hsz : (DataW.weightsEach Try.prog (Try.f3.params.toList ++ Rows.textsSpec.plain.varTypes Try.prog) (ds ++ gs)).all (· ≤ reachBytes) = true := hsz0
  have hW' := hW
  obtain ⟨p, q, hA0, hV, rfl, hfz, hnd⟩ := hW
  have hA : DataW.TrodAll enc Try.prog W 0 (fun _ => true) true Try.f3.params.toList args.toList ds p := hA0
  rw [Try.params3] at hA hval hsz
  obtain ⟨v0, vs0, d0, ds0, p0, q0, hargs, rfl, rfl, h0, r0⟩ := trodAll_cons hA
  obtain ⟨rfl, rfl, rfl⟩ := trodAll_nil r0
  obtain rfl : args = #[v0] := by cases args; simp_all
  obtain ⟨rfl, rfl⟩ := trodVars_none hV
  obtain ⟨a0, len0, cap0, rfl⟩ := okWide_slice Try.underlying22 (hval 0 22 v0 rfl rfl)
  have k0 := h0
  have lt0 : ∀ x ∈ p0, x.block < W.heap.size := by obtain ⟨m, hm⟩ := k0; exact DataW.trod_lt m _ _ _ hm
  have hwz : ∀ n ∈ d0.weights Try.prog 22, n ≤ reachBytes := by
    intro n hn
    have := List.all_eq_true.1 hsz n (DataW.weights_mem_each (j := 0) rfl rfl n hn)
    simpa using this
  have hsc := script_trod h0 hwz
  clear hA0 hval0
  refine (texts_walk a0 len0 cap0 W hsc).mono fun e W' ⟨he, bel⟩ => ?_
  subst he
  exact ⟨_, rfl, _, _, _, [], _, [], hW', trodAll_mk1 (shut_bool Try.underlying4 _), (trodAll_cons_mk (Below.trod texts_laidOut (by kernel_rfl) (of_decide_eq_true (by kernel_rfl)) k0 bel lt0) trodAll_mk0), rfl, bel.frame _, fun h => by cases h⟩

theorem texts_over : Rows.textsRow.holds Try.pinned (OpenSpec.ofChange Rows.textsSpec) :=
  OpenClaim.holds_of_wide 3 Try.f3 rfl rfl rfl rfl rfl rfl rfl ⟨rfl, rfl, rfl, rfl, rfl⟩ rfl rfl rfl rfl rfl (by kernel_rfl) Try.func3 (by kernel_rfl)
    (of_decide_eq_true (by kernel_rfl)) (by unfold Func.isWrapper; first | (rw [if_pos (by decide +kernel)]; kernel_rfl) | (rw [if_neg (by decide +kernel)]; exact ⟨rfl, rfl⟩))
    (fun os started H enc _ => texts_lifted os started H enc)

/-- the statement -/
theorem texts_holds : Rows.TextsSaid := texts_over
#print axioms texts_holds
end Go.Proofs.Ytbbpnoibkeomjaa
