/-
  The statement Sends holds for every configuration and every script: what is packed, unpacked, sent, and told of an end is byte by byte what the document asks. Its condition: none but the model's own reach.
-/
import Derived.Test.YtnclmbolfpojoaaRows
import Derived.Test.YtnclmbolfpojoaaSPlay
import Derived.WalkKit
import Derived.WalkSpells
import Derived.ProofKit
import Derived.OpenShut
import Derived.ShutString
import Derived.ChangeOld
import Derived.Below
import Derived.SliceStrings
import Derived.SizedLaws
import Derived.Deep.Slices
namespace Go.Proofs.Ytnclmbolfpojoaa
open Go.RowKit
open Go.ChangeShapes Go.WideShapes Go.ChangeAt
set_option linter.unusedVariables false
theorem head_of {l : List Value} {o m : Nat} {v : Value} (h : (l.drop o).take m = [v]) : l[o]? = some v := by
  have h1 : ((l.drop o).take m)[0]? = some v := by rw [h]; rfl
  rw [List.getElem?_take] at h1
  split at h1
  · rw [List.getElem?_drop] at h1
    simpa using h1
  · cases h1
theorem head_in {l : List Value} {o m j : Nat} {v : Value} (h : ((l.drop o).take m)[j]? = some v) : l[o + j]? = some v := by
  rw [List.getElem?_take] at h
  split at h
  · rw [List.getElem?_drop] at h
    exact h
  · cases h
theorem slice_shape {H : Type} {enc : TypeId × Value → H} {w : World} {spare : Nat → Bool} {held : Bool} {t e : TypeId} {fuel : Nat} {cs : List Value} {y : DataW H × List MemPlace} (ht : Try.prog.underlying t = some (.slice e)) (hf : DataW.trod enc Try.prog w 0 spare held fuel t cs = some y) : ∃ a l c, cs = [.slice a l c] := by
  rcases DataW.trod_slice ht hf with ⟨h, _⟩ | ⟨a, len, cap, elems, rest, n, _, h, _⟩
  · exact ⟨_, _, _, h⟩
  · exact ⟨_, _, _, h⟩
section
variable {H : Type} {enc : TypeId × Value → H} {w : World} {spare : Nat → Bool} {held : Bool}
/-- the strings of a slice, out of its reading -/
theorem strs_trod {fuel : Nat} {a0 : Option Addr} {len cap : Nat} {y : DataW H × List MemPlace} (hf : DataW.trod enc Try.prog w 0 (fun _ => true) held fuel 27 [.slice a0 len cap] = some y)
    (hz : ∀ n ∈ y.1.weights Try.prog 27, n ≤ reachBytes) : ∃ ss, StrsLow w w.heap.size a0 len ss ∧ len ≤ 8796093022208 := by
  rcases open_strings Try.underlying27 Try.underlying9 (by kernel_rfl) hf with ⟨hcs, _⟩ | ⟨x, l, c, ss, hcs, _, hl, hm, hzl, hy, hcell, hws⟩
  · simp at hcs
    obtain ⟨rfl, rfl, rfl⟩ := hcs
    exact ⟨[], ⟨rfl, by unfold maxLen; omega, by simp, fun h => by omega⟩, by omega⟩
  · simp at hcs
    obtain ⟨rfl, rfl, rfl⟩ := hcs
    simp at hzl
    have hb : Try.prog.bytesOf 9 = 16 := by kernel_rfl
    have hz1 := hz (((strs (H := H) (ss.take len)).length + (strs (H := H) (ss.drop len)).length) * Try.prog.bytesOf 9) (by rw [hy]; simp [DataW.weights, Try.underlying27])
    rw [hb] at hz1
    simp [strs, reachBytes] at hz1
    refine ⟨ss.take len, ⟨by rw [List.length_take]; omega, by omega, fun s hs => hws s (List.mem_of_mem_take hs), fun hn => ?_⟩, by omega⟩
    have h0 := hcell 0 (by omega)
    obtain ⟨b, off, spot⟩ := x
    have hspot : spot = none := by simpa [Addr.add] using World.cell?_spot h0
    subst hspot
    refine ⟨b, off, rfl, ?_, fun j hj => ?_⟩
    · exact World.block_lt_of_cell? w ⟨b, off, none⟩ (by simpa [Addr.add] using h0)
    · have hj1 := hcell j (by omega)
      have e : (ss.take len).getD j ByteArray.empty = ss.getD j ByteArray.empty := by
        rw [List.getD_eq_getElem?_getD, List.getD_eq_getElem?_getD, List.getElem?_take_of_lt hj]
      have ea : (⟨b, off, none⟩ : Addr).add j = ⟨b, off + j, none⟩ := by unfold Addr.add; split <;> simp_all
      rw [e, ← ea]
      exact hj1
/-- a configuration's numbers -/
theorem config_trod {fuel : Nat} {cs : List Value} {y : DataW H × List MemPlace} (ht : DataW.trod enc Try.prog w 0 spare held fuel 47 cs = some y) :
    ∃ c0 c1 c2 c3 c4 c5 c6 c7 c8 c9 : Int, cs[0]? = some (.int .i64 c0) ∧ cs[1]? = some (.int .i64 c1) ∧ cs[2]? = some (.int .i64 c2) ∧ cs[3]? = some (.int .i64 c3) ∧ cs[4]? = some (.int .i64 c4) ∧
      cs[5]? = some (.int .i64 c5) ∧ cs[6]? = some (.int .i64 c6) ∧ cs[7]? = some (.int .i64 c7) ∧ cs[8]? = some (.int .i64 c8) ∧ cs[9]? = some (.int .i64 c9) := by
  obtain ⟨xs, n, _, _, hlen, hxl, hf⟩ := DataW.trod_struct Try.underlying47 ht
  have hsome : ∀ i, i < 7 → ∃ z, xs[i]? = some z := fun i hi => ⟨xs[i]'(by rw [hxl]; exact hi), List.getElem?_eq_getElem _⟩
  obtain ⟨z0, e0⟩ := hsome 0 (by omega)
  have h0 := hf 0 _ rfl
  rw [e0] at h0
  obtain ⟨c0, g0, _⟩ := DataW.trod_int Try.underlying3 h0
  have k0 : cs[0]? = some (.int .i64 c0) := head_of g0
  obtain ⟨z2, e2⟩ := hsome 2 (by omega)
  have h2 := hf 2 _ rfl
  rw [e2] at h2
  obtain ⟨c5, g2, _⟩ := DataW.trod_int Try.underlying3 h2
  have k5 : cs[5]? = some (.int .i64 c5) := head_of g2
  obtain ⟨z3, e3⟩ := hsome 3 (by omega)
  have h3 := hf 3 _ rfl
  rw [e3] at h3
  obtain ⟨c6, g3, _⟩ := DataW.trod_int Try.underlying3 h3
  have k6 : cs[6]? = some (.int .i64 c6) := head_of g3
  obtain ⟨z4, e4⟩ := hsome 4 (by omega)
  have h4 := hf 4 _ rfl
  rw [e4] at h4
  obtain ⟨c7, g4, _⟩ := DataW.trod_int Try.underlying3 h4
  have k7 : cs[7]? = some (.int .i64 c7) := head_of g4
  obtain ⟨z5, e5⟩ := hsome 5 (by omega)
  have h5 := hf 5 _ rfl
  rw [e5] at h5
  obtain ⟨c8, g5, _⟩ := DataW.trod_int Try.underlying3 h5
  have k8 : cs[8]? = some (.int .i64 c8) := head_of g5
  obtain ⟨z6, e6⟩ := hsome 6 (by omega)
  have h6 := hf 6 _ rfl
  rw [e6] at h6
  obtain ⟨c9, g6, _⟩ := DataW.trod_int Try.underlying3 h6
  have k9 : cs[9]? = some (.int .i64 c9) := head_of g6
  obtain ⟨z1, e1⟩ := hsome 1 (by omega)
  have h1 := hf 1 _ rfl
  rw [e1] at h1
  obtain ⟨ys, m, _, _, _, hyl, hg⟩ := DataW.trod_array Try.underlying45 h1
  have hsome2 : ∀ i, i < 4 → ∃ z, ys[i]? = some z := fun i hi => ⟨ys[i]'(by rw [hyl]; exact hi), List.getElem?_eq_getElem _⟩
  obtain ⟨v0, u0⟩ := hsome2 0 (by omega)
  have q0 := hg 0 (by omega)
  rw [u0] at q0
  obtain ⟨c1, r0, _⟩ := DataW.trod_int Try.underlying3 q0
  have k1 : cs[1 + 0]? = some (.int .i64 c1) := by
    have hh := head_of r0
    have hc3 : 0 * Try.prog.cellsOf 3 = 0 := by kernel_rfl
    generalize 0 * Try.prog.cellsOf 3 = jj at hh hc3
    subst hc3
    exact head_in hh
  obtain ⟨v1, u1⟩ := hsome2 1 (by omega)
  have q1 := hg 1 (by omega)
  rw [u1] at q1
  obtain ⟨c2, r1, _⟩ := DataW.trod_int Try.underlying3 q1
  have k2 : cs[1 + 1]? = some (.int .i64 c2) := by
    have hh := head_of r1
    have hc3 : 1 * Try.prog.cellsOf 3 = 1 := by kernel_rfl
    generalize 1 * Try.prog.cellsOf 3 = jj at hh hc3
    subst hc3
    exact head_in hh
  obtain ⟨v2, u2⟩ := hsome2 2 (by omega)
  have q2 := hg 2 (by omega)
  rw [u2] at q2
  obtain ⟨c3, r2, _⟩ := DataW.trod_int Try.underlying3 q2
  have k3 : cs[1 + 2]? = some (.int .i64 c3) := by
    have hh := head_of r2
    have hc3 : 2 * Try.prog.cellsOf 3 = 2 := by kernel_rfl
    generalize 2 * Try.prog.cellsOf 3 = jj at hh hc3
    subst hc3
    exact head_in hh
  obtain ⟨v3, u3⟩ := hsome2 3 (by omega)
  have q3 := hg 3 (by omega)
  rw [u3] at q3
  obtain ⟨c4, r3, _⟩ := DataW.trod_int Try.underlying3 q3
  have k4 : cs[1 + 3]? = some (.int .i64 c4) := by
    have hh := head_of r3
    have hc3 : 3 * Try.prog.cellsOf 3 = 3 := by kernel_rfl
    generalize 3 * Try.prog.cellsOf 3 = jj at hh hc3
    subst hc3
    exact head_in hh
  exact ⟨c0, c1, c2, c3, c4, c5, c6, c7, c8, c9, k0, k1, k2, k3, k4, k5, k6, k7, k8, k9⟩
/-- a step of a script, out of its reading -/
theorem op_trod {fuel b o : Nat} {cs : List Value} {y : DataW H × List MemPlace} (hc : w.cells? 0 ⟨b, o, none⟩ 17 = some cs) (ht : DataW.trod enc Try.prog w 0 (fun _ => true) held fuel 62 cs = some y)
    (hz : ∀ n ∈ y.1.weights Try.prog 62, n ≤ reachBytes) : OpAt2 w w.heap.size b o := by
  obtain ⟨_, hcl, hce⟩ := World.cells?_some hc
  have key : ∀ j v, j < 17 → cs[j]? = some v → w.cell? ⟨b, o + j, none⟩ = some v := by
    intro j v hj hv
    have h := hce j hj
    have ea : (⟨b, o, none⟩ : Addr).add j = ⟨b, o + j, none⟩ := by unfold Addr.add; split <;> simp_all
    rw [ea, hv] at h
    exact h
  obtain ⟨xs, n, _, hy, hlen, hxl, hf⟩ := DataW.trod_struct Try.underlying62 ht
  have hsome : ∀ i, i < 8 → ∃ z, xs[i]? = some z := fun i hi => ⟨xs[i]'(by rw [hxl]; exact hi), List.getElem?_eq_getElem _⟩
  obtain ⟨z0, e0⟩ := hsome 0 (by omega)
  have h0 := hf 0 _ rfl
  rw [e0] at h0
  obtain ⟨d0, g0, _⟩ := DataW.trod_int Try.underlying3 h0
  have k0 := key 0 _ (by omega) (head_of g0)
  obtain ⟨z1, e1⟩ := hsome 1 (by omega)
  have h1 := hf 1 _ rfl
  rw [e1] at h1
  obtain ⟨d1, g1, _, wf1⟩ := DataW.trod_int Try.underlying3 h1
  have k1 := key 1 _ (by omega) (head_of g1)
  obtain ⟨z2, e2⟩ := hsome 2 (by omega)
  have h2 := hf 2 _ rfl
  rw [e2] at h2
  obtain ⟨d2, g2, _⟩ := DataW.trod_int Try.underlying3 h2
  have k2 := key 2 _ (by omega) (head_of g2)
  obtain ⟨z3, e3⟩ := hsome 3 (by omega)
  have h3 := hf 3 _ rfl
  rw [e3] at h3
  obtain ⟨d3, g3, _⟩ := DataW.trod_int Try.underlying3 h3
  have k3 := key 3 _ (by omega) (head_of g3)
  obtain ⟨z4, e4⟩ := hsome 4 (by omega)
  have h4 := hf 4 _ rfl
  rw [e4] at h4
  obtain ⟨d4, g4, _, wf4⟩ := DataW.trod_int Try.underlying3 h4
  have k4 := key 4 _ (by omega) (head_of g4)
  obtain ⟨z5, e5⟩ := hsome 5 (by omega)
  have h5 := hf 5 _ rfl
  rw [e5] at h5
  obtain ⟨st, g5, hz5, _⟩ := DataW.trod_string Try.underlying9 h5
  have k5 := key 5 _ (by omega) (head_of g5)
  obtain ⟨z6, e6⟩ := hsome 6 (by omega)
  have h6 := hf 6 _ rfl
  rw [e6] at h6
  obtain ⟨a, l, c, g6⟩ := slice_shape Try.underlying27 h6
  have k6 := key 6 _ (by omega) (head_of g6)
  obtain ⟨z7, e7⟩ := hsome 7 (by omega)
  have h7 := hf 7 _ rfl
  rw [e7] at h7
  obtain ⟨c0, c1, c2, c3, c4, c5, c6, c7, c8, c9, q0, q1, q2, q3, q4, q5, q6, q7, q8, q9⟩ := config_trod h7
  have hmem : ∀ (j : Nat) (t : TypeId) (z : DataW H × List MemPlace), [3, 3, 3, 3, 3, 9, 27, 47][j]? = some t → xs[j]? = some z → ∀ m ∈ z.1.weights Try.prog t, m ≤ reachBytes := by
    intro j t z htj hzj m hm
    refine hz m ?_
    rw [hy]
    simp only [DataW.weights, Try.underlying62]
    exact DataW.weights_mem_each (ts := [3, 3, 3, 3, 3, 9, 27, 47]) htj (by rw [List.getElem?_map, hzj]; rfl) m hm
  rw [g6] at h6
  obtain ⟨ss, hss, hn⟩ := strs_trod h6 (hmem 6 27 z6 rfl e6)
  have hs5 : st.size ≤ reachBytes := by
    have := hmem 5 9 z5 rfl e5 st.data.toList.length (by rw [hz5]; simp [DataW.weights])
    rw [Array.length_toList] at this
    exact this
  unfold reachBytes at hs5
  exact ⟨d0, d1, d2, d3, d4, st, a, l, c, c0, c1, c2, c3, c4, c5, c6, c7, c8, c9, ss,
    ⟨k0, k1, k2, k3, k4, k5, k6, key 7 _ (by omega) (head_in q0), key 8 _ (by omega) (head_in q1), key 9 _ (by omega) (head_in q2), key 10 _ (by omega) (head_in q3), key 11 _ (by omega) (head_in q4), key 12 _ (by omega) (head_in q5), key 13 _ (by omega) (head_in q6), key 14 _ (by omega) (head_in q7), key 15 _ (by omega) (head_in q8), key 16 _ (by omega) (head_in q9)⟩, hss, hn, by omega, bounds_i64 wf1, bounds_i64 wf4⟩
end

theorem weightsAll_mem {H : Type} {P : Program} {e : TypeId} {d : DataW H} {ds : List (DataW H)} {q : Nat} (h : d ∈ ds) (hq : q ∈ d.weights P e) : q ∈ DataW.weightsAll P e ds := by
  induction ds with
  | nil => cases h
  | cons x r ih =>
    simp only [DataW.weightsAll, List.mem_append]
    rcases List.mem_cons.1 h with rfl | h
    · exact .inl hq
    · exact .inr (ih h)
theorem sends_own : ownKnob Try.prog.godebug = none := by kernel_rfl
theorem sends_laidOut : laidOutB Try.prog = true := by kernel_rfl
theorem cells49 : Try.prog.cellsOf 62 = 17 := by kernel_rfl
theorem bytes49 : Try.prog.bytesOf 62 = 160 := by kernel_rfl
/-- a script, out of its reading -/
theorem script_trod {H : Type} {enc : TypeId × Value → H} {w : World} {a0 : Option Addr} {len cap : Nat} {d : DataW H} {p : List MemPlace}
    (h : DataW.Trod enc Try.prog w 0 (fun _ => true) true 22 (.slice a0 len cap) d p) (hz : ∀ n ∈ d.weights Try.prog 22, n ≤ reachBytes) : ScriptAt2 w w.heap.size a0 len := by
  obtain ⟨fuel, hf⟩ := h
  rcases Deep.open_slice Try.underlying22 hf with ⟨hcs, _⟩ | ⟨x, l, c, m, n, D, Pl, hcs, _, hl, hm, hme, hx, hel⟩
  · simp [Value.cells] at hcs
    obtain ⟨rfl, rfl, rfl⟩ := hcs
    exact ⟨by omega, fun h => by omega⟩
  · simp [Value.cells] at hcs
    obtain ⟨rfl, rfl, rfl⟩ := hcs
    simp at hme
    subst hme
    simp only [Prod.mk.injEq] at hx
    obtain ⟨rfl, _⟩ := hx
    have hw1 := hz ((((List.range len).map D).length + ((List.range (m - len)).map fun j => D (len + j)).length) * Try.prog.bytesOf 62) (by simp [DataW.weights, Try.underlying22])
    rw [bytes49] at hw1
    simp [reachBytes] at hw1
    have hwi : ∀ i, i < len → ∀ q ∈ (D i).weights Try.prog 62, q ≤ reachBytes := by
      intro i hi q hq
      refine hz q ?_
      simp only [DataW.weights, Try.underlying22]
      refine List.mem_cons_of_mem _ (List.mem_append_left _ ?_)
      exact weightsAll_mem (List.mem_map.2 ⟨i, List.mem_range.2 hi, rfl⟩) hq
    refine ⟨by omega, fun hn => ?_⟩
    have h17 := cells49
    generalize Try.prog.cellsOf 62 = kk at hel h17
    subst h17
    obtain ⟨cs0, hc0, _⟩ := hel 0 (by omega)
    have hc00 := (World.cells?_some hc0).2.2 0 (by omega)
    have hl0 := (World.cells?_some hc0).2.1
    obtain ⟨b, off, spot⟩ := x
    have hspot : spot = none := by
      have : ∃ v, w.cell? (Addr.add (Addr.add ⟨b, off, spot⟩ (0 * 17)) 0) = some v := ⟨_, hc00.trans (List.getElem?_eq_getElem (by omega))⟩
      obtain ⟨v, hv⟩ := this
      simpa [Addr.add] using World.cell?_spot hv
    subst hspot
    have hblt : b < w.heap.size := by
      have : ∃ v, w.cell? (Addr.add (Addr.add ⟨b, off, none⟩ (0 * 17)) 0) = some v := ⟨_, hc00.trans (List.getElem?_eq_getElem (by omega))⟩
      obtain ⟨v, hv⟩ := this
      exact World.block_lt_of_cell? w ⟨b, off, none⟩ (by simpa [Addr.add] using hv)
    refine ⟨b, off, rfl, hblt, fun i hi => ?_⟩
    obtain ⟨cs, hc, ht⟩ := hel i (by omega)
    have ea : (⟨b, off, none⟩ : Addr).add (i * 17) = ⟨b, off + i * 17, none⟩ := by unfold Addr.add; split <;> simp_all
    rw [ea] at hc
    exact op_trod hc ht (hwi i hi)

theorem StrsLow.up {w w' : World} {B B' : Nat} {a : Option Addr} {n : Nat} {ss : List ByteArray} (h : StrsLow w B a n ss) (hb : Below B w w') (hBB : B ≤ B') : StrsLow w' B' a n ss := by
  obtain ⟨h1, h2, h3, h4⟩ := h
  refine ⟨h1, h2, h3, fun hn => ?_⟩
  obtain ⟨b, off, e, hlt, hc⟩ := h4 hn
  exact ⟨b, off, e, Nat.lt_of_lt_of_le hlt hBB, fun j hj => by rw [hb.cell (p := ⟨b, off + j, none⟩) hlt]; exact hc j hj⟩
theorem OpAt2.up {w w' : World} {B B' b o : Nat} (h : OpAt2 w B b o) (hb : Below B w w') (hB : b < B) (hBB : B ≤ B') : OpAt2 w' B' b o := by
  obtain ⟨k, A, Bq, D, W, s, a', n', cap', c0, c1, c2, c3, c4, c5, c6, c7, c8, c9, ss, hcells, hst, hn', hs', hA, hW⟩ := h
  have cc : ∀ j, w'.cell? ⟨b, j, none⟩ = w.cell? ⟨b, j, none⟩ := fun j => hb.cell (p := ⟨b, j, none⟩) hB
  refine ⟨k, A, Bq, D, W, s, a', n', cap', c0, c1, c2, c3, c4, c5, c6, c7, c8, c9, ss, ?_, hst.up hb hBB, hn', hs', hA, hW⟩
  simp only [cc]
  exact hcells
theorem ScriptAt2.up {w w' : World} {B B' : Nat} {a : Option Addr} {n : Nat} (h : ScriptAt2 w B a n) (hb : Below B w w') (hBB : B ≤ B') : ScriptAt2 w' B' a n := by
  obtain ⟨h1, h2⟩ := h
  refine ⟨h1, fun hn => ?_⟩
  obtain ⟨b, off, e, hlt, hops⟩ := h2 hn
  exact ⟨b, off, e, Nat.lt_of_lt_of_le hlt hBB, fun i hi => (hops i hi).up hb hlt hBB⟩
theorem opens_any {w : World} {B gW : Nat} {lab : Nat → Nat} {ve vr vl vm : Value} {xs : List Value} {ms : List ByteArray} {gs rs : List Nat} {mp : Nat → Mod} (h : WI w B gW lab ve vr vl vm xs ms gs rs mp mp) (hs : ∀ i, i < gs.length → Snd 0 (mp i)) (hgl : gs.length ≤ 2199023255552) (c0 c1 c2 c3 c4 c5 c6 c7 c8 c9 : Int) :
    Calls Try.prog 26 #[.pointer (some ⟨gW, 0, none⟩), .agg #[.int .i64 c0, .int .i64 c1, .int .i64 c2, .int .i64 c3, .int .i64 c4, .int .i64 c5, .int .i64 c6, .int .i64 c7, .int .i64 c8, .int .i64 c9]] w fun e w' => OpenPost w B gW vl vm xs ms gs 0 e w' := by
  cases hb : cfgB c0 c1 c2 c3 c4 c5 c6 c7 c8 c9
  · exact opens_no h hs c0 c1 c2 c3 c4 c5 c6 c7 c8 c9 hb
  · obtain ⟨hok, hcells⟩ := cfg_ok hb
    rw [hcells]
    exact opens_yes h hs hgl _ hok
set_option maxHeartbeats 2000000 in
set_option maxRecDepth 100000 in
theorem plays_walk (c0 c1 c2 c3 c4 c5 c6 c7 c8 c9 : Int) (a : Option Addr) (n cap : Nat) (w wq : World) (hq : Below wq.heap.size wq w) (hsc : ScriptAt2 wq wq.heap.size a n) :
    Calls Try.prog 16 #[.agg #[.int .i64 c0, .int .i64 c1, .int .i64 c2, .int .i64 c3, .int .i64 c4, .int .i64 c5, .int .i64 c6, .int .i64 c7, .int .i64 c8, .int .i64 c9], .slice a n cap, .int .i64 9] w fun e w' => e = .returned (.bool true) ∧ Below wq.heap.size w w' := by
  have HQ := hid hq
  have HSC := hid hsc
  have hqs := hq.size
  clear hq hsc
  go_enter Try.func16, Try.ntmps16
  go_wp2_with fail
  obtain ⟨w1, hw1⟩ : ∃ w1, (w.alloc (.cells #[.int .i64 c0, .int .i64 c1, .int .i64 c2, .int .i64 c3, .int .i64 c4, .int .i64 c5, .int .i64 c6, .int .i64 c7, .int .i64 c8, .int .i64 c9] 47)).alloc (.cells #[.slice none 0 0, .slice none 0 0, .slice none 0 0, .slice none 0 0] 29) = w1 := ⟨_, rfl⟩
  rw [hw1]
  have hb1 : Below w.heap.size w w1 := by rw [← hw1]; exact (below_alloc w _).alloc (by simp) _
  have ho1 : w1.heap[w.heap.size]? = some (.cells #[.int .i64 c0, .int .i64 c1, .int .i64 c2, .int .i64 c3, .int .i64 c4, .int .i64 c5, .int .i64 c6, .int .i64 c7, .int .i64 c8, .int .i64 c9] 47 (0, 0)) := by
    rw [← hw1, Below.heap_alloc _ _ _ (by simp)]
    exact heap_alloc_new w _
  have hg1 : w1.heap[w.heap.size + 1]? = some (.cells #[.slice none 0 0, .slice none 0 0, .slice none 0 0, .slice none 0 0] 29 (0, 0)) := by
    rw [← hw1]
    have := heap_alloc_new (w.alloc (.cells #[.int .i64 c0, .int .i64 c1, .int .i64 c2, .int .i64 c3, .int .i64 c4, .int .i64 c5, .int .i64 c6, .int .i64 c7, .int .i64 c8, .int .i64 c9] 47)) (.cells #[.slice none 0 0, .slice none 0 0, .slice none 0 0, .slice none 0 0] 29)
    simpa using this
  have hs1 : w1.heap.size = w.heap.size + 2 := by rw [← hw1]; simp
  clear hw1
  have hWI : WI w1 (w.heap.size + 1) (w.heap.size + 1) (fun _ => 0) (.slice none 0 0) (.slice none 0 0) (.slice none 0 0) (.slice none 0 0) [] [] [] [] (fun _ => Mod.fresh ⟨0, 0, 0, 0, 0, 0, 0, 0, 0, 0⟩) (fun _ => Mod.fresh ⟨0, 0, 0, 0, 0, 0, 0, 0, 0, 0⟩) := by
    have hno : ∀ K : Nat → Prop, OwnIn K (.slice none 0 0) := fun K k hk => by simp [Value.ownBlock] at hk
    exact ⟨⟨by omega, rfl, QRow.nil _ _ _, QRow.nil _ _ _, fun i hi => absurd hi (by simp), fun i hi => absurd hi (by simp)⟩, ⟨Nat.le_refl _, hg1, World.ownsRow_nil _ _ _ _, World.ownsRow_nil _ _ _ _, by simp⟩, ⟨hno _, hno _, fun x hx => by simp at hx⟩, ⟨⟨Nat.le_refl _, by omega⟩, rfl⟩, rfl⟩
  refine (opens_any hWI (fun i hi => absurd hi (by simp)) (by simp) c0 c1 c2 c3 c4 c5 c6 c7 c8 c9).mono ?_
  rintro e w2 ⟨rfl, hb2, lab2, ve2, vr2, gs2, rs2, mp2, h2, hl2, hs2⟩
  have p0 : w2.cell? ⟨w.heap.size, 0, none⟩ = some (.int .i64 c0) := (hb2.cell (p := ⟨w.heap.size, 0, none⟩) (Nat.lt_succ_self _)).trans (Lib.cell_of_heap ho1 0)
  have p1 : w2.cell? ⟨w.heap.size, 1, none⟩ = some (.int .i64 c1) := (hb2.cell (p := ⟨w.heap.size, 1, none⟩) (Nat.lt_succ_self _)).trans (Lib.cell_of_heap ho1 1)
  have p2 : w2.cell? ⟨w.heap.size, 2, none⟩ = some (.int .i64 c2) := (hb2.cell (p := ⟨w.heap.size, 2, none⟩) (Nat.lt_succ_self _)).trans (Lib.cell_of_heap ho1 2)
  have p3 : w2.cell? ⟨w.heap.size, 3, none⟩ = some (.int .i64 c3) := (hb2.cell (p := ⟨w.heap.size, 3, none⟩) (Nat.lt_succ_self _)).trans (Lib.cell_of_heap ho1 3)
  have p4 : w2.cell? ⟨w.heap.size, 4, none⟩ = some (.int .i64 c4) := (hb2.cell (p := ⟨w.heap.size, 4, none⟩) (Nat.lt_succ_self _)).trans (Lib.cell_of_heap ho1 4)
  have p5 : w2.cell? ⟨w.heap.size, 5, none⟩ = some (.int .i64 c5) := (hb2.cell (p := ⟨w.heap.size, 5, none⟩) (Nat.lt_succ_self _)).trans (Lib.cell_of_heap ho1 5)
  have p6 : w2.cell? ⟨w.heap.size, 6, none⟩ = some (.int .i64 c6) := (hb2.cell (p := ⟨w.heap.size, 6, none⟩) (Nat.lt_succ_self _)).trans (Lib.cell_of_heap ho1 6)
  have p7 : w2.cell? ⟨w.heap.size, 7, none⟩ = some (.int .i64 c7) := (hb2.cell (p := ⟨w.heap.size, 7, none⟩) (Nat.lt_succ_self _)).trans (Lib.cell_of_heap ho1 7)
  have p8 : w2.cell? ⟨w.heap.size, 8, none⟩ = some (.int .i64 c8) := (hb2.cell (p := ⟨w.heap.size, 8, none⟩) (Nat.lt_succ_self _)).trans (Lib.cell_of_heap ho1 8)
  have p9 : w2.cell? ⟨w.heap.size, 9, none⟩ = some (.int .i64 c9) := (hb2.cell (p := ⟨w.heap.size, 9, none⟩) (Nat.lt_succ_self _)).trans (Lib.cell_of_heap ho1 9)
  have H2 := hid h2
  have HS2 := hid hs2
  have HB2 := hid hb2
  have HB1 := hid hb1
  simp only [List.length_nil, Nat.zero_add] at hl2
  clear h2 hs2 hb2 hb1 ho1 hg1 hWI
  go_wp2_with fail
  refine (opens_any H2.out HS2.out (by omega) c0 c1 c2 c3 c4 c5 c6 c7 c8 c9).mono ?_
  rintro e w3 ⟨rfl, hb3, lab3, ve3, vr3, gs3, rs3, mp3, h3, hl3, hs3⟩
  have H3 := hid h3
  have HS3 := hid hs3
  have HB3 := hid (HB2.out.trans hb3)
  clear h3 hs3 hb3 p0 p1 p2 p3 p4 p5 p6 p7 p8 p9
  go_wp2_with fail
  refine (play_send H3.out HS3.out (by omega) w1 HB3.out a n cap (HSC.out.up (HQ.out.trans (HB1.out.mono hqs)) (by omega))).mono ?_
  rintro e w4 ⟨rfl, hb4⟩
  have HB4 := hid hb4
  clear hb4
  go_wp2_with fail
  go_ret
  exact ⟨rfl, (HB1.out.mono hqs).trans ((HB3.out.trans HB4.out).mono (by omega))⟩
set_option maxRecDepth 100000 in
theorem sends_walk (c0 c1 c2 c3 c4 c5 c6 c7 c8 c9 : Int) (a : Option Addr) (n cap : Nat) (w : World) (hsc : ScriptAt2 w w.heap.size a n) :
    Calls Try.prog 6 #[.agg #[.int .i64 c0, .int .i64 c1, .int .i64 c2, .int .i64 c3, .int .i64 c4, .int .i64 c5, .int .i64 c6, .int .i64 c7, .int .i64 c8, .int .i64 c9], .slice a n cap] w fun e w' => e = .returned (.bool true) ∧ Below w.heap.size w w' := by
  have HP := hid (fun W hb => plays_walk c0 c1 c2 c3 c4 c5 c6 c7 c8 c9 a n cap W w hb hsc)
  clear hsc
  go_enter Try.func6, Try.ntmps6
  go_wp2_with fail
  refine (HP.out _ (below_alloc w _)).mono ?_
  rintro e w2 ⟨rfl, hb2⟩
  have HB2 := hid ((below_alloc w _).trans hb2)
  clear hb2
  go_wp2_with fail
  go_ret
  exact ⟨rfl, HB2.out⟩
theorem sten_of {cs : List Value} {v0 v1 v2 v3 v4 v5 v6 v7 v8 v9 : Value} (hl : cs.length = 10) (h : cs[0]? = some v0 ∧ cs[1]? = some v1 ∧ cs[2]? = some v2 ∧ cs[3]? = some v3 ∧ cs[4]? = some v4 ∧ cs[5]? = some v5 ∧ cs[6]? = some v6 ∧ cs[7]? = some v7 ∧ cs[8]? = some v8 ∧ cs[9]? = some v9) :
    cs = [v0, v1, v2, v3, v4, v5, v6, v7, v8, v9] := by
  match cs, hl with
  | [a0, a1, a2, a3, a4, a5, a6, a7, a8, a9], _ =>
    simp at h
    obtain ⟨rfl, rfl, rfl, rfl, rfl, rfl, rfl, rfl, rfl, rfl⟩ := h
    rfl
set_option maxRecDepth 100000 in
theorem sends_lifted (os : Os) (started : os.Started) (H : Type) (enc : TypeId × Value → H) :
    ReturnsInHanded {} Try.checked os 6 .any (Rows.sendsSpec.pre6 enc Try.prog Try.f6 Rows.sendsRow.domain false) (Rows.sendsSpec.post enc Try.prog Try.f6 false true false false) := by
  refine returnsInHanded_of_change_sized (C := Try.checked) sends_own started (by kernel_rfl) Try.func6
    (ChangeSpec.witness6 (enc := enc) (C := Try.checked) false ⟨#[], #[.agg #[.int .i64 0, .int .i64 0, .int .i64 0, .int .i64 0, .int .i64 0, .int .i64 0, .int .i64 0, .int .i64 0, .int .i64 0, .int .i64 0], .slice none 0 0], []⟩ 8 (by kernel_rfl) (by kernel_rfl) (by kernel_rfl) (by kernel_rfl)) ?_
  intro W base args ds gs before hval0 hW hcnd hsz0 _
  have hval : ∀ (j : Nat) t v, Try.f6.params[j]? = some t → args[j]? = some v → Value.okWide Try.prog W .any base t v := hval0
  have hsz : (DataW.weightsEach Try.prog (Try.f6.params.toList ++ Rows.sendsSpec.plain.varTypes Try.prog) (ds ++ gs)).all (· ≤ reachBytes) = true := hsz0
  have hW' := hW
  obtain ⟨p, q, hA0, hV, rfl, hfz, hnd⟩ := hW
  have hA : DataW.TrodAll enc Try.prog W 0 (fun _ => true) true Try.f6.params.toList args.toList ds p := hA0
  rw [Try.params6] at hA hval hsz
  obtain ⟨v0, vs0, d0, ds0, p0, q0, hargs, rfl, rfl, h0, r0⟩ := trodAll_cons hA
  obtain ⟨v1, vs1, d1, ds1, p1, q1, rfl, rfl, rfl, h1, r1⟩ := trodAll_cons r0
  obtain ⟨rfl, rfl, rfl⟩ := trodAll_nil r1
  obtain rfl : args = #[v0, v1] := by cases args; simp_all
  obtain ⟨rfl, rfl⟩ := trodVars_none hV
  obtain ⟨cs, rfl, hcs⟩ := okWide_struct Try.underlying47 (hval 0 47 v0 rfl rfl)
  obtain ⟨a0, len0, cap0, rfl⟩ := okWide_slice Try.underlying22 (hval 1 22 v1 rfl rfl)
  have k0 := h0
  have k1 := h1
  have lt0 : ∀ x ∈ p0, x.block < W.heap.size := by obtain ⟨m, hm⟩ := k0; exact DataW.trod_lt m _ _ _ hm
  have lt1 : ∀ x ∈ p1, x.block < W.heap.size := by obtain ⟨m, hm⟩ := k1; exact DataW.trod_lt m _ _ _ hm
  have hwz : ∀ n ∈ d1.weights Try.prog 22, n ≤ reachBytes := by
    intro n hn
    have := List.all_eq_true.1 hsz n (DataW.weights_mem_each (j := 1) rfl rfl n hn)
    simpa using this
  have hsc := script_trod h1 hwz
  obtain ⟨fuel, hf⟩ := h0
  obtain ⟨c0, c1, c2, c3, c4, c5, c6, c7, c8, c9, g0, g1, g2, g3, g4, g5, g6, g7, g8, g9⟩ := config_trod hf
  have hten : cs = #[.int .i64 c0, .int .i64 c1, .int .i64 c2, .int .i64 c3, .int .i64 c4, .int .i64 c5, .int .i64 c6, .int .i64 c7, .int .i64 c8, .int .i64 c9] := by
    have hl : (Value.cells (.agg cs)).toList.length = 10 := by
      have h10 : Try.prog.cellsOf 47 = 10 := by kernel_rfl
      rw [h10] at hcs
      simpa [Value.cells] using hcs
    have := sten_of hl ⟨g0, g1, g2, g3, g4, g5, g6, g7, g8, g9⟩
    cases cs
    simpa [Value.cells] using this
  clear hA0 hval0
  have hwalk := sends_walk c0 c1 c2 c3 c4 c5 c6 c7 c8 c9 a0 len0 cap0 W hsc
  rw [← hten] at hwalk
  refine hwalk.mono fun e W' ⟨he, bel⟩ => ?_
  subst he
  exact ⟨_, rfl, _, _, _, [], _, [], hW', trodAll_mk1 (shut_bool Try.underlying4 _), (trodAll_cons_mk (Below.trod sends_laidOut (by kernel_rfl) (of_decide_eq_true (by kernel_rfl)) k0 bel lt0) (trodAll_cons_mk (Below.trod sends_laidOut (by kernel_rfl) (of_decide_eq_true (by kernel_rfl)) k1 bel lt1) trodAll_mk0)), rfl, bel.frame _, fun h => by cases h⟩

theorem sends_over : Rows.sendsRow.holds Try.pinned (OpenSpec.ofChange Rows.sendsSpec) :=
  OpenClaim.holds_of_wide 6 Try.f6 rfl rfl rfl rfl rfl rfl rfl ⟨rfl, rfl, rfl, rfl, rfl⟩ rfl rfl rfl rfl rfl (by kernel_rfl) Try.func6 (by kernel_rfl)
    (of_decide_eq_true (by kernel_rfl)) (by unfold Func.isWrapper; first | (rw [if_pos (by decide +kernel)]; kernel_rfl) | (rw [if_neg (by decide +kernel)]; exact ⟨rfl, rfl⟩))
    (fun os started H enc _ => sends_lifted os started H enc)

/-- the statement -/
theorem sends_holds : Rows.SendsSaid := sends_over
#print axioms sends_holds
end Go.Proofs.Ytnclmbolfpojoaa
