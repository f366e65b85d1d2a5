/-
  The program's choice of a Data frame.
-/
import Derived.Test.YtnclmbolfpojoaaPTurn
import Derived.Deep.RegionHeld3
import Derived.Deep.RegionLaw
namespace Go.Proofs.Ytnclmbolfpojoaa
open Go.RowKit
theorem begin_c (m : Mod) : m.begin.c = m.c ∧ m.begin.turn = m.turn ∧ m.begin.died = m.died ∧ m.begin.ss.length = m.ss.length := by
  unfold Mod.begin
  split
  · exact ⟨rfl, rfl, rfl, len_upd _ _ _⟩
  · exact ⟨rfl, rfl, rfl, rfl⟩
theorem raw_of_ok {c : Cfg} (h : c.Ok) {i : Nat} (hi : i < c.n) : c.raw i = (c.weight i : Nat) := by
  have := (h.w i hi).1
  have e : c.weight i = (c.raw i).toNat := rfl
  omega
theorem serve_of {m : Mod} (h : m.Inv) (hl : m.died = 0) (hst : (m.at m.turn).stuck = false) : Serve m := by
  have hs := h.s m.turn h.turn
  have hd := h.d m.turn h.turn
  have h1 := dmax_le h.c h.turn
  have h2 := share_le h.c h.turn
  have h3 := share_pos h.c h.turn
  have e : m.share = m.shareOf m.turn := rfl
  refine ⟨hl, by rw [h.len]; exact h.turn, by rw [h.len]; exact h.c.n4, ?_, fun x hx => by have := (hs.msgs x hx).2; omega, by have := hs.credit; have := h.c.win250; omega, by omega, raw_of_ok h.c h.turn, by omega, by omega⟩
  intro e
  rw [(stuck_iff _).2 (.inl e)] at hst
  cases hst
/-- send -/
theorem psend_calls {w : World} {F : Nat → Prop} {g : Nat} {m : Mod} {lab : Nat → Nat} {gm : Nat} {vW vC : Value} {bs : List Nat} (h : PEndWith w F g m lab gm vW vC bs) (hi : m.Inv) (hl : m.died = 0) (hst : (m.at m.turn).stuck = false) :
    Calls Try.prog 85 #[.pointer (some ⟨g, 11, none⟩), .agg (cfgCells m.c), ptrV (bs.getD m.turn 0)] w fun e w' => SendPost w F g m.begin.cutE lab gm vW vC bs (.string m.begin.cutB) e w' := by
  obtain ⟨b1, b2, b3⟩ := hi.begins hst
  have hsv := serve_of b1 (by rw [(begin_c m).2.2.1]; exact hl) b3
  have hd := hi.d m.turn hi.turn
  have h1 := dmax_le hi.c hi.turn
  have h2 := share_le hi.c hi.turn
  have e : m.share = m.shareOf m.turn := rfl
  cases hb : m.begun
  · rw [begin_no hb] at hsv ⊢
    refine (psend_paid' h.old hsv hb (fun k hk => hk.2)).mono ?_
    rintro e w' ⟨rfl, hp, hc⟩
    exact ⟨rfl, hp.monoF (fun _ _ e => e.1), hc.mono (fun _ _ e => e.1)⟩
  · rw [begin_yes hb] at hsv ⊢
    refine (psend_begun' h.old hsv hb (by omega) (fun k hk => hk.2)).mono ?_
    rintro e w' ⟨rfl, hp, hc⟩
    exact ⟨rfl, hp.monoF (fun _ _ e => e.1), hc.mono (fun _ _ e => e.1)⟩
/-- what is chosen: the end behind it, the stream, the bytes -/
def Mod.lookE : Nat → Mod → Mod × Nat × ByteArray
  | 0, m => (m, 0, noB)
  | k + 1, m => if (m.at m.turn).stuck then Mod.lookE k m.passes else (m.begin.cutE, m.turn, m.begin.cutB)
theorem Mod.Inv.passStuck {m : Mod} (h : m.Inv) (hl : m.died = 0) (hst : (m.at m.turn).stuck = true) (hz : (m.at m.turn).queue = [] → (m.at m.turn).deficit = 0) : m.passes.Inv ∧ (m.upd m.turn (m.at m.turn).idle) = m := by
  have e : (m.at m.turn).idle = m.at m.turn := by
    unfold Stm.idle
    split
    · rename_i e
      rw [show ({ m.at m.turn with deficit := 0 } : Stm) = { m.at m.turn with deficit := (m.at m.turn).deficit } by rw [hz e]]
    · rfl
  have e2 : (m.upd m.turn (m.at m.turn).idle) = m := by rw [e]; exact upd_self m m.turn
  have := h.idles hl hst
  rw [e2] at this
  exact ⟨this, e2⟩
def ChoosePost (w : World) (F : Nat → Prop) (g : Nat) (r : Mod × Nat × ByteArray) (lab : Nat → Nat) (gm : Nat) (vW vC : Value) (bs : List Nat) (e : Ending) (w' : World) : Prop :=
  e = .returned (.tuple #[.int .i64 r.2.1, .string r.2.2]) ∧ PEndWith w' F g r.1 lab gm vW vC bs ∧ Chg F w w'
set_option maxHeartbeats 2000000 in
set_option maxRecDepth 100000 in
/-- Choose -/
theorem pchoose' {w : World} {F : Nat → Prop} {g : Nat} {m : Mod} {lab : Nat → Nat} {gm : Nat} {vW vC : Value} {bs : List Nat} (h : PEndWith w F g m lab gm vW vC bs) (hi : m.Inv) (hl : m.died = 0) (hF : ∀ k, F k → k < w.heap.size) :
    Calls Try.prog 53 #[.pointer (some ⟨g, 11, none⟩), .agg (cfgCells m.c), .map (some gm)] w fun e w' => ChoosePost w F g (m.lookE m.ss.length) lab gm vW vC bs e w' := by
  obtain ⟨R, hR⟩ : ∃ R, m.lookE m.ss.length = R := ⟨_, rfl⟩
  rw [hR]
  obtain ⟨c, hc⟩ : ∃ c, m.c = c := ⟨_, rfl⟩
  obtain ⟨n, hn⟩ : ∃ n, m.ss.length = n := ⟨_, rfl⟩
  have hcn : c.n = n := by rw [← hc, h.n, hn]
  have hn4 : n ≤ 4 := by rw [← hn, hi.len]; exact hi.c.n4
  rw [hn] at hR
  rw [hc]
  have H := hid h
  have HI := hid hi
  have HL := hid hl
  have HF := hid hF
  have HR := hid hR
  have HC := hid hc
  have HN := hid hn
  have HCN : Hid ((c.n : Int) = (n : Int)) := by show _ = _; rw [hcn]
  clear h hi hl hF hR hc hn hcn
  unfold cfgCells
  go_enter Try.func53, Try.ntmps53
  go_wp2
  have hbox : (w.alloc (.cells #[.int .i64 c.n, .int .i64 c.w0, .int .i64 c.w1, .int .i64 c.w2, .int .i64 c.w3, .int .i64 c.quantum, .int .i64 c.chunk, .int .i64 c.window, .int .i64 c.queue, .int .i64 c.patience] 47)).heap[w.heap.size]? = some (.cells #[.int .i64 c.n, .int .i64 c.w0, .int .i64 c.w1, .int .i64 c.w2, .int .i64 c.w3, .int .i64 c.quantum, .int .i64 c.chunk, .int .i64 c.window, .int .i64 c.queue, .int .i64 c.patience] 47 (0, 0)) := heap_alloc_new w _
  have HB0 := hid hbox
  have HC0 : Hid (Chg F w (w.alloc (.cells #[.int .i64 c.n, .int .i64 c.w0, .int .i64 c.w1, .int .i64 c.w2, .int .i64 c.w3, .int .i64 c.quantum, .int .i64 c.chunk, .int .i64 c.window, .int .i64 c.queue, .int .i64 c.patience] 47))) := Chg.alloc w _
  have HP0 : Hid (PEndWith (w.alloc (.cells #[.int .i64 c.n, .int .i64 c.w0, .int .i64 c.w1, .int .i64 c.w2, .int .i64 c.w3, .int .i64 c.quantum, .int .i64 c.chunk, .int .i64 c.window, .int .i64 c.queue, .int .i64 c.patience] 47)) F g m lab gm vW vC bs) := H.out.below (below_alloc1 w _)
  clear hbox
  generalize w.alloc (.cells #[.int .i64 c.n, .int .i64 c.w0, .int .i64 c.w1, .int .i64 c.w2, .int .i64 c.w3, .int .i64 c.quantum, .int .i64 c.chunk, .int .i64 c.window, .int .i64 c.queue, .int .i64 c.patience] 47) = w0 at *
  rw [HCN.out]
  go_loopw [6, 7, 8, 9, 12] (fun _ _ _ _ x wr => ∃ (j : Nat) (mj : Mod), j ≤ n ∧ x = .int .i64 j ∧ mj.lookE (n - j) = R ∧ mj.Inv ∧ mj.died = 0 ∧ mj.c = c ∧ mj.ss.length = n ∧ PEndWith wr F g mj lab gm vW vC bs ∧ Chg F w wr ∧ wr.heap[w.heap.size]? = some (.cells #[.int .i64 c.n, .int .i64 c.w0, .int .i64 c.w1, .int .i64 c.w2, .int .i64 c.w3, .int .i64 c.quantum, .int .i64 c.chunk, .int .i64 c.window, .int .i64 c.queue, .int .i64 c.patience] 47 (0, 0))) (fun _ _ _ _ x _ => n - (intOf x).toNat)
  case atStart => exact ⟨0, m, Nat.zero_le _, rfl, HR.out, HI.out, HL.out, HC.out, HN.out, HP0.out, HC0.out, HB0.out⟩
  case round =>
    clear HP0 HC0 HB0 HI HL HC HN HR H
    obtain ⟨j, mj, hj, rfl, hR, hI, hL, hC, hN, hP, hCh, hB⟩ := hrel
    have HR := hid hR
    have HI := hid hI
    have HL := hid hL
    have HC := hid hC
    have HN := hid hN
    have HP := hid hP
    have HCH := hid hCh
    have HB := hid hB
    have k11 := (pe_cells hP.obj).2.2.2.2.2.2.2.2.2.2.2.1
    have htl : mj.turn < n := by rw [← hN, hI.len]; exact hI.turn
    have hlen : bs.length = n := by rw [hP.len, hN]
    clear hR hI hL hC hN hP hCh hB
    by_cases hlt : j < n
    · obtain ⟨b, hbb⟩ : ∃ b, bs.getD mj.turn 0 = b := ⟨_, rfl⟩
      have HBB := hid hbb
      have hlk : (Instr.lookup 66 (.map (some gm)) (.int .i64 mj.turn) false).run Try.prog wr = .ok (.pointer (some ⟨b, 0, none⟩)) wr := by
        rw [run_lookup_stm HP.out.map]
        rw [if_neg (by decide), if_pos (by omega), show ((mj.turn : Nat) : Int).toNat = mj.turn by omega, hbb]
        rfl
      have hst : PStm wr (Lab F lab (2 * mj.turn + 3)) (Lab F lab (2 * mj.turn + 4)) b (mj.at mj.turn) := by rw [← hbb]; exact HP.out.stmAt HL.out (by rw [HN.out]; exact htl)
      have hcan := pcan_calls hst
      have HCAN := hid hcan
      unfold ptrV at HCAN
      obtain ⟨k, hk⟩ : ∃ k, n - j = k + 1 := ⟨n - j - 1, by omega⟩
      have hR2 := HR.out
      rw [hk, Mod.lookE] at hR2
      have hx := Lib.cell_of_heap HB.out
      have hx0 := hx 0
      have hx1 := hx 1
      have hx2 := hx 2
      have hx3 := hx 3
      have hx4 := hx 4
      have hx5 := hx 5
      have hx6 := hx 6
      have hx7 := hx 7
      have hx8 := hx 8
      have hx9 := hx 9
      clear hx hcan hst hbb hlen
      cases hsk : (mj.at mj.turn).stuck
      · rw [hsk] at hR2 HCAN
        have HR2 : Hid ((mj.begin.cutE, mj.turn, mj.begin.cutB) = R) := hR2
        have HSEND := hid (psend_calls HP.out HI.out HL.out hsk)
        rw [HBB.out, HC.out] at HSEND
        unfold cfgCells ptrV at HSEND
        clear hR2
        go_wp2_with fail
        refine HCAN.out.mono ?_
        rintro e w1 ⟨rfl, hw⟩
        replace hw := hw.symm
        subst hw
        go_wp2_with fail
        refine HSEND.out.mono ?_
        rintro e w2 ⟨rfl, hp2, hc2⟩
        have HP2 := hid hp2
        have HC2 := hid hc2
        clear hp2 hc2 hx0 hx1 hx2 hx3 hx4 hx5 hx6 hx7 hx8 hx9 k11 hlk
        go_wp2_with fail
        go_ret2
        have e := HR2.out
        subst e
        exact ⟨rfl, HP2.out, HCH.out.trans' HC2.out⟩
      · rw [hsk] at hR2 HCAN
        have HR2 : Hid (mj.passes.lookE k = R) := hR2
        obtain ⟨q1, q2⟩ := HI.out.passStuck HL.out hsk (HP.out.zero HL.out mj.turn (by rw [HP.out.len, HN.out]; exact htl))
        have HQ1 := hid q1
        have HPASS := hid (ppass_calls HP.out (by rw [HN.out]; exact htl) (by rw [HN.out]; exact hn4))
        rw [HC.out] at HPASS
        unfold cfgCells at HPASS
        clear hR2 q1 q2
        go_wp2_with fail
        refine HCAN.out.mono ?_
        rintro e w1 ⟨rfl, hw⟩
        replace hw := hw.symm
        subst hw
        go_wp2_with fail
        refine HPASS.out.mono ?_
        rintro e w2 ⟨rfl, hp2, hc2⟩
        have HP2 := hid hp2
        have HC2 := hid hc2
        have HB2 := hid (hc2.keeps HB.out (by intro e; have := HF.out g HP.out.own.1; omega))
        clear hp2 hc2 hx0 hx1 hx2 hx3 hx4 hx5 hx6 hx7 hx8 hx9 k11 hlk
        go_wp2_with fail
        go_roundw
        case rel => exact ⟨j + 1, mj.passes, by omega, by go_num, by rw [show n - (j + 1) = k by omega]; exact HR2.out, HQ1.out, HL.out, HC.out, HN.out, HP2.out, HCH.out.trans' (HC2.out.mono (by rintro k _ rfl; exact HP.out.own.1)), HB2.out⟩
        case measure => simp [intOf]; omega
    · have hR2 := HR.out
      rw [show n - j = 0 by omega] at hR2
      have HR2 : Hid ((mj, 0, noB) = R) := hR2
      clear hR2
      go_wp2
      go_ret2
      have e := HR2.out
      subst e
      exact ⟨rfl, HP.out, HCH.out⟩
set_option maxHeartbeats 1000000 in
set_option maxRecDepth 100000 in
/-- Make -/
theorem pmake_calls (k i : Nat) (p : ByteArray) (w : World) (hk : k < 256) (hi : i < 256) (hp : p.size < 256) :
    Calls Try.prog 54 #[.int .i64 k, .int .i64 i, .string p] w fun e w' => e = .returned (.string (frameB k i p)) ∧ Below w.heap.size w w' := by
  have HH := hid (fun W => header3_calls k i p.size W hk hi hp)
  have h1 : ((k : Int) % 256) = (k : Int) := by omega
  have h2 : ((i : Int) % 256) = (i : Int) := by omega
  have h3 : ((p.size : Int) % 256) = (p.size : Int) := by omega
  have HF : Hid (hdr k i p.size ++ p = frameB k i p) := rfl
  go_enter Try.func54, Try.ntmps54
  go_wp2_with fail
  refine (HH.out _).mono ?_
  rintro e w1 ⟨rfl, hb⟩
  have HB := hid hb
  have hz : (hdr k i p.size).size = 4 := hdr_size k i p.size
  clear hb
  generalize hdr k i p.size = hh at *
  go_wp2
  go_ret
  exact ⟨by rw [HF.out]; rfl, HB.out⟩
theorem Mod.lookE_small (k : Nat) : ∀ m : Mod, m.ss.length ≤ 4 → m.turn < m.ss.length → (m.lookE k).2.1 < 4 ∨ (m.lookE k).2.1 = 0 := by
  induction k with
  | zero => intro m _ _; exact .inr rfl
  | succ k ih =>
    intro m h4 ht
    rw [Mod.lookE]
    split
    · refine ih m.passes h4 ?_
      show (if m.turn + 1 = m.ss.length then 0 else m.turn + 1) < m.ss.length
      split <;> omega
    · exact .inl (by show m.turn < 4; omega)
theorem cutN_le' (s : Stm) (c : Nat) : s.cutN c ≤ c := by unfold Stm.cutN; omega
theorem passes_c (m : Mod) : m.passes.c = m.c := rfl
theorem Mod.lookE_bytes (k : Nat) : ∀ m : Mod, (m.lookE k).2.2.size ≤ m.c.chunk := by
  induction k with
  | zero => intro m; show noB.size ≤ _; rw [noB_size]; exact Nat.zero_le _
  | succ k ih =>
    intro m
    rw [Mod.lookE]
    split
    · exact ih m.passes
    · show m.begin.cutB.size ≤ _
      unfold Mod.cutB
      rw [ex_size]
      have := cutN_le' (m.begin.at m.begin.turn) m.begin.c.chunk
      rw [(begin_c m).1] at this ⊢
      omega
theorem cutE_c (m : Mod) : m.cutE.c = m.c := by
  unfold Mod.cutE
  simp only
  split <;> rfl
theorem Mod.lookE_c (k : Nat) : ∀ m : Mod, (m.lookE k).1.c = m.c := by
  induction k with
  | zero => intro m; rfl
  | succ k ih =>
    intro m
    rw [Mod.lookE]
    split
    · exact ih m.passes
    · show m.begin.cutE.c = m.c
      rw [cutE_c, (begin_c m).1]
/-- the bytes of the next Data frame; none, if no stream can send -/
def Mod.dataB (m : Mod) : ByteArray := if (m.lookE m.ss.length).2.2.size = 0 then noB else frameB 1 (m.lookE m.ss.length).2.1 (m.lookE m.ss.length).2.2
def DataPost (w : World) (F : Nat → Prop) (g : Nat) (m1 : Mod) (lab : Nat → Nat) (gm : Nat) (vW vC : Value) (bs : List Nat) (b : ByteArray) (e : Ending) (w' : World) : Prop :=
  e = .returned (.string b) ∧ PEndWith w' F g m1 lab gm vW vC bs ∧ Chg F w w'
set_option maxHeartbeats 2000000 in
set_option maxRecDepth 100000 in
/-- data -/
theorem pdata_calls {w : World} {F : Nat → Prop} {g : Nat} {m : Mod} {lab : Nat → Nat} {gm : Nat} {vW vC : Value} {bs : List Nat} (h : PEndWith w F g m lab gm vW vC bs) (hi : m.Inv) (hl : m.died = 0) :
    Calls Try.prog 31 #[ptrV g] w fun e w' => DataPost w F g (m.lookE m.ss.length).1 lab gm vW vC bs m.dataB e w' := by
  have HCH : Hid (∀ W, PEndWith W F g m lab gm vW vC bs → Calls Try.prog 53 #[.pointer (some ⟨g, 11, none⟩), .agg #[.int .i64 m.c.n, .int .i64 m.c.w0, .int .i64 m.c.w1, .int .i64 m.c.w2, .int .i64 m.c.w3, .int .i64 m.c.quantum, .int .i64 m.c.chunk, .int .i64 m.c.window, .int .i64 m.c.queue, .int .i64 m.c.patience], .map (some gm)] W fun e w' => ChoosePost W F g (m.lookE m.ss.length) lab gm vW vC bs e w') := by
    intro W hW
    refine (pchoose' hW.old hi hl (fun k hk => hk.2)).mono ?_
    rintro e w' ⟨rfl, hp, hc⟩
    exact ⟨rfl, hp.monoF (fun _ _ e => e.1), hc.mono (fun _ _ e => e.1)⟩
  have hsm := Mod.lookE_small m.ss.length m (by rw [hi.len]; exact hi.c.n4) (by rw [hi.len]; exact hi.turn)
  have hby := Mod.lookE_bytes m.ss.length m
  have hck := hi.c.c8
  have hRc := Mod.lookE_c m.ss.length m
  have HD : Hid (m.dataB = if (m.lookE m.ss.length).2.2.size = 0 then noB else frameB 1 (m.lookE m.ss.length).2.1 (m.lookE m.ss.length).2.2) := rfl
  obtain ⟨D, hD⟩ : ∃ D, m.dataB = D := ⟨_, rfl⟩
  rw [hD] at HD ⊢
  generalize m.lookE m.ss.length = R at *
  obtain ⟨m1, nn, bb⟩ := R
  simp only at hsm hby hRc HD
  have hn4 : nn < 256 := by omega
  have hb8 : bb.size < 256 := by omega
  have H := hid h
  obtain ⟨k0, k1, k2, k3, k4, k5, k6, k7, k8, k9, k10, krest⟩ := pe_cells h.obj
  clear krest
  have k15 := (pe_cells h.obj).2.2.2.2.2.2.2.2.2.2.2.2.2.2.2.2
  rw [hl] at k15
  have HRC := hid hRc
  have HW : Hid (∀ q, PEndWith (w.drewN q) F g m lab gm vW vC bs) := fun q => h.keeps (G := fun _ => False) ((Chg.refl _ w).drewN q) (fun _ _ => id)
  have HW1 : Hid (PEndWith w.drew F g m lab gm vW vC bs) := h.keeps (G := fun _ => False) ((Chg.refl _ w).drew) (fun _ _ => id)
  clear h hi hl hsm hby hck hD hRc
  unfold ptrV
  go_enter Try.func31, Try.ntmps31
  go_wp2

  go_region_held3 (fun w' => w'.cell? ⟨g, 0, none⟩ = some (.int .i64 m.c.n) ∧ w'.cell? ⟨g, 1, none⟩ = some (.int .i64 m.c.w0) ∧ w'.cell? ⟨g, 2, none⟩ = some (.int .i64 m.c.w1) ∧ w'.cell? ⟨g, 3, none⟩ = some (.int .i64 m.c.w2) ∧ w'.cell? ⟨g, 4, none⟩ = some (.int .i64 m.c.w3) ∧
      w'.cell? ⟨g, 5, none⟩ = some (.int .i64 m.c.quantum) ∧ w'.cell? ⟨g, 6, none⟩ = some (.int .i64 m.c.chunk) ∧ w'.cell? ⟨g, 7, none⟩ = some (.int .i64 m.c.window) ∧ w'.cell? ⟨g, 8, none⟩ = some (.int .i64 m.c.queue) ∧ w'.cell? ⟨g, 9, none⟩ = some (.int .i64 m.c.patience) ∧ w'.cell? ⟨g, 10, none⟩ = some (.map (some gm)))
    (first
      | (go_keep; done)
      | exact ⟨s0, s1, s2, s3, s4, s5, s6, s7, s8, s9, s10⟩)
    (first
      | (go_at_call 53
         refine (HCH.out _ HW1.out).mono ?_
         rintro e w2 ⟨rfl, hp2, hc2⟩
         obtain ⟨s0, s1, s2, s3, s4, s5, s6, s7, s8, s9, s10, _⟩ := pe_cells hp2.obj
         rw [HRC.out] at s0 s1 s2 s3 s4 s5 s6 s7 s8 s9))
  have HP2 := hid hp2
  have HC2 : Hid (Chg F w w2) := (Chg.refl F w).drew.trans' hc2
  clear hp2 hc2 s0 s1 s2 s3 s4 s5 s6 s7 s8 s9 s10
  by_cases hz : bb.size = 0
  · obtain rfl := ba_zero hz
    have hD := HD.out
    rw [if_pos hz] at hD
    subst hD
    go_wp2
    go_ret
    exact ⟨rfl, HP2.out, HC2.out⟩
  · have hD := HD.out
    rw [if_neg hz] at hD
    have HD2 := hid hD
    have hne := not_empty bb (by omega)
    have HMK := hid (fun W => pmake_calls 1 nn bb W (by omega) hn4 hb8)
    clear hD HD
    go_wp2_with fail
    refine (HMK.out _).mono ?_
    rintro e w3 ⟨rfl, hb3⟩
    have HB3 := hid hb3
    clear hb3
    go_wp2_with fail
    go_ret
    rw [HD2.out]
    exact ⟨rfl, HP2.out.below HB3.out, HC2.out.trans' (Chg.of_below HB3.out)⟩
end Go.Proofs.Ytnclmbolfpojoaa
