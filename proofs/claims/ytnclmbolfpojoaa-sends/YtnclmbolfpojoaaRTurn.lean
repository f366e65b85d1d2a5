/-
  The reference's turns: which frame is next, and what it leaves of an end.
-/
import Derived.Test.YtnclmbolfpojoaaRSend
import Derived.Deep.DeepCutAuto
namespace Go.Proofs.Ytnclmbolfpojoaa
open Go.RowKit
attribute [local go_sem ↓] Go.wp_at_zero Go.wp_at_succ
theorem RStmWith.keeps {w w1 : World} {F G : Nat → Prop} {b wt : Nat} {s : Stm} {vm : Value} {msgs : List ByteArray} {fr : Nat} (h : RStmWith w F b wt s vm msgs fr) (hc : Chg G w w1) (hn : ∀ k, F k → ¬ G k) : RStmWith w1 F b wt s vm msgs fr :=
  ⟨h.1, hc.keeps h.2.1 (hn _ h.1), h.2.2.1.keeps hc (fun k _ _ hk _ => hn k hk), h.2.2.2⟩
/-- a stream's own block has turned, and which row is its queue -/
theorem RStmWith.turned {w w1 : World} {F : Nat → Prop} {b wt : Nat} {s s1 : Stm} {vm vm1 : Value} {msgs msgs1 : List ByteArray} {fr fr1 : Nat} (h : RStmWith w F b wt s vm msgs fr) (hc : Chg (fun k => k = b) w w1)
    (ho : w1.heap[b]? = some (.cells (rsCells wt vm1 fr1 s1) 139 (0, 0))) (hq : QRow w F 9 vm1 (msgs1.map Value.string)) (hf : Framed msgs1 fr1 s1.queue) : RStmWith w1 F b wt s1 vm1 msgs1 fr1 :=
  ⟨h.1, ho, hq.keeps hc (by rintro k cur fz _ hk rfl; rw [h.2.1] at hk; simp at hk), hf⟩
set_option maxHeartbeats 4000000 in
set_option maxRecDepth 100000 in
/-- framed: a Data frame of the stream whose turn it is -/
theorem rframed_calls {w : World} {F : Nat → Prop} {g : Nat} {m : Mod} {lab : Nat → Nat} {vS vC : Value} {bs : List Nat} (h : REndWith w F g m lab vS vC bs) (hn : m.ss.length ≤ 4) (ht : m.turn < m.ss.length) (hs : (m.at m.turn).Small) (hq : (m.at m.turn).queue ≠ [])
    (hk : m.c.chunk ≤ 8) (hsh : m.c.quantum ≤ 8) (hwt : m.c.weight m.turn ≤ 4) (hsh1 : 1 ≤ m.c.quantum) (hwt1 : 1 ≤ m.c.weight m.turn) :
    Calls Try.prog 112 #[ptrV g, ptrV (bs.getD m.turn 0)] w fun e w' => e = .returned (.tuple #[]) ∧ RPost w F g m.framed w' := by
  obtain ⟨t, ht'⟩ : ∃ t, m.turn = t := ⟨_, rfl⟩
  obtain ⟨b, hb⟩ : ∃ b, bs.getD m.turn 0 = b := ⟨_, rfl⟩
  have hjb : m.turn < bs.length := by rw [h.len]; exact ht
  obtain ⟨vm, msgs, fr, hsw⟩ := h.stm m.turn hjb
  rw [hb] at hsw
  rw [hb]
  have H : Hid (REndWith w F g m lab vS vC bs) := h
  have HS : Hid (RStmWith w (Lab F lab (m.turn + 2)) b (m.c.weight m.turn) (m.at m.turn) vm msgs fr) := hsw
  have HBJ : Hid (bs.getD m.turn 0 = b) := hb
  obtain ⟨s, hse⟩ : ∃ s, m.at m.turn = s := ⟨_, rfl⟩
  obtain ⟨mm, rr, rfl⟩ : ∃ mm rr, msgs = mm :: rr := by
    cases msgs with
    | nil => obtain ⟨_, e⟩ := hsw.2.2.2; exact absurd e hq
    | cons a r => exact ⟨a, r, rfl⟩
  obtain ⟨f1, f2, f3, f4⟩ := hsw.2.2.2
  obtain ⟨gm, om, cm, rfl, _, hgm, _, _, _, hcm⟩ := hsw.2.2.1.at (by simp)
  have cm0 := hcm 0 (.string mm) rfl
  rw [List.length_map, Nat.add_zero] at *
  obtain ⟨s0, s1, s2, s3, s4, -⟩ := rs_cells hsw.2.1
  obtain ⟨c5, c6, -, -, -, -, -, c12, -, -, c15, -⟩ := re_cells h.obj
  have hzb := unfrozen hsw.2.1
  have hzg := unfrozen h.obj
  obtain ⟨hs1, hs2, hs3, hs4⟩ := hs
  rw [hse] at s3 s4 hs1 hs2
  obtain ⟨n1, hn1⟩ : ∃ n1, min (mm.size - fr) m.c.chunk = n1 := ⟨_, rfl⟩
  obtain ⟨n2, hn2⟩ : ∃ n2, min n1 s.credit = n2 := ⟨_, rfl⟩
  obtain ⟨n, hn3⟩ : ∃ n, min n2 s.deficit = n := ⟨_, rfl⟩
  have HN1 : Hid (min (mm.size - fr) m.c.chunk = n1) := hn1
  have HN2 : Hid (min n1 s.credit = n2) := hn2
  have HN3 : Hid (min n2 s.deficit = n) := hn3
  have l1 : n1 ≤ mm.size - fr := by omega
  have l2 : n2 ≤ n1 := by omega
  have l3 : n ≤ n2 := by omega
  have l4 : n1 ≤ 8 := by omega
  have l5 : n ≤ s.credit := by omega
  have l6 : n ≤ s.deficit := by omega
  have HF : Hid ((m.at m.turn).queue = mm.extract fr mm.size :: rr) := f3
  have HF4 : Hid (∀ x ∈ rr, 0 < x.size ∧ x.size ≤ 1000) := f4
  have HSE : Hid (m.at m.turn = s) := hse
  have HT : Hid (m.turn = t) := ht'
  have ht4 : m.turn < 256 := by omega
  have htt : m.turn ≤ 4 := by omega
  clear hn1 hn2 hn3 f3 f4 hse ht' hq hcm hsw h hb
  unfold ptrV
  go_enter Try.func112, Try.ntmps112
  go_upto_if 26 with (fail)
  go_cut [5] (fun s5 wx => s5 = .int .i64 n1 ∧ w = wx)
  case first =>
    go_wp2
    all_goals go_meet
    all_goals exact ⟨int_val (by have := HN1.out; omega), rfl⟩
  case rest =>
    obtain ⟨rfl, rfl⟩ := hcut
    go_upto_if 37 with (fail)
    go_cut [5] (fun s5 wx => s5 = .int .i64 n2 ∧ w = wx)
    case first =>
      go_wp2
      all_goals go_meet
      all_goals exact ⟨int_val (by have := HN2.out; omega), rfl⟩
    case rest =>
      obtain ⟨rfl, rfl⟩ := hcut
      go_upto_if 47 with (fail)
      go_cut [5] (fun s5 wx => s5 = .int .i64 n ∧ w = wx)
      case first =>
        go_wp2
        all_goals go_meet
        all_goals exact ⟨int_val (by have := HN3.out; omega), rfl⟩
      case rest =>
        obtain ⟨rfl, rfl⟩ := hcut
        have i0 : (0 : Int) ≤ (fr : Int) := by omega
        have i1 : (fr : Int) ≤ (fr : Int) + (n : Int) := by omega
        have i2 : (fr : Int) + (n : Int) ≤ (mm.size : Int) := by omega
        have hglt : g < w.heap.size := World.block_lt_of_cell? _ _ c12
        have hblt : b < w.heap.size := World.block_lt_of_cell? _ _ s2
        obtain ⟨pl, hpl⟩ : ∃ pl, mm.extract fr ((fr : Int) + (n : Int)).toNat = pl := ⟨_, rfl⟩
        have hpl' : mm.extract fr (fr + n) = pl := by rw [← hpl]; congr 1
        have HPL : Hid (mm.extract fr (fr + n) = pl) := hpl'
        have hpl2 : pl.size = n := by rw [← hpl', ex_size]; omega
        have hpl8 : pl.size < 256 := by omega
        have HPLX : Hid (mm.extract fr ((fr : Int) + (n : Int)).toNat = pl) := hpl
        have hwr : IntKind.i64.wrap ((fr : Int) + (n : Int)) = (fr : Int) + (n : Int) := by simp [IntKind.wrap, IntKind.signed, IntKind.bits]; omega
        clear hpl2 hpl hpl'
        have hbg : b ≠ g := by
          rintro rfl
          have := HS.out.2.1
          rw [H.out.obj] at this
          simp at this
        go_wp2_with fail
        go_cut [] (fun wx => REndWith wx F g { m with now := frameB 1 m.turn pl } lab vS vC bs ∧ RStmWith wx (Lab F lab (m.turn + 2)) b (m.c.weight m.turn) (m.at m.turn) (.slice (some ⟨gm, om, none⟩) (mm :: rr).length cm) (mm :: rr) fr ∧ Chg F w wx)
        case first =>
          go_region_held3 (fun w' => w'.cell? ⟨g, 12, none⟩ = some (.int .i64 m.turn) ∧ w'.cell? ⟨b, 2, none⟩ = some (.int .i64 fr) ∧ w'.frozen? ⟨g, 15, none⟩ = false)
            (first
              | (go_keep; done)
              | exact ⟨(World.cell?_setCell_other _ _ _ _ (by simp)).trans e12, (World.cell?_setCell_other _ _ _ _ (by simp)).trans e2, (World.frozen?_setCell _ _ _ _).trans ef⟩
              | exact ⟨(hb2.cell (p := ⟨g, 12, none⟩) hglt).trans c12, (hb2.cell (p := ⟨b, 2, none⟩) hblt).trans s2, (World.frozen?_of_block (a := ⟨g, 15, none⟩) (hb2.block g hglt)).trans (hzg 15)⟩)
            (first
              | (go_at_call 95
                 rw [HPLX.out]
                 refine (rframe_calls 1 m.turn pl _ (by omega) ht4 hpl8).mono ?_
                 rintro e w2 ⟨rfl, hb2⟩
                 have d15 := (hb2.cell (p := ⟨g, 15, none⟩) hglt).trans c15
                 have e12 := (hb2.cell (p := ⟨g, 12, none⟩) hglt).trans c12
                 have e2 := (hb2.cell (p := ⟨b, 2, none⟩) hblt).trans s2
                 have ef := (World.frozen?_of_block (a := ⟨g, 15, none⟩) (hb2.block g hglt)).trans (hzg 15)))
          go_wp2_with fail
          go_meet
          have hb3 : Below w.heap.size w w2 := ⟨hb2.os, hb2.tape, hb2.output, hb2.size, hb2.block⟩
          have h2 := H.out.bel hb3
          have hc2 : Chg (fun k => k = g) w2 (w2.setCell ⟨g, 15, none⟩ (.string (frameB 1 m.turn pl))) := Chg.setCell w2 ⟨g, 15, none⟩ _ rfl
          refine ⟨h2.setObj { m with now := frameB 1 m.turn pl } hc2 ?_ rfl rfl rfl, ?_, ?_⟩
          · simp [World.setCell, Array.getElem?_modify, h2.obj, reCells]
          · exact (HS.out.keeps (G := fun _ => False) (.of_below hb3) (fun _ _ => id)).keeps hc2 (by rintro k hk rfl; exact H.out.own.ne (by omega) hk)
          · exact (Chg.of_below hb3).trans' (hc2.mono (by rintro k _ rfl; exact H.out.own.1))
        case rest =>
          clear c5 c6 c12 c15 s0 s1 s2 s3 s4 hzb hzg hglt hblt cm0 hgm
          generalize wc = w1 at *
          obtain ⟨r1, r2, r3⟩ := hcut
          obtain ⟨s0, s1, s2, s3, s4, -⟩ := rs_cells r2.2.1
          have c5 := (re_cells r1.obj).1
          have hzb := unfrozen r2.2.1
          rw [HSE.out] at s3 s4
          rw [List.length_cons] at s1
          have R1 : Hid (REndWith w1 F g { m with now := frameB 1 m.turn pl } lab vS vC bs) := r1
          have R2 : Hid (RStmWith w1 (Lab F lab (m.turn + 2)) b (m.c.weight m.turn) (m.at m.turn) (.slice (some ⟨gm, om, none⟩) (mm :: rr).length cm) (mm :: rr) fr) := r2
          have R3 : Hid (Chg F w w1) := r3
          clear r1 r2 r3
          have hcm : rr.length + 1 ≤ cm := by
            rcases R2.out.2.2.1 with ⟨e, _⟩ | ⟨g', o', c', cur, e, _, _, e1, _⟩
            · simp at e
            · simp at e e1
              omega
          have hcr : ((s.credit : Int) - (n : Int)) = ((s.credit - n : Nat) : Int) := by omega
          have hde : ((s.deficit : Int) - (n : Int)) = ((s.deficit - n : Nat) : Int) := by omega
          have hfn : ((fr : Int) + (n : Int)) = ((fr + n : Nat) : Int) := by omega
          have HCR : Hid (((s.credit : Int) - (n : Int)) = ((s.credit - n : Nat) : Int)) := hcr
          have HDE : Hid (((s.deficit : Int) - (n : Int)) = ((s.deficit - n : Nat) : Int)) := hde
          have HFN : Hid (((fr : Int) + (n : Int)) = ((fr + n : Nat) : Int)) := hfn
          clear hcr hde hfn hwr
          go_upto_if 105 with (fail)
          go_cut [] (fun wx => RStm wx (Lab F lab (m.turn + 2)) b (m.c.weight m.turn) { s with queue := s.cutQ n, credit := s.credit - n, deficit := s.deficit - n } ∧ Chg (fun k => k = b) w1 wx)
          case first =>
            by_cases hend : fr + n = mm.size
            · have e1 : ((fr : Int) + (n : Int) == (mm.size : Int)) = true := by rw [beq_iff_eq]; omega
              have HEND : Hid (fr + n = mm.size) := hend
              have HTL : Hid (QRow w1 (Lab F lab (m.turn + 2)) 9 (.slice (if cm = 1 then some ⟨gm, om, none⟩ else some ⟨gm, om + 1, none⟩) rr.length (cm - 1)) (rr.map Value.string)) := by
                have := R2.out.2.2.1.tail'
                rw [List.length_map] at this
                exact this
              clear hend
              by_cases hc1 : cm = 1
              · subst hc1
                have hrr : rr = [] := List.eq_nil_of_length_eq_zero (by omega)
                subst hrr
                go_wp2_with fail
                go_meet
                exact ⟨⟨_, [], 0, R2.out.turned ⟨rfl, rfl, rfl, by simp [World.setCell], fun k _ hk => by simp [World.setCell, Array.getElem?_modify, Ne.symm hk]⟩ (by simp [World.setCell, Array.getElem?_modify, R2.out.2.1, rsCells, HSE.out, HCR.out, HDE.out]; try rfl) HTL.out (by show Framed [] 0 (s.cutQ n); rw [cutQ_end (by rw [← HSE.out]; exact HF.out) HEND.out]; exact framed_end HF4.out)⟩, ⟨rfl, rfl, rfl, by simp [World.setCell], fun k _ hk => by simp [World.setCell, Array.getElem?_modify, Ne.symm hk]⟩⟩
              · have htl := HTL.out
                rw [if_neg hc1] at htl
                have HTL2 : Hid (QRow w1 (Lab F lab (m.turn + 2)) 9 (.slice (some ⟨gm, om + 1, none⟩) rr.length (cm - 1)) (rr.map Value.string)) := htl
                clear htl
                go_wp2_with fail
                go_meet
                exact ⟨⟨_, rr, 0, R2.out.turned ⟨rfl, rfl, rfl, by simp [World.setCell], fun k _ hk => by simp [World.setCell, Array.getElem?_modify, Ne.symm hk]⟩ (by simp [World.setCell, Array.getElem?_modify, R2.out.2.1, rsCells, HSE.out, HCR.out, HDE.out]; try rfl) HTL2.out (by show Framed rr 0 (s.cutQ n); rw [cutQ_end (by rw [← HSE.out]; exact HF.out) HEND.out]; exact framed_end HF4.out)⟩, ⟨rfl, rfl, rfl, by simp [World.setCell], fun k _ hk => by simp [World.setCell, Array.getElem?_modify, Ne.symm hk]⟩⟩
            · have e1 : ((fr : Int) + (n : Int) == (mm.size : Int)) = false := by rw [beq_eq_false_iff_ne]; omega
              go_wp2_with fail
              go_meet
              refine ⟨⟨_, mm :: rr, fr + n, R2.out.turned ⟨rfl, rfl, rfl, by simp [World.setCell], fun k _ hk => by simp [World.setCell, Array.getElem?_modify, Ne.symm hk]⟩ (by simp [World.setCell, Array.getElem?_modify, R2.out.2.1, rsCells, HSE.out, HCR.out, HDE.out]; try rfl) R2.out.2.2.1 ?_⟩, ⟨rfl, rfl, rfl, by simp [World.setCell], fun k _ hk => by simp [World.setCell, Array.getElem?_modify, Ne.symm hk]⟩⟩
              show Framed (mm :: rr) (fr + n) (s.cutQ n)
              rw [cutQ_mid (by rw [← HSE.out]; exact HF.out) (by omega)]
              exact ⟨by omega, f2, rfl, HF4.out⟩
          case rest =>
            obtain ⟨⟨vm2, msgs2, fr2, r6⟩, r5⟩ := hcut
            have hlen2 : (msgs2.length = 0) ↔ s.cutQ n = [] := by
              have := r6.2.2.2
              cases msgs2 with
              | nil => exact ⟨fun _ => this.2, fun _ => rfl⟩
              | cons a r => obtain ⟨_, _, e, _⟩ := this; simp only at e; simp [e]
            have HL2 : Hid ((msgs2.length = 0) ↔ s.cutQ n = []) := hlen2
            have hmx := r6.2.2.1.len
            obtain ⟨a2, c2, rfl⟩ := r6.2.2.1.slice
            obtain ⟨t0, t1, t2, t3, t4, -⟩ := rs_cells r6.2.1
            have hzb2 := unfrozen r6.2.1
            rw [List.length_map] at t1 hmx
            unfold maxLen at hmx
            have c5b : wc.cell? ⟨g, 5, none⟩ = some (.int .i64 m.c.quantum) := r5.cell (a := ⟨g, 5, none⟩) (Ne.symm hbg) c5
            obtain ⟨sh, hshe⟩ : ∃ sh, m.c.quantum * m.c.weight m.turn = sh := ⟨_, rfl⟩
            have hmul : (m.c.quantum : Int) * (m.c.weight m.turn : Int) = (sh : Int) := by rw [← hshe]; simp
            have hsh1' : 1 ≤ sh := by rw [← hshe]; exact Nat.mul_le_mul hsh1 hwt1
            have hsh32 : sh ≤ 32 := by rw [← hshe]; exact Nat.mul_le_mul hsh hwt
            have hfin : ∀ (wd : World) (d : Nat), d = s.cutD n sh → wd.heap[b]? = some (.cells (rsCells (m.c.weight m.turn) (.slice a2 (msgs2.map Value.string).length c2) fr2 { s with queue := s.cutQ n, credit := s.credit - n, deficit := d }) 139 (0, 0)) → Chg (fun k => k = b) wc wd →
                REnd wd F g (({ m with now := frameB 1 m.turn pl } : Mod).upd m.turn (s.cut n sh)) ∧ Chg F w wd := by
              rintro wd d rfl ho hcd
              have h1 := r6.turned (s1 := s.cut n sh) hcd ho r6.2.2.1 r6.2.2.2
              have h2 : Chg (fun k => k = b) w1 wd := r5.trans' hcd
              refine ⟨⟨lab, vS, vC, bs, R1.out.setStm m.turn hjb _ (h2.mono (by rintro k _ rfl; exact R2.out.1)) (by rw [HBJ.out]; exact ⟨_, _, _, h1⟩)⟩, R3.out.trans' (h2.mono (by rintro k _ rfl; exact R2.out.1.1))⟩
            have HFIN : Hid (∀ (wd : World) (d : Nat), d = s.cutD n sh → wd.heap[b]? = some (.cells (rsCells (m.c.weight m.turn) (.slice a2 (msgs2.map Value.string).length c2) fr2 { s with queue := s.cutQ n, credit := s.credit - n, deficit := d }) 139 (0, 0)) → Chg (fun k => k = b) wc wd →
                REnd wd F g (({ m with now := frameB 1 m.turn pl } : Mod).upd m.turn (s.cut n sh)) ∧ Chg F w wd) := hfin
            have HFR : Hid (m.framed = if (s.cut n sh).over then (({ m with now := frameB 1 m.turn pl } : Mod).upd m.turn (s.cut n sh)).passes else ({ m with now := frameB 1 m.turn pl } : Mod).upd m.turn (s.cut n sh)) := by
              have := framed_pure (n := n) HSE.out (by rw [← HSE.out]; exact HF.out) f1 (by rw [HN1.out, HN2.out, HN3.out]) HPL.out
              rw [show m.share = sh from hshe] at this
              exact this
            have HO6 : Hid (wc.heap[b]? = some (.cells (rsCells (m.c.weight m.turn) (.slice a2 (msgs2.map Value.string).length c2) fr2 { s with queue := s.cutQ n, credit := s.credit - n, deficit := s.deficit - n }) 139 (0, 0))) := r6.2.1
            obtain ⟨cr, hcr⟩ : ∃ cr, s.credit - n = cr := ⟨_, rfl⟩
            obtain ⟨de, hde⟩ : ∃ de, s.deficit - n = de := ⟨_, rfl⟩
            simp only [hcr, hde] at t3 t4
            have HCR2 : Hid (s.credit - n = cr) := hcr
            have HDE2 : Hid (s.deficit - n = de) := hde
            have hcr9 : cr ≤ 1000 := by omega
            have hde9 : de ≤ 1000 := by omega
            clear hcr hde hfin hlen2 r6 r5 c5 s0 s1 s2 s3 s4 hzb hshe hcm
            have hpass : ∀ (wd : World) (d : Nat), d = s.cutD n sh → (s.cut n sh).over = true → wd.heap[b]? = some (.cells (rsCells (m.c.weight m.turn) (.slice a2 (msgs2.map Value.string).length c2) fr2 { s with queue := s.cutQ n, credit := s.credit - n, deficit := d }) 139 (0, 0)) → Chg (fun k => k = b) wc wd →
                Calls Try.prog 111 #[ptrV g] wd fun e w' => e = .returned (.tuple #[]) ∧ RPost w F g m.framed w' := by
              intro wd d hd ho1 ho2 hcd
              obtain ⟨k1, k2⟩ := HFIN.out wd d hd ho2 hcd
              refine (rpasses_calls k1 (by simpa [Mod.upd] using htt)).mono ?_
              rintro e w' ⟨rfl, j1, j2⟩
              refine ⟨rfl, ?_⟩
              rw [HFR.out, if_pos ho1]
              exact ⟨j1.mono (fun _ _ e => Or.inl e), k2.trans' (j2.mono (by rintro k _ rfl; exact H.out.own.1))⟩
            have HPASS : Hid (∀ (wd : World) (d : Nat), d = s.cutD n sh → (s.cut n sh).over = true → wd.heap[b]? = some (.cells (rsCells (m.c.weight m.turn) (.slice a2 (msgs2.map Value.string).length c2) fr2 { s with queue := s.cutQ n, credit := s.credit - n, deficit := d }) 139 (0, 0)) → Chg (fun k => k = b) wc wd →
                Calls Try.prog 111 #[ptrV g] wd fun e w' => e = .returned (.tuple #[]) ∧ RPost w F g m.framed w') := hpass
            clear hpass
            by_cases hem : s.cutQ n = []
            · have em1 : ((msgs2.length : Int) == 0) = true := by rw [beq_iff_eq]; have := HL2.out.2 hem; omega
              have HEM : Hid (s.cutQ n = []) := hem
              clear hem
              by_cases hc0 : cr = 0
              · subst hc0
                go_wp2_with fail
                go_quiet (fail)
                go_wp2_with fail
                refine Calls.mono (HPASS.out _ 0 ?_ ?_ ?_ ?_) ?_
                · unfold Stm.cutD; rw [if_pos HEM.out]
                · simp [Stm.over, Stm.cut, HEM.out]
                · simp [World.setCell, World.drewN, Array.getElem?_modify, HO6.out, rsCells, HCR2.out, HDE2.out]
                · exact ⟨rfl, rfl, rfl, by simp [World.setCell, World.drewN], fun k _ hk => by simp [World.setCell, World.drewN, Array.getElem?_modify, Ne.symm hk]⟩
                rintro e w' ⟨rfl, hp⟩
                go_wp2_with fail
                go_end0
                exact ⟨rfl, hp⟩
              · have cz1 : ((cr : Int) == 0) = false := by rw [beq_eq_false_iff_ne]; omega
                go_wp2_with fail
                go_quiet (fail)
                go_wp2_with fail
                refine Calls.mono (HPASS.out _ 0 ?_ ?_ ?_ ?_) ?_
                · unfold Stm.cutD; rw [if_pos HEM.out]
                · simp [Stm.over, Stm.cut, HEM.out]
                · simp [World.setCell, World.drewN, Array.getElem?_modify, HO6.out, rsCells, HCR2.out, HDE2.out]
                · exact ⟨rfl, rfl, rfl, by simp [World.setCell, World.drewN], fun k _ hk => by simp [World.setCell, World.drewN, Array.getElem?_modify, Ne.symm hk]⟩
                rintro e w' ⟨rfl, hp⟩
                go_wp2_with fail
                go_end0
                exact ⟨rfl, hp⟩
            · have em1 : ((msgs2.length : Int) == 0) = false := by rw [beq_eq_false_iff_ne]; have := mt HL2.out.1 hem; omega
              have HEM : Hid (s.cutQ n ≠ []) := hem
              clear hem
              by_cases hc0 : cr = 0
              · subst hc0
                by_cases hds : (sh : Int) < (de : Int)
                · have sz1 : ((sh : Int) == 0) = false := by rw [beq_eq_false_iff_ne]; omega
                  go_wp2_with fail
                  go_quiet (fail)
                  go_wp2_with fail
                  go_big_region
                  go_wp2_with fail
                  refine Calls.mono (HPASS.out _ sh ?_ ?_ ?_ ?_) ?_
                  · unfold Stm.cutD; rw [if_neg HEM.out, HCR2.out, HDE2.out, if_pos ⟨rfl, by omega⟩]
                  · simp [Stm.over, Stm.cut, HCR2.out]
                  · simp [World.setCell, World.drewN, Array.getElem?_modify, HO6.out, rsCells, HCR2.out, HDE2.out]
                  · exact ⟨rfl, rfl, rfl, by simp [World.setCell, World.drewN], fun k _ hk => by simp [World.setCell, World.drewN, Array.getElem?_modify, Ne.symm hk]⟩
                  rintro e w' ⟨rfl, hp⟩
                  go_wp2_with fail
                  go_end0
                  exact ⟨rfl, hp⟩
                · go_wp2_with fail
                  go_quiet (fail)
                  by_cases hd0 : de = 0
                  · subst hd0
                    go_wp2_with fail
                    refine Calls.mono (HPASS.out _ 0 ?_ ?_ ?_ ?_) ?_
                    · unfold Stm.cutD; rw [if_neg HEM.out, HCR2.out, HDE2.out, if_neg (by omega)]
                    · simp [Stm.over, Stm.cut, HCR2.out]
                    · have := HO6.out; rw [HDE2.out] at this; exact this
                    · exact ⟨rfl, rfl, rfl, Nat.le_refl _, fun _ _ _ => rfl⟩
                    rintro e w' ⟨rfl, hp⟩
                    go_wp2_with fail
                    go_end0
                    exact ⟨rfl, hp⟩
                  · have dz1 : ((de : Int) == 0) = false := by rw [beq_eq_false_iff_ne]; omega
                    go_wp2_with fail
                    refine Calls.mono (HPASS.out _ de ?_ ?_ ?_ ?_) ?_
                    · unfold Stm.cutD; rw [if_neg HEM.out, HCR2.out, HDE2.out, if_neg (by omega)]
                    · simp [Stm.over, Stm.cut, HCR2.out]
                    · have := HO6.out; rw [HDE2.out] at this; exact this
                    · exact ⟨rfl, rfl, rfl, Nat.le_refl _, fun _ _ _ => rfl⟩
                    rintro e w' ⟨rfl, hp⟩
                    go_wp2_with fail
                    go_end0
                    exact ⟨rfl, hp⟩
              · have cz1 : ((cr : Int) == 0) = false := by rw [beq_eq_false_iff_ne]; omega
                by_cases hd0 : de = 0
                · subst hd0
                  go_wp2_with fail
                  go_quiet (fail)
                  go_wp2_with fail
                  refine Calls.mono (HPASS.out _ 0 ?_ ?_ ?_ ?_) ?_
                  · unfold Stm.cutD; rw [if_neg HEM.out, HCR2.out, HDE2.out, if_neg (by omega)]
                  · simp [Stm.over, Stm.cut, Stm.cutD, HCR2.out, HDE2.out, HEM.out]
                  · have := HO6.out; rw [HDE2.out] at this; exact this
                  · exact ⟨rfl, rfl, rfl, Nat.le_refl _, fun _ _ _ => rfl⟩
                  rintro e w' ⟨rfl, hp⟩
                  go_wp2_with fail
                  go_end0
                  exact ⟨rfl, hp⟩
                · have dz1 : ((de : Int) == 0) = false := by rw [beq_eq_false_iff_ne]; omega
                  go_wp2_with fail
                  go_quiet (fail)
                  go_wp2_with fail
                  go_end0
                  obtain ⟨k1, k2⟩ := HFIN.out (wc.drewN nq) de (by unfold Stm.cutD; rw [if_neg HEM.out, HCR2.out, HDE2.out, if_neg (by omega)]) (by have := HO6.out; rw [HDE2.out] at this; exact this) ⟨rfl, rfl, rfl, Nat.le_refl _, fun _ _ _ => rfl⟩
                  have ho : (s.cut n sh).over = false := by
                    have : s.cutD n sh = de := by unfold Stm.cutD; rw [if_neg HEM.out, HCR2.out, HDE2.out, if_neg (by omega)]
                    simp [Stm.over, Stm.cut, HCR2.out, this, HEM.out, hd0, hc0]
                  refine ⟨rfl, ?_⟩
                  rw [HFR.out, ho]
                  exact ⟨k1.mono (fun _ _ e => Or.inl e), k2⟩
end Go.Proofs.Ytnclmbolfpojoaa
