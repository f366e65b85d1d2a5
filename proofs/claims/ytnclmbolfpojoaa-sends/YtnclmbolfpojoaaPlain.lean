/-
  An end as the document tells it, as plain data, and what follows of it: no program, no memory.
-/
import Derived.Test.YtnclmbolfpojoaaUnp
import Derived.Test.YtnclmbolfpojoaaDiv
namespace Go.Proofs.Ytnclmbolfpojoaa
theorem crc3_bytes (a b c : Nat) (ha : a < 256) (hb : b < 256) (hc : c < 256) : Skein.dvTo [UInt8.ofNat a, UInt8.ofNat b, UInt8.ofNat c] 32 = Skein.crc3 a b c := by
  rw [Skein.dv_three]
  simp only [UInt8.toNat_ofNat', Nat.reducePow]
  rw [Nat.mod_eq_of_lt ha, Nat.mod_eq_of_lt hb, Nat.mod_eq_of_lt hc]
theorem sizes_le' (ss : List ByteArray) (h : ∀ s ∈ ss, s.size ≤ 15) : (flat ss).length ≤ 15 * ss.length := by
  induction ss with
  | nil => simp [flat]
  | cons a r ih =>
    have h1 := ih (fun x hx => h x (by simp [hx]))
    have h2 := h a (by simp)
    have h3 : a.data.toList.length = a.size := by rw [Array.length_toList]; rfl
    show (a.data.toList ++ flat r).length ≤ _
    rw [List.length_append, h3, List.length_cons]
    omega
theorem rpacked_data (ss : List ByteArray) : packL ss = (packed ss).data.toList := rfl
theorem ba_mk_append (l m : List UInt8) : (⟨l.toArray⟩ : ByteArray) ++ ⟨m.toArray⟩ = ⟨(l ++ m).toArray⟩ := by
  apply ba_ext
  simp [ByteArray.data_append]
theorem ba_one (x : UInt8) : (⟨#[x]⟩ : ByteArray) = ⟨[x].toArray⟩ := rfl
/-- what bytes begin with: 0: nothing that is whole, 1: no message, 2: a message -/
def begT (L : List UInt8) (most : Int) : Nat :=
  if L.length = 0 then 0 else if 3 < cnt L then 1 else if (lsOf L).any (fun b => decide (15 < b.toNat)) then 1 else
  if (lsOf L).length < cnt L then 0 else if most < begN L then 1 else
  if L.length < begN L then 0 else 2
def begP (L : List UInt8) : List ByteArray := cut (lsOf L) (L.drop (1 + cnt L))
theorem any_no {l : List UInt8} (h : ∀ b ∈ l, b.toNat ≤ 15) : (l.any (fun b => decide (15 < b.toNat))) = false := by
  rw [List.any_eq_false]
  intro b hb
  have := h b hb
  rw [decide_eq_true_eq]
  omega
theorem begT_empty (m : Int) : begT [] m = 0 := rfl
theorem begT_many {L : List UInt8} (m : Int) (h0 : 0 < L.length) (h : 3 < cnt L) : begT L m = 1 := by
  unfold begT
  rw [if_neg (by omega), if_pos h]
theorem begT_any {L : List UInt8} (m : Int) (h0 : 0 < L.length) (h : ¬ 3 < cnt L) {b : UInt8} (hb : b ∈ lsOf L) (h15 : 15 < b.toNat) : begT L m = 1 := by
  unfold begT
  have : ((lsOf L).any (fun b => decide (15 < b.toNat))) = true := List.any_eq_true.2 ⟨b, hb, decide_eq_true h15⟩
  rw [if_neg (by omega), if_neg h, if_pos this]
theorem begT_short {L : List UInt8} (m : Int) (h0 : 0 < L.length) (h : ¬ 3 < cnt L) (hall : ∀ b ∈ lsOf L, b.toNat ≤ 15) (hs : (lsOf L).length < cnt L) : begT L m = 0 := by
  unfold begT
  rw [if_neg (by omega), if_neg h, any_no hall, if_neg (by decide), if_pos hs]
theorem begT_full {L : List UInt8} (m : Int) (h0 : 0 < L.length) (h : ¬ 3 < cnt L) (hall : ∀ b ∈ lsOf L, b.toNat ≤ 15) (hs : ¬ (lsOf L).length < cnt L) :
    begT L m = if m < begN L then 1 else if L.length < begN L then 0 else 2 := by
  unfold begT
  rw [if_neg (by omega), if_neg h, any_no hall, if_neg (by decide), if_neg hs]
theorem cut_getD (ls : List UInt8) : ∀ (r : List UInt8) (k : Nat), k < ls.length → (cut ls r).getD k ByteArray.empty = ⟨((r.drop (sumB (ls.take k))).take (ls.getD k 0).toNat).toArray⟩ := by
  induction ls with
  | nil => intro r k h; simp at h
  | cons n ns ih =>
    intro r k h
    cases k with
    | zero => simp [cut, sumB]
    | succ k =>
      have := ih (r.drop n.toNat) k (by simpa using h)
      simp only [cut, List.getD_cons_succ, List.take_succ_cons, sumB]
      rw [this, List.drop_drop]
theorem sumB_take_le (l : List UInt8) (k : Nat) : sumB (l.take k) ≤ sumB l := by
  induction l generalizing k with
  | nil => simp
  | cons a r ih =>
    cases k with
    | zero => simp [sumB]
    | succ k => have := ih k; simp [sumB]; omega
theorem take_snoc' (l : List UInt8) (k : Nat) (h : k < l.length) : l.take (k + 1) = l.take k ++ [l.getD k 0] := by
  rw [List.take_succ_eq_append_getElem h, List.getD_eq_getElem?_getD, List.getElem?_eq_getElem h]
  rfl
theorem getD_mem' {l : List UInt8} {k : Nat} (h : k < l.length) : l.getD k 0 ∈ l := by
  rw [List.getD_eq_getElem?_getD, List.getElem?_eq_getElem h]
  exact List.getElem_mem h
theorem sumB_15 (l : List UInt8) (h : ∀ b ∈ l, b.toNat ≤ 15) : sumB l ≤ 15 * l.length := by
  induction l with
  | nil => simp [sumB]
  | cons a r ih => have := ih (fun b hb => h b (by simp [hb])); have := h a (by simp); simp [sumB]; omega
theorem byte_at (s : ByteArray) (i : Nat) (h : i < s.size) : s[i] = s.data.toList.getD i 0 := by
  rw [List.getD_eq_getElem?_getD, List.getElem?_eq_getElem (by rw [Array.length_toList]; exact h)]
  rfl
theorem beg_of_pack {ps : List ByteArray} {L : List UInt8} (hp : properB ps = true) (h : packL ps = L) :
    cnt L = ps.length ∧ lsOf L = lens ps ∧ L.drop (1 + ps.length) = flat ps ∧ begP L = ps ∧ begN L = L.length ∧ 0 < L.length := by
  obtain ⟨h0, h1, h3, h4, h5, h6⟩ := packL_parts hp h
  obtain ⟨g1, g2⟩ := lens_of ps (proper_mem hp).2
  have e1 : cnt L = ps.length := h1
  have e2 : lsOf L = lens ps := by unfold lsOf; rw [e1]; exact h5
  have e3 : begN L = L.length := by
    unfold begN
    rw [e1, e2, g2, ← h, packL_eq, List.length_cons, List.length_append, lens_len]
    omega
  refine ⟨e1, e2, h6, ?_, e3, h0⟩
  unfold begP
  rw [e1, e2, h6]
  exact cut_of ps (proper_mem hp).2
theorem begT_pack {ps : List ByteArray} {L : List UInt8} (m : Int) (hp : properB ps = true) (h : packL ps = L) (hm : (L.length : Int) ≤ m) : begT L m = 2 := by
  obtain ⟨e1, e2, e3, e4, e5, h0⟩ := beg_of_pack hp h
  obtain ⟨g1, g2⟩ := lens_of ps (proper_mem hp).2
  have h3 := (proper_mem hp).1
  rw [begT_full m h0 (by omega) (by rw [e2]; exact g1) (by rw [e2, e1, lens_len]; omega), e5, if_neg (by omega), if_neg (by omega)]
theorem pack_of_beg {L : List UInt8} (m : Int) (h : begT L m = 2) (hn : begN L = L.length) : properB (begP L) = true ∧ packL (begP L) = L := by
  have h0 : L.length ≠ 0 := by
    intro e
    unfold begT at h
    rw [if_pos e] at h
    exact absurd h (by decide)
  by_cases h3 : 3 < cnt L
  · rw [begT_many m (by omega) h3] at h
    exact absurd h (by decide)
  · by_cases hall : ∀ b ∈ lsOf L, b.toNat ≤ 15
    · by_cases hs : (lsOf L).length < cnt L
      · rw [begT_short m (by omega) h3 hall hs] at h
        exact absurd h (by decide)
      · have hl1 : (lsOf L).length = cnt L := by
          have : (lsOf L).length ≤ cnt L := by unfold lsOf; exact List.length_take_le _ _
          omega
        have hsum : sumB (lsOf L) = (L.drop (1 + cnt L)).length := by
          rw [List.length_drop]
          unfold begN at hn
          omega
        obtain ⟨k1, k2⟩ := cut_lens _ _ hsum
        refine ⟨proper_mk ?_ (cut_small _ hall _), ?_⟩
        · unfold begP; rw [cut_length, hl1]; omega
        · unfold begP
          rw [packL_eq, cut_length, hl1, k1, k2]
          unfold lsOf
          have h8 : L.drop (1 + cnt L) = (L.drop 1).drop (cnt L) := by rw [List.drop_drop]
          rw [h8, List.take_append_drop]
          cases L with
          | nil => exact absurd rfl h0
          | cons x r =>
            show UInt8.ofNat x.toNat :: r = x :: r
            congr 1
            exact UInt8.ofNat_toNat
    · have : ∃ b ∈ lsOf L, 15 < b.toNat := by
        rcases Classical.em (∃ b ∈ lsOf L, 15 < b.toNat) with h | h
        · exact h
        · exact absurd (fun b hb => by
            rcases Nat.lt_or_ge 15 b.toNat with h' | h'
            · exact absurd ⟨b, hb, h'⟩ h
            · exact h') hall
      obtain ⟨b, hb, h15⟩ := this
      rw [begT_any m (by omega) h3 hb h15] at h
      exact absurd h (by decide)
def lits8 : ByteArray := ⟨#[48, 49, 50, 51, 52, 53, 54, 55]⟩
def behind (i : Nat) : ByteArray := ⟨#[98, 101, 104, 105, 110, 100]⟩ ++ (⟨#[48, 49, 50, 51, 52, 53, 54, 55]⟩ : ByteArray).extract i (i + 1)
def lentS (ss : List ByteArray) (n j : Nat) : ByteArray := if j < n then ss.getD j ByteArray.empty else behind (j - n)
def othersS : ByteArray := ⟨#[111, 116, 104, 101, 114, 115]⟩
/-- a configuration that is one -/
structure Cfg where
  n : Nat
  w0 : Int
  w1 : Int
  w2 : Int
  w3 : Int
  quantum : Nat
  chunk : Nat
  window : Nat
  queue : Nat
  patience : Nat
def Cfg.weight (c : Cfg) (i : Nat) : Nat := (match i with | 0 => c.w0 | 1 => c.w1 | 2 => c.w2 | _ => c.w3).toNat
structure Cfg.Ok (c : Cfg) : Prop where
  n1 : 1 ≤ c.n
  n4 : c.n ≤ 4
  w : ∀ i, i < c.n → 1 ≤ c.weight i ∧ c.weight i ≤ 4
  q1 : 1 ≤ c.quantum
  q8 : c.quantum ≤ 8
  c1 : 1 ≤ c.chunk
  c8 : c.chunk ≤ 8
  win8 : 8 ≤ c.window
  win250 : c.window ≤ 250
  qu1 : 1 ≤ c.queue
  qu600 : c.queue ≤ 600
  p1 : 1 ≤ c.patience
  p9 : c.patience ≤ 9
/-- what is kept of a stream: of each message of its queue what is not in frames yet -/
structure Stm where
  queue : List ByteArray
  credit : Nat
  deficit : Nat
  owed : Nat
  noSend : Bool
  noRecv : Bool
  came : ByteArray
  since : Nat
  reset : Bool
  cancels : Bool
  resets : Bool
structure Mod where
  c : Cfg
  ss : List Stm
  time : Nat
  turn : Nat
  begun : Bool
  control : List ByteArray
  now : ByteArray
  inn : ByteArray
  died : Nat
def noB : ByteArray := ⟨#[]⟩
def sizes : List ByteArray → Nat
  | [] => 0
  | b :: r => b.size + sizes r
def Stm.left (s : Stm) : Nat := sizes s.queue
def Stm.dead : Stm := ⟨[], 0, 0, 0, true, true, noB, 0, false, false, false⟩
def Stm.fresh (window : Nat) : Stm := ⟨[], window, 0, window, false, false, noB, 0, false, false, false⟩
def Mod.at (m : Mod) (i : Nat) : Stm := m.ss.getD i Stm.dead
def Mod.upd (m : Mod) (i : Nat) (s : Stm) : Mod := { m with ss := m.ss.set i s }
def sumL : List Nat → Nat
  | [] => 0
  | a :: r => a + sumL r
def Mod.queued (m : Mod) : Nat := sumL (m.ss.map Stm.left)
def Mod.held (m : Mod) : Nat := sumL (m.ss.map fun s => s.came.size)
/-- a frame as bytes -/
def frameB (kind stream : Nat) (payload : ByteArray) : ByteArray := hdr kind stream payload.size ++ payload
def byteB (n : Nat) : ByteArray := ⟨#[UInt8.ofNat n]⟩
def Mod.is (m : Mod) (i : Int) : Bool := decide (0 ≤ i) && decide (i < m.ss.length)
def Mod.fresh (c : Cfg) : Mod := ⟨c, List.replicate c.n (Stm.fresh c.window), 0, 0, true, [], noB, noB, 0⟩
/-- Submit -/
def Mod.submitE (m : Mod) (i : Int) (parts : List ByteArray) : Nat :=
  if m.died ≠ 0 then 7 else if m.is i = false then 2 else if properB parts = false ∨ m.c.window < (packed parts).size then 3 else
  if (m.at i.toNat).noSend = true then 5 else if m.c.queue < m.queued + (packed parts).size then 4 else 0
def Mod.submit (m : Mod) (i : Int) (parts : List ByteArray) : Mod :=
  if m.submitE i parts = 0 then m.upd i.toNat { m.at i.toNat with queue := (m.at i.toNat).queue ++ [packed parts] } else m
def Stm.silent (s : Stm) : Stm := { s with queue := [], deficit := 0, noSend := true }
def Stm.deaf (s : Stm) : Stm := { s with came := noB, noRecv := true }
/-- Cancel -/
def Mod.cancelE (m : Mod) (i : Int) : Nat :=
  if m.died ≠ 0 then 7 else if m.is i = false then 2 else if (m.at i.toNat).noSend = true then 5 else 0
def Mod.put (m : Mod) (f : ByteArray) : Mod := { m with control := m.control ++ [f] }
def Mod.cancel (m : Mod) (i : Int) : Mod :=
  if m.cancelE i = 0 then (m.upd i.toNat (m.at i.toNat).silent).put (frameB 3 i.toNat noB) else m
/-- turns -/
def Mod.passes (m : Mod) : Mod := { m with turn := if m.turn + 1 = m.ss.length then 0 else m.turn + 1, begun := true }
def Mod.share (m : Mod) : Nat := m.c.quantum * m.c.weight m.turn
def Stm.cutN (s : Stm) (chunk : Nat) : Nat := min (min (min (s.queue.headD noB).size chunk) s.credit) s.deficit
def Stm.cutQ (s : Stm) (n : Nat) : List ByteArray :=
  match s.queue with
  | [] => []
  | f :: r => if n = f.size then r else f.extract n f.size :: r
def Stm.cutD (s : Stm) (n share : Nat) : Nat :=
  if s.cutQ n = [] then 0 else if s.credit - n = 0 ∧ share < s.deficit - n then share else s.deficit - n
def Stm.cut (s : Stm) (n share : Nat) : Stm := { s with queue := s.cutQ n, credit := s.credit - n, deficit := s.cutD n share }
def Stm.over (s : Stm) : Bool := s.queue.isEmpty || s.deficit == 0 || s.credit == 0
/-- a Data frame of the stream whose turn it is, which can send -/
def Mod.framed (m : Mod) : Mod :=
  let s := m.at m.turn
  let n := s.cutN m.c.chunk
  let t := s.cut n m.share
  let m1 := { m.upd m.turn t with now := frameB 1 m.turn ((s.queue.headD noB).extract 0 n) }
  if t.over then m1.passes else m1
def Mod.begin (m : Mod) : Mod :=
  if m.begun then { m.upd m.turn { m.at m.turn with deficit := (m.at m.turn).deficit + m.share } with begun := false } else m
def Stm.idle (s : Stm) : Stm := if s.queue = [] then { s with deficit := 0 } else s
def Stm.stuck (s : Stm) : Bool := s.queue.isEmpty || s.credit == 0
def Mod.looks : Nat → Mod → Mod
  | 0, m => m
  | k + 1, m => if (m.at m.turn).stuck then Mod.looks k (m.upd m.turn (m.at m.turn).idle).passes else m.begin.framed
def Mod.turns (m : Mod) : Mod := m.looks m.ss.length
def Mod.chosen (m : Mod) : Mod :=
  match m.control with
  | f :: r => { m with now := f, control := r }
  | [] => if m.died = 0 then m.turns else m
def Mod.next (m : Mod) : Mod := if m.now.size = 0 then m.chosen else m
/-- Write -/
def Mod.gives (m : Mod) : Mod := { m with now := m.now.extract 1 m.now.size }
def Mod.write : Nat → Mod → ByteArray → ByteArray × Mod
  | 0, m, out => (out, m)
  | k + 1, m, out => if m.next.now.size = 0 then (out, m.next) else Mod.write k m.next.gives (out ++ m.next.now.extract 0 1)
/-- Read -/
def Mod.header (m : Mod) (h : ByteArray) : Nat :=
  let kind := (h.data.toList.getD 0 0).toNat
  let stream := (h.data.toList.getD 1 0).toNat
  let n := (h.data.toList.getD 2 0).toNat
  if Skein.crc3 kind stream n ≠ (h.data.toList.getD 3 0).toNat then 8 else
  if kind < 1 ∨ 5 < kind ∨ m.ss.length ≤ stream then 9 else
  if kind = 1 ∧ (n < 1 ∨ m.c.chunk < n) then 9 else
  if (kind = 2 ∨ kind = 5) ∧ n ≠ 1 then 9 else
  if (kind = 3 ∨ kind = 4) ∧ n ≠ 0 then 9 else
  if kind = 5 ∧ stream ≠ 0 then 9 else
  if kind = 1 ∧ ((m.at stream).cancels = true ∨ ((m.at stream).reset = false ∧ (m.at stream).owed < n)) then 10 else 0
/-- the messages that bytes hold, one behind the other: 0: all are whole, 1: one is wrong, 2: something is left that is not whole -/
def scan (most : Nat) : Nat → List UInt8 → Nat
  | 0, _ => 0
  | k + 1, L => if L = [] then 0 else if begT L most = 1 then 1 else if begT L most = 0 then 2 else scan most k (L.drop (begN L))
def scanB (most : Nat) (b : ByteArray) : Nat := scan most b.size b.data.toList
def Mod.comes (m : Mod) (i : Nat) (p : ByteArray) : Mod × Nat :=
  let s := m.at i
  if s.reset then (m, 0) else
  let t := { s with came := s.came ++ p, owed := s.owed - p.size, since := m.time }
  (m.upd i t, if scanB m.c.window t.came = 1 then 11 else 0)
def Mod.whole (m : Mod) (kind i : Nat) (p : ByteArray) : Mod × Nat :=
  let s := m.at i
  let g := (p.data.toList.getD 0 0).toNat
  if kind = 1 then m.comes i p else
  if kind = 2 then (if g = 0 then (m, 9) else if m.c.window < s.credit + g then (m, 10) else (m.upd i { s with credit := s.credit + g }, 0)) else
  if kind = 3 then (if s.cancels then (m, 9) else (m.upd i { s.deaf with cancels := true }, 0)) else
  if kind = 4 then (if s.resets then (m, 9) else (m.upd i { s.silent with resets := true }, 0)) else
  if kind = 5 then (m, 12) else (m, 0)
def Stm.gone (s : Stm) : Stm := { s with queue := [], came := noB }
def Mod.dies (m : Mod) (f : Nat) : Mod :=
  { m with died := f, inn := noB, ss := m.ss.map Stm.gone, control := if f = 12 then [] else [frameB 5 0 (byteB f)] }
def Mod.readB (m : Mod) (b : UInt8) : Mod × Nat :=
  let h := m.inn.push b
  let L := h.data.toList
  let f := if h.size = 4 then m.header h else 0
  if f ≠ 0 then (({ m with inn := h } : Mod).dies f, f) else
  if 4 ≤ h.size ∧ h.size = 4 + (L.getD 2 0).toNat then
    let r := ({ m with inn := h } : Mod).whole (L.getD 0 0).toNat (L.getD 1 0).toNat (h.extract 4 h.size)
    let m1 := { r.1 with inn := noB }
    if r.2 ≠ 0 then (m1.dies r.2, r.2) else (m1, 0)
  else ({ m with inn := h }, 0)
def Mod.reads : Mod → List UInt8 → Mod × Nat
  | m, [] => (m, 0)
  | m, b :: r => if (m.readB b).2 ≠ 0 then m.readB b else Mod.reads (m.readB b).1 r
def Mod.read (m : Mod) (s : ByteArray) : Mod × Nat := if m.died ≠ 0 then (m, 7) else m.reads s.data.toList
/-- Receive, Release -/
def Mod.firstE (m : Mod) (i : Int) : Nat :=
  if m.died ≠ 0 then 7 else if m.is i = false then 2 else if (m.at i.toNat).noRecv = true then 5 else
  if begT (m.at i.toNat).came.data.toList m.c.window = 2 then 0 else 6
def Mod.receive (m : Mod) (i : Int) : List ByteArray := if m.firstE i = 0 then begP (m.at i.toNat).came.data.toList else []
def Mod.release (m : Mod) (i : Int) : Mod :=
  if m.firstE i = 0 then
    let s := m.at i.toNat
    let n := begN s.came.data.toList
    (m.upd i.toNat { s with came := s.came.extract n s.came.size, owed := s.owed + n }).put (frameB 2 i.toNat (byteB n))
  else m
/-- Tick -/
def Mod.late (m : Mod) (i : Nat) : Bool :=
  decide (scanB m.c.window (m.at i).came ≠ 0) && !(m.at i).noRecv && decide ((m.at i).since + m.c.patience ≤ m.time)
def Mod.ticks : Nat → Nat → Mod → Mod
  | 0, _, m => m
  | k + 1, i, m => Mod.ticks k (i + 1) (if m.late i then (m.upd i { (m.at i).deaf with reset := true }).put (frameB 4 i noB) else m)
def Mod.tick (m : Mod) : Mod :=
  let m1 := { m with time := m.time + 1 }
  if m.died = 0 then m1.ticks m.ss.length 0 else m1
/-- Flow -/
def Mod.flow (m : Mod) (i : Nat) : Stm := if m.died ≠ 0 then Stm.dead else m.at i
def boolI (b : Bool) : Int := if b then 1 else 0
/-- the messages of a queue, and how many bytes of the first are in frames -/
def Framed : List ByteArray → Nat → List ByteArray → Prop
  | [], f, q => f = 0 ∧ q = []
  | m :: r, f, q => f < m.size ∧ m.size ≤ 1000 ∧ q = m.extract f m.size :: r ∧ ∀ x ∈ r, 0 < x.size ∧ x.size ≤ 1000
def Lab (F : Nat → Prop) (lab : Nat → Nat) (i : Nat) : Nat → Prop := fun k => F k ∧ lab k = i
theorem Lab.ne {F : Nat → Prop} {lab : Nat → Nat} {i j k : Nat} (h : Lab F lab i k) (hij : i ≠ j) : ¬ Lab F lab j k := fun e => hij (h.2.symm.trans e.2)
theorem at_upd_ne {m : Mod} {i j : Nat} {s : Stm} (h : i ≠ j) : (m.upd i s).at j = m.at j := by
  unfold Mod.at Mod.upd
  rw [List.getD_eq_getElem?_getD, List.getD_eq_getElem?_getD, List.getElem?_set_ne h]
theorem at_upd_eq {m : Mod} {i : Nat} {s : Stm} (h : i < m.ss.length) : (m.upd i s).at i = s := by
  unfold Mod.at Mod.upd
  rw [List.getD_eq_getElem?_getD, List.getElem?_set_self h]
  rfl
def relab (lab : Nat → Nat) (n L : Nat) : Nat → Nat := fun k => if k < n then lab k else L
theorem ex_size (m : ByteArray) (a b : Nat) : (m.extract a b).size = min b m.size - a := ByteArray.size_extract
theorem framed_sizes {msgs q : List ByteArray} {fr : Nat} (h : Framed msgs fr q) : sizes msgs = sizes q + fr ∧ fr ≤ 1000 := by
  cases msgs with
  | nil => obtain ⟨rfl, rfl⟩ := h; exact ⟨rfl, by omega⟩
  | cons m r =>
    obtain ⟨h1, h2, rfl, _⟩ := h
    simp only [sizes, ex_size]
    omega
theorem sizes_take_succ (l : List ByteArray) (i : Nat) (h : i < l.length) : sizes (l.take (i + 1)) = sizes (l.take i) + (l.getD i noB).size := by
  induction l generalizing i with
  | nil => simp at h
  | cons a r ih =>
    cases i with
    | zero => simp [sizes]
    | succ i =>
      have := ih i (by simpa using h)
      simp only [List.take_succ_cons, sizes, List.getD_cons_succ, this]
      omega
theorem sizes_take_le (l : List ByteArray) (i : Nat) : sizes (l.take i) ≤ sizes l := by
  induction l generalizing i with
  | nil => simp
  | cons a r ih => cases i with
    | zero => simp [sizes]
    | succ i => simp only [List.take_succ_cons, sizes]; have := ih i; omega
theorem getD_le {l : List ByteArray} {i : Nat} (h : i < l.length) : (l.getD i noB).size ≤ sizes l := by
  have := sizes_take_succ l i h
  have := sizes_take_le l (i + 1)
  omega
theorem sumL_take_succ (l : List Nat) (i : Nat) (h : i < l.length) : sumL (l.take (i + 1)) = sumL (l.take i) + l.getD i 0 := by
  induction l generalizing i with
  | nil => simp at h
  | cons a r ih =>
    cases i with
    | zero => simp [sumL]
    | succ i =>
      have := ih i (by simpa using h)
      simp only [List.take_succ_cons, sumL, List.getD_cons_succ, this]
      omega
theorem sumL_take_le (l : List Nat) (i : Nat) : sumL (l.take i) ≤ sumL l := by
  induction l generalizing i with
  | nil => simp
  | cons a r ih => cases i with
    | zero => simp [sumL]
    | succ i => simp only [List.take_succ_cons, sumL]; have := ih i; omega
theorem map_getD (l : List Stm) (f : Stm → Nat) (i : Nat) (h : i < l.length) : (l.map f).getD i 0 = f (l.getD i Stm.dead) := by
  rw [List.getD_eq_getElem?_getD, List.getD_eq_getElem?_getD, List.getElem?_map, List.getElem?_eq_getElem h]
  rfl
/-- what a stream may hold, so that no number is too great -/
structure Stm.Small (s : Stm) : Prop where
  credit : s.credit ≤ 1000
  deficit : s.deficit ≤ 1000
  owed : s.owed ≤ 1000
  left : s.left ≤ 1000000
theorem ex_ex (m : ByteArray) (a b c d : Nat) (h : a + d ≤ b) : (m.extract a b).extract c d = m.extract (a + c) (a + d) := by
  apply ByteArray.ext
  simp only [ByteArray.data_extract, Array.extract_extract]
  congr 1
  omega
theorem framed_end {rr : List ByteArray} (h : ∀ x ∈ rr, 0 < x.size ∧ x.size ≤ 1000) : Framed rr 0 rr := by
  cases rr with
  | nil => exact ⟨rfl, rfl⟩
  | cons x r =>
    have := h x (List.mem_cons_self ..)
    refine ⟨this.1, this.2, ?_, fun y hy => h y (List.mem_cons_of_mem _ hy)⟩
    rw [show x.extract 0 x.size = x from by apply ByteArray.ext; simp]
theorem cutQ_end {s : Stm} {mm : ByteArray} {rr : List ByteArray} {fr n : Nat} (h : s.queue = mm.extract fr mm.size :: rr) (hn : fr + n = mm.size) : s.cutQ n = rr := by
  unfold Stm.cutQ
  rw [h]
  simp only [ex_size]
  rw [if_pos (by omega)]
theorem cutQ_mid {s : Stm} {mm : ByteArray} {rr : List ByteArray} {fr n : Nat} (h : s.queue = mm.extract fr mm.size :: rr) (hn : fr + n < mm.size) : s.cutQ n = mm.extract (fr + n) mm.size :: rr := by
  unfold Stm.cutQ
  rw [h]
  simp only [ex_size]
  rw [if_neg (by omega), ex_ex _ _ _ _ _ (by omega)]
  congr 2
  omega
theorem framed_pure {m : Mod} {s : Stm} {mm pl : ByteArray} {rr : List ByteArray} {fr n : Nat} (hs : m.at m.turn = s) (hq : s.queue = mm.extract fr mm.size :: rr) (hfr : fr < mm.size)
    (hn : min (min (min (mm.size - fr) m.c.chunk) s.credit) s.deficit = n) (hpl : mm.extract fr (fr + n) = pl) :
    m.framed = if (s.cut n m.share).over then (({ m with now := frameB 1 m.turn pl } : Mod).upd m.turn (s.cut n m.share)).passes else ({ m with now := frameB 1 m.turn pl } : Mod).upd m.turn (s.cut n m.share) := by
  unfold Mod.framed
  have e1 : s.cutN m.c.chunk = n := by
    unfold Stm.cutN
    rw [hq]
    simp only [List.headD_cons, ex_size]
    rw [← hn]
    congr 3
    omega
  have e2 : (s.queue.headD noB).extract 0 n = pl := by
    rw [hq, List.headD_cons, ex_ex _ _ _ _ _ (by omega), ← hpl]
    congr 1
  simp only [hs, e1, e2]
  rfl
theorem framed_len {msgs q : List ByteArray} {fr : Nat} (h : Framed msgs fr q) : msgs.length ≤ sizes q := by
  cases msgs with
  | nil => simp
  | cons m r =>
    obtain ⟨h1, h2, rfl, h3⟩ := h
    have : r.length ≤ sizes r := by
      clear h1 h2
      induction r with
      | nil => simp
      | cons x r ih =>
        have := ih (fun y hy => h3 y (List.mem_cons_of_mem _ hy))
        have := (h3 x (List.mem_cons_self ..)).1
        simp only [List.length_cons, sizes]
        omega
    simp only [List.length_cons, sizes, ex_size]
    omega
theorem extract_all (m : ByteArray) : m.extract 0 m.size = m := by
  apply ByteArray.ext
  simp
theorem framed_snoc {msgs q : List ByteArray} {fr : Nat} {x : ByteArray} (h : Framed msgs fr q) (h0 : 0 < x.size) (h1 : x.size ≤ 1000) : Framed (msgs ++ [x]) fr (q ++ [x]) := by
  cases msgs with
  | nil =>
    obtain ⟨rfl, rfl⟩ := h
    exact ⟨h0, h1, by rw [extract_all]; rfl, by simp⟩
  | cons m r =>
    obtain ⟨e1, e2, rfl, h3⟩ := h
    refine ⟨e1, e2, rfl, ?_⟩
    intro y hy
    replace hy : y ∈ r ++ [x] := hy
    rw [List.mem_append, List.mem_singleton] at hy
    rcases hy with hy | rfl
    · exact h3 y hy
    · exact ⟨h0, h1⟩
theorem packed_pos (ss : List ByteArray) : 0 < (packed ss).size := by
  show 0 < (packL ss).toArray.size
  simp [packL]
/-- what an end may hold, so that no number is too great -/
structure Mod.Fit (m : Mod) : Prop where
  n1 : 1 ≤ m.ss.length
  n4 : m.ss.length ≤ 4
  turn : m.turn < m.ss.length
  chunk : m.c.chunk ≤ 8
  q1 : 1 ≤ m.c.quantum
  q8 : m.c.quantum ≤ 8
  w : ∀ i, i < m.ss.length → 1 ≤ m.c.weight i ∧ m.c.weight i ≤ 4
  s : ∀ i, i < m.ss.length → (m.at i).credit ≤ 900 ∧ (m.at i).deficit ≤ 900 ∧ (m.at i).owed ≤ 900
  q : m.queued ≤ 1000000
theorem Mod.Fit.left {m : Mod} (h : m.Fit) {i : Nat} (hi : i < m.ss.length) : (m.at i).left ≤ 1000000 := by
  have e1 := sumL_take_succ (m.ss.map Stm.left) i (by rw [List.length_map]; exact hi)
  have e2 := sumL_take_le (m.ss.map Stm.left) (i + 1)
  rw [map_getD _ _ _ hi] at e1
  have := h.q
  unfold Mod.queued at this
  unfold Mod.at
  omega
theorem upd_self (m : Mod) (i : Nat) : m.upd i (m.at i) = m := by
  unfold Mod.upd Mod.at
  have : m.ss.set i (m.ss.getD i Stm.dead) = m.ss := by
    apply List.ext_getElem?
    intro j
    rw [List.getElem?_set]
    split
    · rename_i h
      subst h
      split
      · rename_i h2
        rw [List.getD_eq_getElem?_getD, List.getElem?_eq_getElem h2]
        rfl
      · rename_i h2
        rw [List.getElem?_eq_none (by omega)]
    · rfl
  rw [this]
theorem sumL_set (l : List Nat) (i x : Nat) : sumL (l.set i x) ≤ sumL l + x := by
  induction l generalizing i with
  | nil => simp [sumL]
  | cons a r ih => cases i with
    | zero => simp only [List.set_cons_zero, sumL]; omega
    | succ i => simp only [List.set_cons_succ, sumL]; have := ih i; omega
theorem sumL_set_le (l : List Nat) (i x : Nat) (h : i < l.length) (hx : x ≤ l.getD i 0) : sumL (l.set i x) ≤ sumL l := by
  induction l generalizing i with
  | nil => simp at h
  | cons a r ih => cases i with
    | zero => simp only [List.set_cons_zero, sumL, List.getD_cons_zero] at *; omega
    | succ i =>
      simp only [List.set_cons_succ, sumL, List.getD_cons_succ] at *
      have := ih i (by simpa using h) hx
      omega
theorem queued_upd (m : Mod) (i : Nat) (s : Stm) (hi : i < m.ss.length) (hs : s.left ≤ (m.at i).left) : (m.upd i s).queued ≤ m.queued := by
  unfold Mod.queued Mod.upd
  rw [List.map_set]
  exact sumL_set_le _ _ _ (by rw [List.length_map]; exact hi) (by rw [map_getD _ _ _ hi]; exact hs)
theorem len_upd (m : Mod) (i : Nat) (s : Stm) : (m.upd i s).ss.length = m.ss.length := by simp [Mod.upd]
theorem Mod.Fit.upd {m : Mod} (h : m.Fit) {i : Nat} {s : Stm} (hi : i < m.ss.length) (hs : s.credit ≤ 900 ∧ s.deficit ≤ 900 ∧ s.owed ≤ 900) (hl : s.left ≤ (m.at i).left) : (m.upd i s).Fit where
  n1 := by rw [len_upd]; exact h.n1
  n4 := by rw [len_upd]; exact h.n4
  turn := by rw [len_upd]; exact h.turn
  chunk := h.chunk
  q1 := h.q1
  q8 := h.q8
  w := fun j hj => h.w j (by rw [len_upd] at hj; exact hj)
  s := fun j hj => by
    rw [len_upd] at hj
    by_cases e : i = j
    · subst e; rw [at_upd_eq hi]; exact hs
    · rw [at_upd_ne e]; exact h.s j hj
  q := Nat.le_trans (queued_upd m i s hi hl) h.q
theorem Mod.Fit.passes {m : Mod} (h : m.Fit) : m.passes.Fit where
  n1 := h.n1
  n4 := h.n4
  turn := by
    show (if m.turn + 1 = m.ss.length then 0 else m.turn + 1) < m.ss.length
    have := h.turn
    split <;> omega
  chunk := h.chunk
  q1 := h.q1
  q8 := h.q8
  w := h.w
  s := h.s
  q := h.q
theorem framed_nil {msgs q : List ByteArray} {fr : Nat} (h : Framed msgs fr q) : q = [] ↔ sizes q = 0 := by
  cases msgs with
  | nil => obtain ⟨_, rfl⟩ := h; simp [sizes]
  | cons m r =>
    obtain ⟨h1, _, rfl, _⟩ := h
    simp only [sizes, ex_size]
    constructor
    · intro e; simp at e
    · intro e; omega
theorem looks_stuck {m : Mod} {k : Nat} (h : (m.at m.turn).stuck = true) : m.looks (k + 1) = (m.upd m.turn (m.at m.turn).idle).passes.looks k := by
  rw [Mod.looks, if_pos h]
theorem looks_goes {m : Mod} {k : Nat} (h : (m.at m.turn).stuck = false) : m.looks (k + 1) = m.begin.framed := by
  rw [Mod.looks, if_neg (by simp [h])]
def begun1 (m : Mod) : Mod := { m.upd m.turn { m.at m.turn with deficit := (m.at m.turn).deficit + m.share } with begun := false }
theorem begin_yes {m : Mod} (h : m.begun = true) : m.begin = begun1 m := by
  unfold Mod.begin begun1
  rw [if_pos h]
theorem begin_no {m : Mod} (h : m.begun = false) : m.begin = m := by
  unfold Mod.begin
  rw [if_neg (by simp [h])]
theorem begun1_at {m : Mod} (h : m.turn < m.ss.length) : (begun1 m).at m.turn = { m.at m.turn with deficit := (m.at m.turn).deficit + m.share } := at_upd_eq (m := m) h
structure Stm.Inv (c : Cfg) (s : Stm) : Prop where
  credit : s.credit ≤ c.window
  room : s.owed + s.came.size ≤ c.window
  msgs : ∀ x ∈ s.queue, 0 < x.size ∧ x.size ≤ 49
  silent : s.noSend = true → s.queue = [] ∧ s.deficit = 0
  deaf : s.noRecv = true → s.came = noB
  why : s.noRecv = true → s.cancels = true ∨ s.reset = true
def Mod.shareOf (m : Mod) (i : Nat) : Nat := m.c.quantum * m.c.weight i
/-- the most that a stream's Deficit may be -/
def Mod.dmax (m : Mod) (i : Nat) : Nat := m.shareOf i + (if i = m.turn ∧ m.begun = false then m.shareOf i else 0)
structure Mod.Inv (m : Mod) : Prop where
  c : m.c.Ok
  len : m.ss.length = m.c.n
  turn : m.turn < m.c.n
  s : ∀ i, i < m.c.n → (m.at i).Inv m.c
  d : ∀ i, i < m.c.n → (m.at i).deficit ≤ m.dmax i
  mid : m.begun = false → m.died = 0 → (m.at m.turn).noSend = true ∨ ((m.at m.turn).queue ≠ [] ∧ 0 < (m.at m.turn).credit ∧ 0 < (m.at m.turn).deficit)
  q : m.queued ≤ m.c.queue
  now : m.now.size ≤ 12
  ctl : ∀ f ∈ m.control, 0 < f.size ∧ f.size ≤ 5
  inn : m.inn.size ≤ 12
  died : m.died ≤ 12
  dead : m.died ≠ 0 → ∀ i, i < m.c.n → (m.at i).queue = [] ∧ (m.at i).came = noB
theorem share_le {m : Mod} (h : m.c.Ok) {i : Nat} (hi : i < m.c.n) : m.shareOf i ≤ 32 := Nat.mul_le_mul h.q8 (h.w i hi).2
theorem share_pos {m : Mod} (h : m.c.Ok) {i : Nat} (hi : i < m.c.n) : 1 ≤ m.shareOf i := Nat.mul_le_mul h.q1 (h.w i hi).1
theorem dmax_le {m : Mod} (h : m.c.Ok) {i : Nat} (hi : i < m.c.n) : m.dmax i ≤ 64 := by
  have := share_le h hi
  unfold Mod.dmax
  split <;> omega
theorem share_dmax (m : Mod) (i : Nat) : m.shareOf i ≤ m.dmax i := by unfold Mod.dmax; omega
theorem Mod.Inv.fit {m : Mod} (h : m.Inv) : m.Fit where
  n1 := by rw [h.len]; exact h.c.n1
  n4 := by rw [h.len]; exact h.c.n4
  turn := by rw [h.len]; exact h.turn
  chunk := h.c.c8
  q1 := h.c.q1
  q8 := h.c.q8
  w := fun i hi => h.c.w i (by rw [← h.len]; exact hi)
  s := fun i hi => by
    rw [h.len] at hi
    have e1 := (h.s i hi).credit
    have e2 := (h.s i hi).room
    have e3 := h.d i hi
    have e4 := dmax_le h.c hi
    have e5 := h.c.win250
    omega
  q := by have := h.q; have := h.c.qu600; omega
theorem sizes_append (a b : List ByteArray) : sizes (a ++ b) = sizes a + sizes b := by
  induction a with
  | nil => simp [sizes]
  | cons x r ih => simp only [List.cons_append, sizes, ih]; omega
theorem sumL_set_eq (l : List Nat) (i x : Nat) (h : i < l.length) : sumL (l.set i x) + l.getD i 0 = sumL l + x := by
  induction l generalizing i with
  | nil => simp at h
  | cons a r ih => cases i with
    | zero => simp only [List.set_cons_zero, sumL, List.getD_cons_zero]; omega
    | succ i =>
      simp only [List.set_cons_succ, sumL, List.getD_cons_succ]
      have := ih i (by simpa using h)
      omega
theorem queued_upd_eq (m : Mod) (i : Nat) (s : Stm) (hi : i < m.ss.length) : (m.upd i s).queued + (m.at i).left = m.queued + s.left := by
  unfold Mod.queued Mod.upd
  rw [List.map_set]
  have := sumL_set_eq (m.ss.map Stm.left) i s.left (by rw [List.length_map]; exact hi)
  rw [map_getD _ _ _ hi] at this
  exact this
/-- a stream is another one -/
theorem Mod.Inv.upd {m : Mod} (h : m.Inv) {i : Nat} {s : Stm} (hi : i < m.c.n) (hs : s.Inv m.c) (hd : s.deficit ≤ m.dmax i)
    (hm : i = m.turn → m.begun = false → m.died = 0 → s.noSend = true ∨ (s.queue ≠ [] ∧ 0 < s.credit ∧ 0 < s.deficit)) (hq : (m.upd i s).queued ≤ m.c.queue) (hx : m.died ≠ 0 → s.queue = [] ∧ s.came = noB) : (m.upd i s).Inv where
  c := h.c
  len := by rw [len_upd]; exact h.len
  turn := h.turn
  s := fun j hj => by
    by_cases e : i = j
    · subst e; rw [at_upd_eq (by rw [h.len]; exact hi)]; exact hs
    · rw [at_upd_ne e]; exact h.s j hj
  d := fun j hj => by
    by_cases e : i = j
    · subst e; rw [at_upd_eq (by rw [h.len]; exact hi)]; exact hd
    · rw [at_upd_ne e]; exact h.d j hj
  mid := fun hb hl => by
    show ((m.upd i s).at m.turn).noSend = true ∨ (((m.upd i s).at m.turn).queue ≠ [] ∧ 0 < ((m.upd i s).at m.turn).credit ∧ 0 < ((m.upd i s).at m.turn).deficit)
    by_cases e : i = m.turn
    · subst e; rw [at_upd_eq (by rw [h.len]; exact hi)]; exact hm rfl hb hl
    · rw [at_upd_ne e]; exact h.mid hb hl
  q := hq
  now := h.now
  ctl := h.ctl
  inn := h.inn
  died := h.died
  dead := fun hd j hj => by
    by_cases e : i = j
    · subst e; rw [at_upd_eq (by rw [h.len]; exact hi)]; exact hx hd
    · rw [at_upd_ne e]; exact h.dead hd j hj
theorem Mod.Inv.passes {m : Mod} (h : m.Inv) (hd : (m.at m.turn).deficit ≤ m.shareOf m.turn) : m.passes.Inv where
  c := h.c
  len := h.len
  turn := by
    show (if m.turn + 1 = m.ss.length then 0 else m.turn + 1) < m.c.n
    have := h.turn
    rw [h.len]
    split <;> omega
  s := h.s
  d := fun i hi => by
    refine Nat.le_trans ?_ (share_dmax m.passes i)
    show (m.at i).deficit ≤ m.shareOf i
    by_cases e : i = m.turn
    · subst e; exact hd
    · have := h.d i hi
      unfold Mod.dmax at this
      rw [if_neg (fun x => e x.1)] at this
      exact this
  mid := fun hb _ => by simp [Mod.passes] at hb
  q := h.q
  now := h.now
  ctl := h.ctl
  inn := h.inn
  died := h.died
  dead := h.dead
theorem Stm.Inv.idle {c : Cfg} {s : Stm} (h : s.Inv c) : s.idle.Inv c := by
  unfold Stm.idle
  split
  · rename_i e
    exact ⟨h.credit, h.room, h.msgs, fun _ => ⟨e, rfl⟩, h.deaf, h.why⟩
  · exact h
theorem idle_facts (s : Stm) : s.idle.queue = s.queue ∧ s.idle.credit = s.credit ∧ s.idle.deficit ≤ s.deficit ∧ s.idle.came = s.came ∧ (s.queue = [] → s.idle.deficit = 0) ∧ (s.queue ≠ [] → s.idle = s) := by
  unfold Stm.idle
  split
  · rename_i e; exact ⟨rfl, rfl, Nat.zero_le _, rfl, fun _ => rfl, fun x => absurd e x⟩
  · rename_i e; exact ⟨rfl, rfl, Nat.le_refl _, rfl, fun x => absurd x e, fun _ => rfl⟩
theorem stuck_iff (s : Stm) : s.stuck = true ↔ s.queue = [] ∨ s.credit = 0 := by
  unfold Stm.stuck
  cases s.queue <;> simp
theorem Mod.Inv.idles {m : Mod} (h : m.Inv) (hl0 : m.died = 0) (hst : (m.at m.turn).stuck = true) : (m.upd m.turn (m.at m.turn).idle).passes.Inv := by
  obtain ⟨f1, f2, f3, f4, f5, f6⟩ := idle_facts (m.at m.turn)
  have hl : (m.at m.turn).idle.left = (m.at m.turn).left := by unfold Stm.left; rw [f1]
  have ht : m.turn < m.ss.length := by rw [h.len]; exact h.turn
  have hq := queued_upd_eq m m.turn (m.at m.turn).idle ht
  rw [hl] at hq
  have h1 : (m.upd m.turn (m.at m.turn).idle).Inv := by
    refine h.upd h.turn (h.s _ h.turn).idle (Nat.le_trans f3 (h.d _ h.turn)) ?_ (by have := h.q; omega) (fun hd => ?_)
    · intro _ hb hl
      rcases h.mid hb hl with x | ⟨x1, x2, _⟩
      · left
        unfold Stm.idle
        split <;> exact x
      · rcases (stuck_iff _).1 hst with e | e
        · exact absurd e x1
        · omega
    · rw [f1, f4]; exact h.dead hd _ h.turn
  refine h1.passes ?_
  show ((m.upd m.turn (m.at m.turn).idle).at m.turn).deficit ≤ m.shareOf m.turn
  rw [at_upd_eq ht]
  rcases (stuck_iff _).1 hst with e | e
  · rw [f5 e]; exact Nat.zero_le _
  · by_cases e2 : (m.at m.turn).queue = []
    · rw [f5 e2]; exact Nat.zero_le _
    · rw [f6 e2]
      cases hb : m.begun
      · rcases h.mid hb hl0 with e3 | e3
        · exact absurd ((h.s _ h.turn).silent e3).1 e2
        · omega
      · have := h.d _ h.turn
        unfold Mod.dmax at this
        rw [if_neg (by simp [hb])] at this
        exact this
theorem hdr_size (a b c : Nat) : (hdr a b c).size = 4 := rfl
theorem frameB_size (k i : Nat) (p : ByteArray) : (frameB k i p).size = 4 + p.size := by
  unfold frameB
  rw [ByteArray.size_append, hdr_size]
theorem cut_sizes (s : Stm) (n : Nat) (hn : n ≤ (s.queue.headD noB).size) : sizes (s.cutQ n) + n = s.left := by
  unfold Stm.cutQ Stm.left
  cases hq : s.queue with
  | nil =>
    rw [hq] at hn
    have : n = 0 := Nat.le_zero.1 hn
    subst this
    rfl
  | cons f r =>
    rw [hq] at hn
    simp only [List.headD_cons] at hn
    simp only [sizes]
    split
    · omega
    · simp only [sizes, ex_size]; omega
theorem cut_msgs (s : Stm) (n : Nat) (h : ∀ x ∈ s.queue, 0 < x.size ∧ x.size ≤ 49) (hn : n ≤ (s.queue.headD noB).size) : ∀ x ∈ s.cutQ n, 0 < x.size ∧ x.size ≤ 49 := by
  unfold Stm.cutQ
  cases hq : s.queue with
  | nil => simp
  | cons f r =>
    rw [hq] at hn h
    simp only [List.headD_cons] at hn
    have hf := h f (List.mem_cons_self ..)
    simp only
    split
    · exact fun x hx => h x (List.mem_cons_of_mem _ hx)
    · intro x hx
      rcases List.mem_cons.1 hx with rfl | hx
      · rw [ex_size]; omega
      · exact h x (List.mem_cons_of_mem _ hx)
theorem cutN_le (s : Stm) (k : Nat) : s.cutN k ≤ (s.queue.headD noB).size ∧ s.cutN k ≤ k ∧ s.cutN k ≤ s.credit ∧ s.cutN k ≤ s.deficit := by
  unfold Stm.cutN
  omega
/-- a Data frame of a stream that can send, in the midst of its turn -/
theorem Mod.Inv.frames {m : Mod} (h : m.Inv) (_hb : m.begun = false) (hst : (m.at m.turn).stuck = false) : m.framed.Inv := by
  have ht : m.turn < m.ss.length := by rw [h.len]; exact h.turn
  obtain ⟨s, hs⟩ : ∃ s, m.at m.turn = s := ⟨_, rfl⟩
  obtain ⟨n, hn⟩ : ∃ n, s.cutN m.c.chunk = n := ⟨_, rfl⟩
  obtain ⟨l1, l2, l3, l4⟩ := cutN_le s m.c.chunk
  rw [hn] at l1 l2 l3 l4
  have hS := h.s _ h.turn
  have hD := h.d _ h.turn
  rw [hs] at hS hD hst
  have hne : ¬ (s.queue = [] ∨ s.credit = 0) := fun e => by rw [(stuck_iff s).2 e] at hst; cases hst
  have hlive : m.died = 0 := by
    rcases Nat.eq_zero_or_pos m.died with e | e
    · exact e
    · have := (h.dead (by omega) _ h.turn).1
      rw [hs] at this
      exact absurd (.inl this) hne
  have hcz := cut_sizes s n l1
  have hcl : (s.cut n m.share).left = sizes (s.cutQ n) := rfl
  have hq := queued_upd_eq m m.turn (s.cut n m.share) ht
  rw [hs, hcl] at hq
  have hcd : s.cutD n m.share ≤ s.deficit - n := by
    unfold Stm.cutD
    split
    · omega
    · split <;> omega
  have hinv : (s.cut n m.share).Inv m.c := by
    refine ⟨by show s.credit - n ≤ _; have := hS.credit; omega, hS.room, cut_msgs s n hS.msgs l1, fun e => ?_, hS.deaf, hS.why⟩
    exact absurd (.inl (hS.silent e).1) hne
  have hnow : (frameB 1 m.turn ((s.queue.headD noB).extract 0 n)).size ≤ 12 := by
    rw [frameB_size, ex_size]
    have := h.c.c8
    omega
  have h1 : ∀ hmid : (s.cut n m.share).over = false, ({ m.upd m.turn (s.cut n m.share) with now := frameB 1 m.turn ((s.queue.headD noB).extract 0 n) } : Mod).Inv := by
    intro hov
    have hov' : ¬ ((s.cut n m.share).queue = []) ∧ 0 < (s.cut n m.share).deficit ∧ 0 < (s.cut n m.share).credit := by
      unfold Stm.over at hov
      simp only [Bool.or_eq_false_iff, beq_eq_false_iff_ne] at hov
      refine ⟨fun e => ?_, by omega, by omega⟩
      rw [e] at hov
      simp at hov
    have := h.upd (i := m.turn) (s := s.cut n m.share) h.turn hinv (Nat.le_trans hcd (by omega)) (fun _ _ _ => .inr ⟨hov'.1, hov'.2.2, hov'.2.1⟩) (by have := h.q; omega) (fun e => absurd hlive e)
    exact ⟨this.c, this.len, this.turn, this.s, this.d, this.mid, this.q, hnow, this.ctl, this.inn, this.died, this.dead⟩
  unfold Mod.framed
  simp only [hs, hn]
  cases hov : (s.cut n m.share).over
  · simp only [Bool.false_eq_true, if_false]
    exact h1 hov
  · simp only [if_true]
    have hds : (s.cut n m.share).deficit ≤ m.share := by
      show s.cutD n m.share ≤ m.share
      unfold Stm.cutD
      split
      · omega
      · rename_i hq0
        split
        · omega
        · rename_i hc0
          unfold Stm.over at hov
          simp only [Bool.or_eq_true, beq_iff_eq] at hov
          rcases hov with (e | e) | e
          · exact absurd (List.isEmpty_iff.1 e) hq0
          · have e' : s.cutD n m.share = 0 := e
            unfold Stm.cutD at e'
            rw [if_neg hq0, if_neg hc0] at e'
            omega
          · have e' : s.credit - n = 0 := e
            have : ¬ m.share < s.deficit - n := fun x => hc0 ⟨e', x⟩
            omega
    -- as if the turn had just begun
    have hb2 : (({ m with begun := true } : Mod).upd m.turn (s.cut n m.share)).Inv := by
      have h2 : (({ m with begun := true } : Mod).upd m.turn (s.cut n m.share)).at m.turn = s.cut n m.share := at_upd_eq (m := { m with begun := true }) ht
      refine ⟨h.c, by rw [len_upd]; exact h.len, h.turn, fun j hj => ?_, fun j hj => ?_, fun e _ => (by simp [Mod.upd] at e), by show (m.upd m.turn (s.cut n m.share)).queued ≤ m.c.queue; have := h.q; omega, h.now, h.ctl, h.inn, h.died, fun e => absurd hlive e⟩
      · by_cases e : m.turn = j
        · subst e; rw [h2]; exact hinv
        · rw [at_upd_ne e]; exact h.s j hj
      · refine Nat.le_trans ?_ (share_dmax _ j)
        by_cases e : m.turn = j
        · subst e; rw [h2]; exact hds
        · rw [at_upd_ne e]
          have := h.d j hj
          unfold Mod.dmax at this
          rw [if_neg (fun x => e x.1.symm)] at this
          exact this
    have h3 := hb2.passes (by rw [show (({ m with begun := true } : Mod).upd m.turn (s.cut n m.share)).turn = m.turn from rfl, show (({ m with begun := true } : Mod).upd m.turn (s.cut n m.share)).at m.turn = s.cut n m.share from at_upd_eq (m := { m with begun := true }) ht]; exact hds)
    exact ⟨h3.c, h3.len, h3.turn, h3.s, h3.d, h3.mid, h3.q, hnow, h3.ctl, h3.inn, h3.died, h3.dead⟩
theorem Mod.Inv.begins {m : Mod} (h : m.Inv) (hst : (m.at m.turn).stuck = false) : m.begin.Inv ∧ m.begin.begun = false ∧ (m.begin.at m.begin.turn).stuck = false := by
  have ht : m.turn < m.ss.length := by rw [h.len]; exact h.turn
  cases hb : m.begun
  · rw [begin_no hb]
    exact ⟨h, hb, hst⟩
  · rw [begin_yes hb]
    have hat := begun1_at ht
    have hst2 : ((begun1 m).at m.turn).stuck = false := by rw [hat]; exact hst
    have hne : ¬ ((m.at m.turn).queue = [] ∨ (m.at m.turn).credit = 0) := fun e => by rw [(stuck_iff _).2 e] at hst; cases hst
    have hs := h.s _ h.turn
    have hd := h.d _ h.turn
    unfold Mod.dmax at hd
    rw [if_neg (by simp [hb])] at hd
    have hp := share_pos h.c h.turn
    refine ⟨⟨h.c, by show (m.upd m.turn _).ss.length = _; rw [len_upd]; exact h.len, h.turn, fun j hj => ?_, fun j hj => ?_, fun _ _ => ?_, ?_, h.now, h.ctl, h.inn, h.died, fun hd0 => ?_⟩, rfl, hst2⟩
    · by_cases e : m.turn = j
      · subst e
        rw [hat]
        exact ⟨hs.credit, hs.room, hs.msgs, fun x => absurd (.inl (hs.silent x).1) hne, hs.deaf, hs.why⟩
      · exact (at_upd_ne (m := m) e) ▸ h.s j hj
    · by_cases e : m.turn = j
      · subst e
        rw [hat]
        show (m.at m.turn).deficit + m.share ≤ (begun1 m).dmax m.turn
        unfold Mod.dmax
        rw [if_pos ⟨rfl, rfl⟩]
        exact Nat.add_le_add hd (Nat.le_refl _)
      · have e1 : (begun1 m).at j = m.at j := at_upd_ne (m := m) e
        rw [e1]
        have := h.d j hj
        unfold Mod.dmax at this ⊢
        rw [if_neg (fun x => e x.1.symm)] at this
        exact Nat.le_trans this (Nat.le_add_right _ _)
    · right
      show ((begun1 m).at m.turn).queue ≠ [] ∧ 0 < ((begun1 m).at m.turn).credit ∧ 0 < ((begun1 m).at m.turn).deficit
      rw [hat]
      refine ⟨fun e => hne (.inl e), by show 0 < (m.at m.turn).credit; omega, ?_⟩
      show 0 < (m.at m.turn).deficit + m.share
      have : m.share = m.shareOf m.turn := rfl
      omega
    · have := queued_upd_eq m m.turn { m.at m.turn with deficit := (m.at m.turn).deficit + m.share } ht
      have e2 : ({ m.at m.turn with deficit := (m.at m.turn).deficit + m.share } : Stm).left = (m.at m.turn).left := rfl
      rw [e2] at this
      have hq := h.q
      show (m.upd m.turn _).queued ≤ m.c.queue
      omega
    · exact absurd (.inl (h.dead hd0 _ h.turn).1) hne
theorem Mod.Inv.looks {m : Mod} (k : Nat) (h : m.Inv) (hl : m.died = 0) : (m.looks k).Inv := by
  induction k generalizing m with
  | zero => exact h
  | succ k ih =>
    cases hst : (m.at m.turn).stuck
    · rw [looks_goes hst]
      obtain ⟨a, b, c⟩ := h.begins hst
      exact a.frames b c
    · rw [looks_stuck hst]
      exact ih (h.idles hl hst) hl
theorem Mod.Inv.chosen {m : Mod} (h : m.Inv) : m.chosen.Inv := by
  unfold Mod.chosen
  cases hc : m.control with
  | nil =>
    simp only
    split
    · rename_i hl
      exact h.looks _ hl
    · exact h
  | cons f r =>
    have := h.ctl f (by rw [hc]; exact List.mem_cons_self ..)
    exact ⟨h.c, h.len, h.turn, h.s, h.d, h.mid, h.q, by show f.size ≤ 12; omega, fun x hx => h.ctl x (by rw [hc]; exact List.mem_cons_of_mem _ hx), h.inn, h.died, h.dead⟩
theorem Mod.Inv.next {m : Mod} (h : m.Inv) : m.next.Inv := by
  unfold Mod.next
  split
  · exact h.chosen
  · exact h
theorem Mod.Inv.gives {m : Mod} (h : m.Inv) : m.gives.Inv :=
  ⟨h.c, h.len, h.turn, h.s, h.d, h.mid, h.q, by show (m.now.extract 1 m.now.size).size ≤ 12; rw [ex_size]; have := h.now; omega, h.ctl, h.inn, h.died, h.dead⟩
theorem Mod.Inv.write (k : Nat) : ∀ {m : Mod} (_ : m.Inv) (out : ByteArray), (Mod.write k m out).2.Inv := by
  induction k with
  | zero => intro m h out; exact h
  | succ k ih =>
    intro m h out
    rw [Mod.write]
    split
    · exact h.next
    · exact ih h.next.gives _
theorem ba_zero {b : ByteArray} (h : b.size = 0) : b = ⟨#[]⟩ := by
  apply ByteArray.ext
  exact Array.eq_empty_of_size_eq_zero h
theorem write_none {m : Mod} {k : Nat} {o : ByteArray} (h : m.next.now.size = 0) : Mod.write (k + 1) m o = (o, m.next) := by rw [Mod.write, if_pos h]
theorem write_one {m : Mod} {k : Nat} {o : ByteArray} (h : m.next.now.size ≠ 0) : Mod.write (k + 1) m o = Mod.write k m.next.gives (o ++ m.next.now.extract 0 1) := by rw [Mod.write, if_neg h]
def Stm.zero : Stm := ⟨[], 0, 0, 0, false, false, noB, 0, false, false, false⟩
def Mod.flowS (m : Mod) (i : Int) : Stm := if m.is i = true then m.flow i.toNat else Stm.zero
def Mod.flowE (m : Mod) (i : Int) : Nat := if m.is i = true then 0 else 2
theorem begN_pos (L : List UInt8) : 1 ≤ begN L := by unfold begN; omega
theorem begN_small {L : List UInt8} {m : Int} (h : begT L m = 2) : begN L ≤ L.length ∧ (begN L : Int) ≤ m := by
  unfold begT at h
  split at h
  · cases h
  split at h
  · cases h
  split at h
  · cases h
  split at h
  · cases h
  split at h
  · cases h
  split at h
  · cases h
  omega
theorem byteB_size (n : Nat) : (byteB n).size = 1 := rfl
def goneN : Nat → Mod → Mod
  | 0, m => m
  | i + 1, m => (goneN i m).upd i ((goneN i m).at i).gone
theorem goneN_ss (m : Mod) (i : Nat) (h : i ≤ m.ss.length) : (goneN i m).ss = (m.ss.take i).map Stm.gone ++ m.ss.drop i ∧ ∃ l, goneN i m = { m with ss := l } := by
  induction i with
  | zero => exact ⟨by simp [goneN], m.ss, rfl⟩
  | succ i ih =>
    obtain ⟨e1, l, e2⟩ := ih (by omega)
    refine ⟨?_, ?_⟩
    · show (goneN i m).ss.set i ((goneN i m).at i).gone = _
      have hat : (goneN i m).at i = m.at i := by
        unfold Mod.at
        rw [e1, List.getD_eq_getElem?_getD, List.getD_eq_getElem?_getD, List.getElem?_append_right (by simp; omega)]
        congr 1
        simp [List.length_take, Nat.min_eq_left (show i ≤ m.ss.length by omega)]
      rw [hat, e1]
      have hi : i < m.ss.length := by omega
      have hlen : ((m.ss.take i).map Stm.gone).length = i := by simp; omega
      rw [List.set_append_right _ _ (by omega), hlen, Nat.sub_self]
      have hd : m.ss.drop i = m.ss[i] :: m.ss.drop (i + 1) := List.drop_eq_getElem_cons hi
      have ha : m.at i = m.ss[i] := by unfold Mod.at; rw [List.getD_eq_getElem?_getD, List.getElem?_eq_getElem hi]; rfl
      rw [hd, List.set_cons_zero, List.take_succ_eq_append_getElem hi, List.map_append, ha]
      simp
    · refine ⟨(goneN i m).ss.set i ((goneN i m).at i).gone, ?_⟩
      show (goneN i m).upd i _ = _
      unfold Mod.upd
      rw [e2]
theorem goneN_all (m : Mod) : goneN m.ss.length m = { m with ss := m.ss.map Stm.gone } := by
  obtain ⟨e1, l, e2⟩ := goneN_ss m m.ss.length (Nat.le_refl _)
  rw [e2]
  rw [e2] at e1
  simp at e1
  rw [e1]
theorem goneN_len (m : Mod) (i : Nat) : (goneN i m).ss.length = m.ss.length := by
  induction i with
  | zero => rfl
  | succ i ih => show ((goneN i m).upd i _).ss.length = _; rw [len_upd, ih]
theorem scan_fuel (most : Nat) : ∀ (k : Nat) (L : List UInt8), L.length ≤ k → scan most k L = scan most L.length L := by
  intro k
  induction k using Nat.strongRecOn with
  | _ k ih =>
    intro L hL
    cases k with
    | zero => rw [show L = [] from List.eq_nil_of_length_eq_zero (by omega)]; rfl
    | succ k =>
      cases L with
      | nil => rfl
      | cons a r =>
        rw [List.length_cons] at hL ⊢
        rw [scan, scan]
        simp only [reduceCtorEq, if_false]
        split
        · rfl
        split
        · rfl
        have hp := begN_pos (a :: r)
        have hd : ((a :: r).drop (begN (a :: r))).length ≤ r.length := by rw [List.length_drop, List.length_cons]; omega
        rw [ih k (by omega) _ (by omega)]
        by_cases e : r.length = k
        · rw [e, ih k (by omega) _ (by omega)]
        · rw [ih r.length (by omega) _ hd]
theorem scanB_nil (most : Nat) : scanB most ⟨#[]⟩ = 0 := rfl
theorem ba_len (b : ByteArray) : b.data.toList.length = b.size := by rw [Array.length_toList]; rfl
theorem scanB_cons (most : Nat) (b : ByteArray) (h : b.size ≠ 0) : scanB most b = if begT b.data.toList most = 1 then 1 else if begT b.data.toList most = 0 then 2 else scan most (b.size - 1) (b.data.toList.drop (begN b.data.toList)) := by
  unfold scanB
  obtain ⟨k, hk⟩ : ∃ k, b.size = k + 1 := ⟨b.size - 1, by omega⟩
  rw [hk, scan, if_neg (by intro e; have := ba_len b; rw [e] at this; simp at this; omega), Nat.add_sub_cancel]
theorem drop_data (b : ByteArray) (n : Nat) : (b.extract n b.size).data.toList = b.data.toList.drop n := by
  rw [ByteArray.data_extract]
  simp only [Array.toList_extract, List.extract_eq_take_drop]
  exact List.take_of_length_le (by rw [List.length_drop, ba_len]; omega)
theorem scanB_step (most : Nat) (b : ByteArray) (h : b.size ≠ 0) (h2 : begT b.data.toList most = 2) : scanB most b = scanB most (b.extract (begN b.data.toList) b.size) := by
  rw [scanB_cons most b h, h2]
  rw [if_neg (by decide), if_neg (by decide)]
  have hp := begN_pos b.data.toList
  have hl := ba_len b
  unfold scanB
  rw [← drop_data, scan_fuel most _ _ (by rw [ba_len, ex_size]; omega), ba_len]
theorem begT_lt (L : List UInt8) (m : Int) : begT L m = 0 ∨ begT L m = 1 ∨ begT L m = 2 := by
  unfold begT
  repeat' split
  all_goals simp
theorem scanB_le (most : Nat) (b : ByteArray) : scanB most b = 0 ∨ scanB most b = 1 ∨ scanB most b = 2 := by
  unfold scanB
  generalize b.size = k
  generalize b.data.toList = L
  induction k generalizing L with
  | zero => exact .inl rfl
  | succ k ih =>
    rw [scan]
    split
    · exact .inl rfl
    split
    · exact .inr (.inl rfl)
    split
    · exact .inr (.inr rfl)
    · exact ih _
theorem four_bytes {b : ByteArray} (h : b.size = 4) : ∃ k i n c : UInt8, b = ⟨#[k, i, n, c]⟩ := by
  obtain ⟨⟨l⟩⟩ := b
  have h4 : l.length = 4 := h
  match l, h4 with
  | [k, i, n, c], _ => exact ⟨k, i, n, c, rfl⟩
/-- what a header is answered with -/
def hdN (X C K I N L ck : Nat) (cn rs : Bool) (ow : Nat) : Nat :=
  if X ≠ C then 8 else if K < 1 ∨ 5 < K ∨ L ≤ I then 9 else if K = 1 ∧ (N < 1 ∨ ck < N) then 9 else if (K = 2 ∨ K = 5) ∧ N ≠ 1 then 9 else
  if (K = 3 ∨ K = 4) ∧ N ≠ 0 then 9 else if K = 5 ∧ I ≠ 0 then 9 else if K = 1 ∧ (cn = true ∨ (rs = false ∧ ow < N)) then 10 else 0
/-- the header of a frame that is coming, as it was let by -/
structure HeadOk (m : Mod) (h : ByteArray) : Prop where
  kind : 1 ≤ (h.data.toList.getD 0 0).toNat ∧ (h.data.toList.getD 0 0).toNat ≤ 5
  stream : (h.data.toList.getD 1 0).toNat < m.ss.length
  can : (h.data.toList.getD 0 0).toNat = 1 → (m.at (h.data.toList.getD 1 0).toNat).cancels = false
  one : (h.data.toList.getD 0 0).toNat = 1 → (h.data.toList.getD 2 0).toNat ≤ m.c.chunk ∧ ((m.at (h.data.toList.getD 1 0).toNat).reset = false → (h.data.toList.getD 2 0).toNat ≤ (m.at (h.data.toList.getD 1 0).toNat).owed)
  two : (h.data.toList.getD 0 0).toNat = 2 ∨ (h.data.toList.getD 0 0).toNat = 5 → (h.data.toList.getD 2 0).toNat = 1
  three : (h.data.toList.getD 0 0).toNat = 3 ∨ (h.data.toList.getD 0 0).toNat = 4 → (h.data.toList.getD 2 0).toNat = 0
def Mod.Hd (m : Mod) : Prop := 4 ≤ m.inn.size → HeadOk m m.inn ∧ m.inn.size < 4 + (m.inn.data.toList.getD 2 0).toNat
theorem HeadOk.len {m : Mod} {h : ByteArray} (k : HeadOk m h) (hc : m.c.chunk ≤ 8) : (h.data.toList.getD 2 0).toNat ≤ 8 := by
  have := k.kind
  have h1 := k.one
  have h2 := k.two
  have h3 := k.three
  generalize (h.data.toList.getD 0 0).toNat = K at *
  generalize (h.data.toList.getD 2 0).toNat = N at *
  have : K = 1 ∨ K = 2 ∨ K = 3 ∨ K = 4 ∨ K = 5 := by omega
  rcases this with e | e | e | e | e
  · have := (h1 e).1; omega
  · have := h2 (.inl e); omega
  · have := h3 (.inl e); omega
  · have := h3 (.inr e); omega
  · have := h2 (.inr e); omega
theorem headOk_of {m : Mod} {h : ByteArray} (e : m.header h = 0) : HeadOk m h := by
  unfold Mod.header at e
  simp only at e
  split at e
  · cases e
  split at e
  · cases e
  split at e
  · cases e
  split at e
  · cases e
  split at e
  · cases e
  split at e
  · cases e
  split at e
  · cases e
  rename_i a1 a2 a3 a4 a5 a6 a7
  refine ⟨by omega, by omega, fun k => ?_, fun k => ⟨by omega, fun r => ?_⟩, fun k => by omega, fun k => by omega⟩
  · cases hc : (m.at (h.data.toList.getD 1 0).toNat).cancels
    · rfl
    · exact absurd ⟨k, .inl hc⟩ a7
  rcases Nat.lt_or_ge (m.at (h.data.toList.getD 1 0).toNat).owed (h.data.toList.getD 2 0).toNat with x | x
  · exact absurd ⟨k, .inr ⟨r, x⟩⟩ a7
  · exact x
theorem push_data (b : ByteArray) (x : UInt8) : (b.push x).data.toList = b.data.toList ++ [x] := by
  show (b.data.push x).toList = _
  simp
theorem push_size (b : ByteArray) (x : UInt8) : (b.push x).size = b.size + 1 := by
  show (b.data.push x).size = _
  simp
theorem push_getD (b : ByteArray) (x : UInt8) (i : Nat) (h : i < b.size) : (b.push x).data.toList.getD i 0 = b.data.toList.getD i 0 := by
  rw [push_data, List.getD_eq_getElem?_getD, List.getD_eq_getElem?_getD, List.getElem?_append_left (by rw [ba_len]; exact h)]
/-- the header stands as bytes follow -/
theorem HeadOk.push {m : Mod} {x : UInt8} (k : HeadOk m m.inn) (h4 : 4 ≤ m.inn.size) (n : ByteArray) : HeadOk { m with inn := n } (m.inn.push x) := by
  have e0 := push_getD m.inn x 0 (by omega)
  have e1 := push_getD m.inn x 1 (by omega)
  have e2 := push_getD m.inn x 2 (by omega)
  constructor
  · rw [e0]; exact k.kind
  · rw [e1]; exact k.stream
  · rw [e0, e1]; exact k.can
  · rw [e0, e1, e2]; exact k.one
  · rw [e0, e2]; exact k.two
  · rw [e0, e2]; exact k.three
theorem Mod.Inv.inns {m : Mod} (h : m.Inv) (n : ByteArray) (hn : n.size ≤ 12) : ({ m with inn := n } : Mod).Inv :=
  ⟨h.c, h.len, h.turn, h.s, h.d, h.mid, h.q, h.now, h.ctl, hn, h.died, h.dead⟩
theorem noB_size : noB.size = 0 := rfl
theorem Stm.Inv.silents {c : Cfg} {s : Stm} (h : s.Inv c) : s.silent.Inv c :=
  ⟨h.credit, h.room, by simp [Stm.silent], fun _ => ⟨rfl, rfl⟩, h.deaf, h.why⟩
theorem upd_same_left {m : Mod} (h : m.Inv) {i : Nat} {s : Stm} (hi : i < m.c.n) (hl : s.left ≤ (m.at i).left) : (m.upd i s).queued ≤ m.c.queue :=
  Nat.le_trans (queued_upd m i s (by rw [h.len]; exact hi) hl) h.q
/-- a whole frame that does no harm -/
theorem Mod.Inv.wholes {m : Mod} (h : m.Inv) (hl : m.died = 0) {K I : Nat} {p : ByteArray} (hI : I < m.c.n) (h1 : K = 1 → (m.at I).reset = false → p.size ≤ (m.at I).owed) (h2 : (m.whole K I p).2 = 0)
    (hdf : K = 1 → (m.at I).reset = false → (m.at I).noRecv = false) : (m.whole K I p).1.Inv ∧ (m.whole K I p).1.died = 0 := by
  have hs := h.s I hI
  have hd := h.d I hI
  unfold Mod.whole at h2 ⊢
  simp only at h2 ⊢
  split
  · rename_i k1
    rw [if_pos k1] at h2
    unfold Mod.comes at h2 ⊢
    simp only at h2 ⊢
    cases hr : (m.at I).reset
    · simp only [Bool.false_eq_true, if_false]
      have hp := h1 k1 hr
      refine ⟨h.upd hI ⟨hs.credit, ?_, hs.msgs, hs.silent, fun e => ?_, by have := hs.why; rw [hr] at this; exact this⟩ hd (fun e hb hl => by subst e; exact h.mid hb hl) (upd_same_left h hI (Nat.le_refl _)) (fun e => absurd hl e), hl⟩
      · show (m.at I).owed - p.size + ((m.at I).came ++ p).size ≤ _
        rw [ByteArray.size_append]
        have := hs.room
        omega
      · rw [show ({ m.at I with came := (m.at I).came ++ p, owed := (m.at I).owed - p.size, since := m.time } : Stm).noRecv = (m.at I).noRecv from rfl, hdf k1 hr] at e
        cases e
    · simp only [if_true]
      exact ⟨h, hl⟩
  rename_i k1
  rw [if_neg k1] at h2
  split
  · rename_i k2
    rw [if_pos k2] at h2
    split
    · exact ⟨h, hl⟩
    rename_i g0
    rw [if_neg g0] at h2
    split
    · exact ⟨h, hl⟩
    · rename_i g1
      refine ⟨h.upd hI ⟨by show (m.at I).credit + _ ≤ _; omega, hs.room, hs.msgs, hs.silent, hs.deaf, hs.why⟩ hd (fun e hb hl2 => ?_) (upd_same_left h hI (Nat.le_refl _)) (fun e => absurd hl e), hl⟩
      subst e
      rcases h.mid hb hl2 with x | x
      · exact .inl x
      · exact .inr ⟨x.1, by show 0 < (m.at m.turn).credit + _; omega, x.2.2⟩
  rename_i k2
  split
  · split
    · exact ⟨h, hl⟩
    · refine ⟨h.upd hI ?_ hd (fun e hb hl => by subst e; exact h.mid hb hl) (upd_same_left h hI (Nat.le_refl _)) (fun e => absurd hl e), hl⟩
      exact ⟨hs.credit, by show (m.at I).owed + noB.size ≤ _; rw [noB_size]; have := hs.room; omega, hs.msgs, hs.silent, fun _ => rfl, fun _ => .inl rfl⟩
  split
  · split
    · exact ⟨h, hl⟩
    · refine ⟨h.upd hI ?_ (Nat.zero_le _) (fun _ _ _ => .inl rfl) (upd_same_left h hI (Nat.zero_le _)) (fun e => absurd hl e), hl⟩
      have := hs.silents
      exact ⟨this.credit, this.room, this.msgs, this.silent, this.deaf, this.why⟩
  split
  · exact ⟨h, hl⟩
  · exact ⟨h, hl⟩
/-- a byte that does no harm -/
theorem readB_ok {m : Mod} {b : UInt8} (h : m.Inv) (hd : m.Hd) (hl : m.died = 0) (h0 : (m.readB b).2 = 0) : (m.readB b).1.Inv ∧ (m.readB b).1.Hd ∧ (m.readB b).1.died = 0 := by
  have hsz := push_size m.inn b
  unfold Mod.readB at h0 ⊢
  simp only at h0 ⊢
  by_cases hf : (if (m.inn.push b).size = 4 then m.header (m.inn.push b) else 0) = 0
  · rw [if_neg (by simpa using hf)] at h0 ⊢
    have hok : 4 ≤ (m.inn.push b).size → HeadOk { m with inn := m.inn.push b } (m.inn.push b) ∧ (m.inn.push b).size ≤ 4 + ((m.inn.push b).data.toList.getD 2 0).toNat := by
      intro h4
      by_cases e4 : (m.inn.push b).size = 4
      · rw [if_pos e4] at hf
        have := headOk_of hf
        exact ⟨⟨this.kind, this.stream, this.can, this.one, this.two, this.three⟩, by omega⟩
      · obtain ⟨k1, k2⟩ := hd (by omega)
        refine ⟨k1.push (by omega) _, ?_⟩
        rw [push_getD m.inn b 2 (by omega)]
        omega
    by_cases hw : 4 ≤ (m.inn.push b).size ∧ (m.inn.push b).size = 4 + ((m.inn.push b).data.toList.getD 2 0).toNat
    · rw [if_pos hw] at h0 ⊢
      obtain ⟨k1, k2⟩ := hok hw.1
      have hlen := k1.len h.c.c8
      have hi : ({ m with inn := m.inn.push b } : Mod).Inv := h.inns _ (by omega)
      have hI : ((m.inn.push b).data.toList.getD 1 0).toNat < m.c.n := by rw [← h.len]; exact k1.stream
      by_cases hz : (({ m with inn := m.inn.push b } : Mod).whole ((m.inn.push b).data.toList.getD 0 0).toNat ((m.inn.push b).data.toList.getD 1 0).toNat ((m.inn.push b).extract 4 (m.inn.push b).size)).2 = 0
      · rw [if_neg (by simpa using hz)] at h0 ⊢
        obtain ⟨j1, j2⟩ := hi.wholes hl hI (fun e r => by
          rw [ex_size]
          have := (k1.one e).2 r
          have e2 := hw.2
          omega) hz (fun e r => by
          have hw := (h.s _ hI).why
          have hc := k1.can e
          cases hn : (m.at ((m.inn.push b).data.toList.getD 1 0).toNat).noRecv
          · exact hn
          · rcases hw hn with x | x
            · rw [show (m.at ((m.inn.push b).data.toList.getD 1 0).toNat).cancels = false from hc] at x; cases x
            · rw [show (m.at ((m.inn.push b).data.toList.getD 1 0).toNat).reset = false from r] at x; cases x)
        exact ⟨j1.inns noB (by rw [noB_size]; omega), fun e => by rw [show ({ (({ m with inn := m.inn.push b } : Mod).whole ((m.inn.push b).data.toList.getD 0 0).toNat ((m.inn.push b).data.toList.getD 1 0).toNat ((m.inn.push b).extract 4 (m.inn.push b).size)).1 with inn := noB } : Mod).inn = noB from rfl, noB_size] at e; omega, j2⟩
      · rw [if_pos hz] at h0
        exact absurd h0 hz
    · rw [if_neg hw] at h0 ⊢
      refine ⟨h.inns _ ?_, fun h4 => ?_, hl⟩
      · rcases Nat.lt_or_ge (m.inn.push b).size 4 with x | x
        · omega
        · obtain ⟨k1, k2⟩ := hok x
          have := k1.len h.c.c8
          omega
      · obtain ⟨k1, k2⟩ := hok h4
        refine ⟨k1, ?_⟩
        show (m.inn.push b).size < 4 + ((m.inn.push b).data.toList.getD 2 0).toNat
        have : (m.inn.push b).size ≠ 4 + ((m.inn.push b).data.toList.getD 2 0).toNat := fun e => hw ⟨h4, e⟩
        omega
  · rw [if_pos hf] at h0
    exact absurd h0 hf
theorem push_ext (a s : ByteArray) (i : Nat) (h : i < s.size) : a ++ s.extract i (i + 1) = a.push (s.data.toList.getD i 0) := by
  have hi : i < s.data.size := h
  have e1 : (a ++ s.extract i (i + 1)).data.toList = (a.push (s.data.toList.getD i 0)).data.toList := by
    rw [push_data, ByteArray.data_append, Array.toList_append, ByteArray.data_extract]
    congr 1
    simp only [Array.toList_extract, List.extract_eq_take_drop]
    have hl : i < s.data.toList.length := by rw [ba_len]; exact h
    rw [show i + 1 - i = 1 by omega, List.drop_eq_getElem_cons hl, List.take_succ_cons, List.take_zero, List.getD_eq_getElem?_getD, List.getElem?_eq_getElem hl]
    rfl
  apply ByteArray.ext
  rw [← Array.toList_inj]
  exact e1
theorem whole_inn (m : Mod) (K I : Nat) (p : ByteArray) : (m.whole K I p).1.inn = m.inn ∧ (m.whole K I p).1.ss.length = m.ss.length ∧ (m.whole K I p).2 ≤ 12 := by
  unfold Mod.whole
  simp only
  split
  · unfold Mod.comes
    simp only
    split
    · exact ⟨rfl, rfl, by show _ ≤ 12; simp⟩
    · refine ⟨rfl, len_upd _ _ _, ?_⟩
      show (if _ then 11 else 0) ≤ 12
      split <;> decide
  split
  · split
    · exact ⟨rfl, rfl, by show _ ≤ 12; simp⟩
    split
    · exact ⟨rfl, rfl, by show _ ≤ 12; simp⟩
    · exact ⟨rfl, len_upd _ _ _, by show _ ≤ 12; simp⟩
  split
  · split
    · exact ⟨rfl, rfl, by show _ ≤ 12; simp⟩
    · exact ⟨rfl, len_upd _ _ _, by show _ ≤ 12; simp⟩
  split
  · split
    · exact ⟨rfl, rfl, by show _ ≤ 12; simp⟩
    · exact ⟨rfl, len_upd _ _ _, by show _ ≤ 12; simp⟩
  split
  · exact ⟨rfl, rfl, by show _ ≤ 12; simp⟩
  · exact ⟨rfl, rfl, by show _ ≤ 12; simp⟩
theorem header_le (m : Mod) (h : ByteArray) : m.header h ≤ 12 := by
  unfold Mod.header
  simp only
  repeat' split
  all_goals decide
/-- what a byte makes of an end, in two steps: the header, the whole frame -/
def Mod.rd1 (m : Mod) (b : UInt8) : Mod := { m with inn := m.inn.push b }
def Mod.rdF (m : Mod) (b : UInt8) : Nat := if (m.inn.push b).size = 4 then (m.rd1 b).header (m.inn.push b) else 0
def Mod.rdW (m : Mod) (b : UInt8) : Bool := decide (4 ≤ (m.inn.push b).size) && decide ((m.inn.push b).size = 4 + ((m.inn.push b).data.toList.getD 2 0).toNat)
def Mod.rdR (m : Mod) (b : UInt8) : Mod × Nat := (m.rd1 b).whole ((m.inn.push b).data.toList.getD 0 0).toNat ((m.inn.push b).data.toList.getD 1 0).toNat ((m.inn.push b).extract 4 (m.inn.push b).size)
theorem readB_bad {m : Mod} {b : UInt8} (h : m.rdF b ≠ 0) : m.readB b = ((m.rd1 b).dies (m.rdF b), m.rdF b) := by
  unfold Mod.readB
  simp only
  have e : (if (m.inn.push b).size = 4 then m.header (m.inn.push b) else 0) = m.rdF b := rfl
  rw [e, if_pos h]
  rfl
theorem readB_more {m : Mod} {b : UInt8} (h : m.rdF b = 0) (hw : m.rdW b = false) : m.readB b = (m.rd1 b, 0) := by
  unfold Mod.readB
  simp only
  have e : (if (m.inn.push b).size = 4 then m.header (m.inn.push b) else 0) = m.rdF b := rfl
  rw [e, if_neg (by simpa using h), if_neg (by unfold Mod.rdW at hw; rintro ⟨a, c⟩; rw [decide_eq_true a, decide_eq_true c] at hw; cases hw)]
  rfl
theorem readB_whole {m : Mod} {b : UInt8} (h : m.rdF b = 0) (hw : m.rdW b = true) : m.readB b = if (m.rdR b).2 ≠ 0 then (({ (m.rdR b).1 with inn := noB } : Mod).dies (m.rdR b).2, (m.rdR b).2) else ({ (m.rdR b).1 with inn := noB }, 0) := by
  unfold Mod.readB
  simp only
  have e : (if (m.inn.push b).size = 4 then m.header (m.inn.push b) else 0) = m.rdF b := rfl
  rw [e, if_neg (by simpa using h), if_pos (by unfold Mod.rdW at hw; rw [Bool.and_eq_true, decide_eq_true_eq, decide_eq_true_eq] at hw; exact hw)]
  rfl
theorem rd_ok {m : Mod} {b : UInt8} (hd : m.Hd) (hf : m.rdF b = 0) (h4 : 4 ≤ (m.inn.push b).size) : HeadOk (m.rd1 b) (m.inn.push b) := by
  have hsz := push_size m.inn b
  by_cases e4 : (m.inn.push b).size = 4
  · unfold Mod.rdF at hf
    rw [if_pos e4] at hf
    exact headOk_of hf
  · exact (hd (by omega)).1.push (by omega) _
structure TickFit (m : Mod) : Prop where
  live : m.died = 0
  time : m.time ≤ 1152921504606846976
  pat : m.c.patience ≤ 9
  s : ∀ j, j < m.ss.length → (m.at j).came.size ≤ 1000 ∧ (m.at j).since ≤ 1152921504606846976
def Mod.tickAt (m : Mod) (i : Nat) : Mod := if m.late i then (m.upd i { (m.at i).deaf with reset := true }).put (frameB 4 i noB) else m
theorem ticks_step (m : Mod) (k i : Nat) : Mod.ticks (k + 1) i m = Mod.ticks k (i + 1) (m.tickAt i) := rfl
theorem TickFit.tickAt {m : Mod} (h : TickFit m) {i : Nat} (hi : i < m.ss.length) : TickFit (m.tickAt i) := by
  unfold Mod.tickAt
  split
  · refine ⟨h.live, h.time, h.pat, fun j hj => ?_⟩
    have hj' : j < m.ss.length := by rw [show ((m.upd i { (m.at i).deaf with reset := true }).put (frameB 4 i noB)).ss.length = (m.upd i { (m.at i).deaf with reset := true }).ss.length from rfl, len_upd] at hj; exact hj
    show ((m.upd i { (m.at i).deaf with reset := true }).at j).came.size ≤ 1000 ∧ ((m.upd i { (m.at i).deaf with reset := true }).at j).since ≤ _
    by_cases e : i = j
    · subst e
      rw [at_upd_eq hi]
      exact ⟨by show noB.size ≤ 1000; rw [noB_size]; omega, (h.s i hi).2⟩
    · rw [at_upd_ne e]
      exact h.s j hj'
  · exact h
theorem sumL_zero {l : List Nat} (h : ∀ x ∈ l, x = 0) : sumL l = 0 := by
  induction l with
  | nil => rfl
  | cons a r ih =>
    rw [sumL, h a (List.mem_cons_self ..), ih (fun x hx => h x (List.mem_cons_of_mem _ hx))]
theorem fresh_at (c : Cfg) {j : Nat} (h : j < c.n) : (Mod.fresh c).at j = Stm.fresh c.window := by
  unfold Mod.at Mod.fresh
  rw [List.getD_eq_getElem?_getD, List.getElem?_replicate, if_pos h]
  rfl
theorem Mod.Inv.fresh {c : Cfg} (hc : c.Ok) : (Mod.fresh c).Inv where
  c := hc
  len := by simp [Mod.fresh]
  turn := hc.n1
  s := fun i hi => by
    rw [fresh_at c hi]
    exact ⟨Nat.le_refl _, by show c.window + noB.size ≤ c.window; rw [noB_size]; omega, by simp [Stm.fresh], by simp [Stm.fresh], by simp [Stm.fresh], by simp [Stm.fresh]⟩
  d := fun i hi => by rw [fresh_at c hi]; exact Nat.zero_le _
  mid := fun h _ => by simp [Mod.fresh] at h
  q := by
    have : (Mod.fresh c).queued = 0 := sumL_zero (by
      intro x hx
      simp only [Mod.fresh, List.map_replicate, List.mem_replicate] at hx
      rw [hx.2]
      rfl)
    rw [this]
    exact Nat.zero_le _
  now := by show noB.size ≤ 12; rw [noB_size]; omega
  ctl := by simp [Mod.fresh]
  inn := by show noB.size ≤ 12; rw [noB_size]; omega
  died := Nat.zero_le _
  dead := fun h => absurd rfl h
theorem is_lt {m : Mod} {i : Int} (h : m.is i = true) : i.toNat < m.ss.length := by
  unfold Mod.is at h
  rw [Bool.and_eq_true, decide_eq_true_eq, decide_eq_true_eq] at h
  omega
theorem packed_size {ss : List ByteArray} (h : properB ss = true) : (packed ss).size ≤ 49 := by
  obtain ⟨h1, h2⟩ := proper_mem h
  show (packL ss).toArray.size ≤ 49
  have := sizes_le' ss h2
  simp only [List.size_toArray, packL_eq, List.length_cons, List.length_append, lens_len]
  omega
theorem Mod.Inv.submit {m : Mod} (h : m.Inv) (i : Int) (ss : List ByteArray) : (m.submit i ss).Inv := by
  unfold Mod.submit
  split
  · rename_i e
    unfold Mod.submitE at e
    split at e
    · cases e
    rename_i hd
    split at e
    · cases e
    rename_i his
    split at e
    · cases e
    rename_i hp
    split at e
    · cases e
    rename_i hns
    split at e
    · cases e
    rename_i hq
    have hi : i.toNat < m.ss.length := is_lt (by simpa using his)
    have hi' : i.toNat < m.c.n := by rw [← h.len]; exact hi
    have hs := h.s _ hi'
    have hpp : properB ss = true := by
      cases hx : properB ss
      · exact absurd (.inl hx) hp
      · rfl
    have hl : ({ m.at i.toNat with queue := (m.at i.toNat).queue ++ [packed ss] } : Stm).left = (m.at i.toNat).left + (packed ss).size := by
      show sizes ((m.at i.toNat).queue ++ [packed ss]) = _
      rw [sizes_append]
      rfl
    have hqq := queued_upd_eq m i.toNat { m.at i.toNat with queue := (m.at i.toNat).queue ++ [packed ss] } hi
    rw [hl] at hqq
    refine h.upd hi' ⟨hs.credit, hs.room, ?_, fun x => absurd x hns, hs.deaf, hs.why⟩ (h.d _ hi') (fun e hb hl0 => ?_) (by omega) (fun x => absurd x (by simpa using hd))
    · intro x hx
      replace hx : x ∈ (m.at i.toNat).queue ++ [packed ss] := hx
      rw [List.mem_append, List.mem_singleton] at hx
      rcases hx with hx | rfl
      · exact hs.msgs x hx
      · exact ⟨packed_pos ss, packed_size hpp⟩
    · rcases h.mid hb hl0 with x | x
      · rw [← e] at x
        exact absurd x hns
      · rw [← e] at x
        exact .inr ⟨by simp, x.2⟩
  · exact h
theorem Mod.Inv.puts {m : Mod} (h : m.Inv) (f : ByteArray) (hf : 0 < f.size ∧ f.size ≤ 5) : (m.put f).Inv :=
  ⟨h.c, h.len, h.turn, h.s, h.d, h.mid, h.q, h.now, fun x hx => by
    replace hx : x ∈ m.control ++ [f] := hx
    rw [List.mem_append, List.mem_singleton] at hx
    rcases hx with hx | rfl
    · exact h.ctl x hx
    · exact hf, h.inn, h.died, h.dead⟩
theorem frame_small (k i : Nat) {p : ByteArray} (hp : p.size ≤ 1) : 0 < (frameB k i p).size ∧ (frameB k i p).size ≤ 5 := by
  rw [frameB_size]
  omega
theorem Mod.Inv.cancel {m : Mod} (h : m.Inv) (i : Int) : (m.cancel i).Inv := by
  unfold Mod.cancel
  split
  · rename_i e
    unfold Mod.cancelE at e
    split at e
    · cases e
    rename_i hd
    split at e
    · cases e
    rename_i his
    have hi : i.toNat < m.ss.length := is_lt (by simpa using his)
    have hi' : i.toNat < m.c.n := by rw [← h.len]; exact hi
    refine (h.upd hi' (h.s _ hi').silents (Nat.zero_le _) (fun _ _ _ => .inl rfl) (upd_same_left h hi' (Nat.zero_le _)) (fun x => absurd x (by simpa using hd))).puts _ (frame_small _ _ (by rw [noB_size]; omega))
  · exact h
theorem first_facts {m : Mod} {i : Int} (e : m.firstE i = 0) : m.died = 0 ∧ i.toNat < m.ss.length ∧ (m.at i.toNat).noRecv = false ∧ begT (m.at i.toNat).came.data.toList m.c.window = 2 := by
  unfold Mod.firstE at e
  split at e
  · cases e
  rename_i hd
  split at e
  · cases e
  rename_i his
  split at e
  · cases e
  rename_i hnr
  split at e
  · rename_i hb
    exact ⟨by simpa using hd, is_lt (by simpa using his), by simpa using hnr, hb⟩
  · cases e
theorem Mod.Inv.release {m : Mod} (h : m.Inv) (i : Int) : (m.release i).Inv := by
  unfold Mod.release
  split
  · rename_i e
    obtain ⟨hd, hi, hnr, hb⟩ := first_facts e
    have hi' : i.toNat < m.c.n := by rw [← h.len]; exact hi
    have hs := h.s _ hi'
    have hbn := (begN_small hb).1
    rw [ba_len] at hbn
    show ((m.upd i.toNat { m.at i.toNat with came := (m.at i.toNat).came.extract (begN (m.at i.toNat).came.data.toList) (m.at i.toNat).came.size, owed := (m.at i.toNat).owed + begN (m.at i.toNat).came.data.toList }).put (frameB 2 i.toNat (byteB (begN (m.at i.toNat).came.data.toList)))).Inv
    have hinv : ({ m.at i.toNat with came := (m.at i.toNat).came.extract (begN (m.at i.toNat).came.data.toList) (m.at i.toNat).came.size, owed := (m.at i.toNat).owed + begN (m.at i.toNat).came.data.toList } : Stm).Inv m.c := by
      refine ⟨hs.credit, ?_, hs.msgs, hs.silent, fun x => ?_, hs.why⟩
      · show (m.at i.toNat).owed + begN (m.at i.toNat).came.data.toList + ((m.at i.toNat).came.extract (begN (m.at i.toNat).came.data.toList) (m.at i.toNat).came.size).size ≤ m.c.window
        rw [ex_size]
        have := hs.room
        omega
      · replace x : (m.at i.toNat).noRecv = true := x
        rw [hnr] at x
        cases x
    have h1 := h.upd (s := { m.at i.toNat with came := (m.at i.toNat).came.extract (begN (m.at i.toNat).came.data.toList) (m.at i.toNat).came.size, owed := (m.at i.toNat).owed + begN (m.at i.toNat).came.data.toList }) hi' hinv (h.d _ hi') (fun e hb hl => by have := h.mid hb hl; rw [← e] at this; exact this) (upd_same_left h hi' (Nat.le_refl _)) (fun x => absurd hd x)
    exact h1.puts _ (frame_small _ _ (Nat.le_of_eq (byteB_size _)))
  · exact h
theorem gone_at (m : Mod) (f j : Nat) (hj : j < m.ss.length) : (m.dies f).at j = (m.at j).gone := by
  unfold Mod.at Mod.dies
  simp only
  rw [List.getD_eq_getElem?_getD, List.getD_eq_getElem?_getD, List.getElem?_map, List.getElem?_eq_getElem hj]
  rfl
theorem Mod.Inv.dies {m : Mod} (h : m.Inv) {f : Nat} (hf : f ≤ 12) (h0 : f ≠ 0) : (m.dies f).Inv where
  c := h.c
  len := by show (m.ss.map Stm.gone).length = _; rw [List.length_map]; exact h.len
  turn := h.turn
  s := fun j hj => by
    have hs := h.s j hj
    rw [gone_at m f j (by rw [h.len]; exact hj)]
    exact ⟨hs.credit, by show (m.at j).owed + noB.size ≤ _; rw [noB_size]; have := hs.room; show _ ≤ m.c.window; omega, by simp [Stm.gone], fun x => ⟨rfl, (hs.silent x).2⟩, fun _ => rfl, hs.why⟩
  d := fun j hj => by
    rw [gone_at m f j (by rw [h.len]; exact hj)]
    exact h.d j hj
  mid := fun _ hl => absurd hl h0
  q := by
    have : (m.dies f).queued = 0 := sumL_zero (by
      intro x hx
      replace hx : x ∈ (m.ss.map Stm.gone).map Stm.left := hx
      rw [List.map_map, List.mem_map] at hx
      obtain ⟨s, _, rfl⟩ := hx
      rfl)
    rw [this]
    exact Nat.zero_le _
  now := h.now
  ctl := by
    show ∀ x ∈ (if f = 12 then [] else [frameB 5 0 (byteB f)]), _
    split
    · simp
    · intro x hx
      rw [List.mem_singleton] at hx
      subst hx
      exact frame_small _ _ (by rw [byteB_size]; omega)
  inn := by show noB.size ≤ 12; rw [noB_size]; omega
  died := hf
  dead := fun _ j hj => by
    rw [gone_at m f j (by rw [h.len]; exact hj)]
    exact ⟨rfl, rfl⟩
theorem at_upd (m : Mod) (i : Nat) (s : Stm) (j : Nat) : (m.upd i s).at j = if i = j ∧ i < m.ss.length then s else m.at j := by
  by_cases e : i = j
  · subst e
    by_cases h : i < m.ss.length
    · rw [at_upd_eq h, if_pos ⟨rfl, h⟩]
    · rw [if_neg (fun x => h x.2)]
      unfold Mod.at Mod.upd
      simp only
      rw [List.set_eq_of_length_le (by omega)]
  · rw [at_upd_ne e, if_neg (fun x => e x.1)]
/-- what is kept for receiving, and whether it is closed -/
structure Stm.Same (s t : Stm) : Prop where
  owed : t.owed = s.owed
  noSend : t.noSend = s.noSend
  noRecv : t.noRecv = s.noRecv
  came : t.came = s.came
  since : t.since = s.since
  reset : t.reset = s.reset
  cancels : t.cancels = s.cancels
  resets : t.resets = s.resets
theorem Stm.Same.refl (s : Stm) : s.Same s := ⟨rfl, rfl, rfl, rfl, rfl, rfl, rfl, rfl⟩
theorem Stm.Same.trans {a b c : Stm} (h : a.Same b) (k : b.Same c) : a.Same c :=
  ⟨k.owed.trans h.owed, k.noSend.trans h.noSend, k.noRecv.trans h.noRecv, k.came.trans h.came, k.since.trans h.since, k.reset.trans h.reset, k.cancels.trans h.cancels, k.resets.trans h.resets⟩
structure Mod.Same (m m1 : Mod) : Prop where
  c : m1.c = m.c
  len : m1.ss.length = m.ss.length
  inn : m1.inn = m.inn
  time : m1.time = m.time
  died : m1.died = m.died
  ctl : m1.control.length ≤ m.control.length
  s : ∀ j, (m.at j).Same (m1.at j)
theorem Mod.Same.refl (m : Mod) : m.Same m := ⟨rfl, rfl, rfl, rfl, rfl, Nat.le_refl _, fun _ => Stm.Same.refl _⟩
theorem Mod.Same.trans {a b c : Mod} (h : a.Same b) (k : b.Same c) : a.Same c :=
  ⟨k.c.trans h.c, k.len.trans h.len, k.inn.trans h.inn, k.time.trans h.time, k.died.trans h.died, Nat.le_trans k.ctl h.ctl, fun j => (h.s j).trans (k.s j)⟩
theorem Mod.Same.upd (m : Mod) (i : Nat) (s : Stm) (hs : (m.at i).Same s) : m.Same (m.upd i s) :=
  ⟨rfl, len_upd m i s, rfl, rfl, rfl, Nat.le_refl _, fun j => by
    rw [at_upd]
    split
    · rename_i e
      rw [← e.1]
      exact hs
    · exact Stm.Same.refl _⟩
theorem Mod.Same.passes (m : Mod) : m.Same m.passes := ⟨rfl, rfl, rfl, rfl, rfl, Nat.le_refl _, fun _ => Stm.Same.refl _⟩
theorem Mod.Same.nows (m : Mod) (b : ByteArray) : m.Same { m with now := b } := ⟨rfl, rfl, rfl, rfl, rfl, Nat.le_refl _, fun _ => Stm.Same.refl _⟩
theorem Mod.Same.framed (m : Mod) : m.Same m.framed := by
  unfold Mod.framed
  simp only
  have h1 : m.Same { m.upd m.turn ((m.at m.turn).cut ((m.at m.turn).cutN m.c.chunk) m.share) with now := frameB 1 m.turn (((m.at m.turn).queue.headD noB).extract 0 ((m.at m.turn).cutN m.c.chunk)) } :=
    (Mod.Same.upd m m.turn ((m.at m.turn).cut ((m.at m.turn).cutN m.c.chunk) m.share) ⟨rfl, rfl, rfl, rfl, rfl, rfl, rfl, rfl⟩).trans (Mod.Same.nows _ _)
  split
  · exact h1.trans (Mod.Same.passes _)
  · exact h1
theorem Mod.Same.begin (m : Mod) : m.Same m.begin := by
  unfold Mod.begin
  split
  · have h1 := Mod.Same.upd m m.turn { m.at m.turn with deficit := (m.at m.turn).deficit + m.share } ⟨rfl, rfl, rfl, rfl, rfl, rfl, rfl, rfl⟩
    exact ⟨h1.c, h1.len, h1.inn, h1.time, h1.died, h1.ctl, h1.s⟩
  · exact Mod.Same.refl _
theorem Stm.Same.idle (s : Stm) : s.Same s.idle := by
  unfold Stm.idle
  split
  · exact ⟨rfl, rfl, rfl, rfl, rfl, rfl, rfl, rfl⟩
  · exact Stm.Same.refl _
theorem Mod.Same.looks (k : Nat) (m : Mod) : m.Same (Mod.looks k m) := by
  induction k generalizing m with
  | zero => exact Mod.Same.refl _
  | succ k ih =>
    unfold Mod.looks
    split
    · exact ((Mod.Same.upd m m.turn _ (Stm.Same.idle _)).trans (Mod.Same.passes _)).trans (ih _)
    · exact (Mod.Same.begin m).trans (Mod.Same.framed _)
theorem Mod.Same.chosen (m : Mod) : m.Same m.chosen := by
  unfold Mod.chosen
  split
  · rename_i f r e
    exact ⟨rfl, rfl, rfl, rfl, rfl, by show r.length ≤ _; rw [e, List.length_cons]; omega, fun _ => Stm.Same.refl _⟩
  · split
    · exact Mod.Same.looks _ _
    · exact Mod.Same.refl _
theorem Mod.Same.next (m : Mod) : m.Same m.next := by
  unfold Mod.next
  split
  · exact Mod.Same.chosen m
  · exact Mod.Same.refl _
theorem Mod.Same.write (k : Nat) (m : Mod) (out : ByteArray) : m.Same (Mod.write k m out).2 := by
  induction k generalizing m out with
  | zero => exact Mod.Same.refl _
  | succ k ih =>
    unfold Mod.write
    split
    · exact Mod.Same.next m
    · exact ((Mod.Same.next m).trans (Mod.Same.nows _ _)).trans (ih _ _)
/-- a header that was let by stays so -/
theorem HeadOk.weaken {m m1 : Mod} {h : ByteArray} (k : HeadOk m h) (hc : m1.c = m.c) (hl : m1.ss.length = m.ss.length)
    (hs : ∀ j, (m1.at j).cancels = (m.at j).cancels ∧ ((m1.at j).reset = false → (m.at j).reset = false ∧ (m.at j).owed ≤ (m1.at j).owed)) : HeadOk m1 h where
  kind := k.kind
  stream := by rw [hl]; exact k.stream
  can := fun e => by rw [(hs _).1]; exact k.can e
  one := fun e => by
    rw [hc]
    refine ⟨(k.one e).1, fun r => ?_⟩
    obtain ⟨a, b⟩ := (hs _).2 r
    exact Nat.le_trans ((k.one e).2 a) b
  two := k.two
  three := k.three
theorem Mod.Hd.weaken {m m1 : Mod} (k : m.Hd) (hi : m1.inn = m.inn) (hc : m1.c = m.c) (hl : m1.ss.length = m.ss.length)
    (hs : ∀ j, (m1.at j).cancels = (m.at j).cancels ∧ ((m1.at j).reset = false → (m.at j).reset = false ∧ (m.at j).owed ≤ (m1.at j).owed)) : m1.Hd := by
  intro h4
  rw [hi] at h4 ⊢
  exact ⟨(k h4).1.weaken hc hl hs, (k h4).2⟩
theorem Mod.Hd.same {m m1 : Mod} (k : m.Hd) (h : m.Same m1) : m1.Hd :=
  k.weaken h.inn h.c h.len (fun j => ⟨(h.s j).cancels, fun r => ⟨by rw [(h.s j).reset] at r; exact r, by rw [(h.s j).owed]; exact Nat.le_refl _⟩⟩)
theorem Mod.Hd.upd {m : Mod} (k : m.Hd) (i : Nat) (s : Stm) (h1 : s.cancels = (m.at i).cancels) (h2 : s.reset = false → (m.at i).reset = false ∧ (m.at i).owed ≤ s.owed) : (m.upd i s).Hd := by
  refine k.weaken rfl rfl (len_upd m i s) (fun j => ?_)
  rw [at_upd]
  split
  · rename_i e
    rw [← e.1]
    exact ⟨h1, h2⟩
  · exact ⟨rfl, fun r => ⟨r, Nat.le_refl _⟩⟩
theorem Mod.Hd.puts {m : Mod} (k : m.Hd) (f : ByteArray) : (m.put f).Hd := k.weaken rfl rfl rfl (fun _ => ⟨rfl, fun r => ⟨r, Nat.le_refl _⟩⟩)
theorem Mod.Hd.no {m : Mod} (h : m.inn = noB) : m.Hd := by
  intro h4
  rw [h, noB_size] at h4
  omega
theorem Mod.Hd.submit {m : Mod} (k : m.Hd) (i : Int) (ss : List ByteArray) : (m.submit i ss).Hd := by
  unfold Mod.submit
  split
  · exact k.upd i.toNat { m.at i.toNat with queue := (m.at i.toNat).queue ++ [packed ss] } rfl (fun r => ⟨r, Nat.le_refl _⟩)
  · exact k
theorem Mod.Hd.cancel {m : Mod} (k : m.Hd) (i : Int) : (m.cancel i).Hd := by
  unfold Mod.cancel
  split
  · exact (k.upd i.toNat (m.at i.toNat).silent rfl (fun r => ⟨r, Nat.le_refl _⟩)).puts _
  · exact k
theorem Mod.Hd.release {m : Mod} (k : m.Hd) (i : Int) : (m.release i).Hd := by
  unfold Mod.release
  split
  · exact (k.upd i.toNat { m.at i.toNat with came := (m.at i.toNat).came.extract (begN (m.at i.toNat).came.data.toList) (m.at i.toNat).came.size, owed := (m.at i.toNat).owed + begN (m.at i.toNat).came.data.toList } rfl (fun r => ⟨r, Nat.le_add_right _ _⟩)).puts _
  · exact k
theorem Mod.Hd.tickAt {m : Mod} (k : m.Hd) (i : Nat) : (m.tickAt i).Hd := by
  unfold Mod.tickAt
  split
  · exact (k.upd i { (m.at i).deaf with reset := true } rfl (fun r => by cases r)).puts _
  · exact k
theorem Mod.Hd.ticks {m : Mod} (k : m.Hd) (n i : Nat) : (Mod.ticks n i m).Hd := by
  induction n generalizing m i with
  | zero => exact k
  | succ n ih => rw [ticks_step]; exact ih (k.tickAt i) _
theorem Mod.Hd.tick {m : Mod} (k : m.Hd) : m.tick.Hd := by
  have k1 : ({ m with time := m.time + 1 } : Mod).Hd := k.weaken rfl rfl rfl (fun _ => ⟨rfl, fun r => ⟨r, Nat.le_refl _⟩⟩)
  unfold Mod.tick
  simp only
  split
  · exact k1.ticks _ _
  · exact k1
theorem Mod.Inv.tickAt {m : Mod} (h : m.Inv) (hl : m.died = 0) (i : Nat) (hi : i < m.c.n) : (m.tickAt i).Inv ∧ (m.tickAt i).died = 0 := by
  have hs := h.s i hi
  unfold Mod.tickAt
  split
  · refine ⟨(h.upd (s := { (m.at i).deaf with reset := true }) hi ⟨hs.credit, ?_, hs.msgs, hs.silent, fun _ => rfl, fun _ => .inr rfl⟩ (h.d i hi) (fun e hb hl => ?_) (upd_same_left h hi (Nat.le_refl _)) (fun e => absurd hl e)).puts _ (frame_small _ _ (by rw [noB_size]; omega)), hl⟩
    · show (m.at i).owed + noB.size ≤ _
      rw [noB_size]
      have := hs.room
      omega
    · subst e
      exact h.mid hb hl
  · exact ⟨h, hl⟩
theorem tickAt_c (m : Mod) (i : Nat) : (m.tickAt i).c = m.c := by
  unfold Mod.tickAt
  split <;> rfl
theorem Mod.Inv.ticks {m : Mod} (h : m.Inv) (hl : m.died = 0) (n i : Nat) (hn : i + n ≤ m.c.n) : (Mod.ticks n i m).Inv := by
  induction n generalizing m i with
  | zero => exact h
  | succ n ih =>
    rw [ticks_step]
    obtain ⟨a, b⟩ := h.tickAt hl i (by omega)
    exact ih a b _ (by rw [tickAt_c]; omega)
theorem Mod.Inv.tick {m : Mod} (h : m.Inv) : m.tick.Inv := by
  have h1 : ({ m with time := m.time + 1 } : Mod).Inv := ⟨h.c, h.len, h.turn, h.s, h.d, h.mid, h.q, h.now, h.ctl, h.inn, h.died, h.dead⟩
  unfold Mod.tick
  simp only
  split
  · rename_i hl
    exact h1.ticks hl _ _ (by rw [h.len]; show 0 + m.c.n ≤ m.c.n; omega)
  · exact h1
theorem header_le12 (m : Mod) (h : ByteArray) : m.header h ≤ 12 := by
  unfold Mod.header
  simp only
  repeat' split
  all_goals omega
theorem whole_le (m : Mod) (k i : Nat) (p : ByteArray) : (m.whole k i p).2 ≤ 12 := by
  unfold Mod.whole Mod.comes
  simp only
  repeat' split
  all_goals exact Nat.le_of_ble_eq_true rfl
/-- what holds of streams whatever whole frame comes -/
theorem Mod.Inv.wholeAny {m : Mod} (h : m.Inv) (hl : m.died = 0) {K I : Nat} {p : ByteArray} (hI : I < m.c.n) (h1 : K = 1 → (m.at I).reset = false → p.size ≤ (m.at I).owed)
    (hdf : K = 1 → (m.at I).reset = false → (m.at I).noRecv = false) : (m.whole K I p).1.Inv ∧ (m.whole K I p).1.died = 0 := by
  by_cases h0 : (m.whole K I p).2 = 0
  · exact h.wholes hl hI h1 h0 hdf
  by_cases hk : K = 1
  · subst hk
    have hs := h.s I hI
    have hd := h.d I hI
    unfold Mod.whole Mod.comes
    simp only [if_true]
    cases hr : (m.at I).reset
    · simp only [Bool.false_eq_true, if_false]
      have hp := h1 rfl hr
      refine ⟨h.upd hI ⟨hs.credit, ?_, hs.msgs, hs.silent, fun e => ?_, by have := hs.why; rw [hr] at this; exact this⟩ hd (fun e hb hl => by subst e; exact h.mid hb hl) (upd_same_left h hI (Nat.le_refl _)) (fun e => absurd hl e), hl⟩
      · show (m.at I).owed - p.size + ((m.at I).came ++ p).size ≤ _
        rw [ByteArray.size_append]
        have := hs.room
        omega
      · rw [show ({ m.at I with came := (m.at I).came ++ p, owed := (m.at I).owed - p.size, since := m.time } : Stm).noRecv = (m.at I).noRecv from rfl, hdf rfl hr] at e
        cases e
    · simp only [if_true]
      exact ⟨h, hl⟩
  · have : (m.whole K I p).1 = m := by
      revert h0
      unfold Mod.whole
      simp only [hk, if_false]
      repeat' split
      all_goals first | (intro _; rfl) | (intro e; exact absurd rfl e)
    rw [this]
    exact ⟨h, hl⟩
theorem readB_kept {m : Mod} {b : UInt8} (h : m.Inv) (hd : m.Hd) (hl : m.died = 0) : (m.readB b).1.Inv ∧ (m.readB b).1.Hd := by
  by_cases h0 : (m.readB b).2 = 0
  · obtain ⟨a, b, _⟩ := readB_ok h hd hl h0
    exact ⟨a, b⟩
  have hsz := push_size m.inn b
  by_cases hf : m.rdF b = 0
  · cases hw : m.rdW b
    · rw [readB_more hf hw] at h0
      exact absurd rfl h0
    · rw [readB_whole hf hw] at h0 ⊢
      by_cases hz : (m.rdR b).2 = 0
      · rw [if_neg (by simpa using hz)] at h0
        exact absurd rfl h0
      rw [if_pos hz]
      unfold Mod.rdW at hw
      rw [Bool.and_eq_true, decide_eq_true_eq, decide_eq_true_eq] at hw
      have k1 := rd_ok hd hf hw.1
      have hlen := k1.len h.c.c8
      have hi : (m.rd1 b).Inv := h.inns _ (by omega)
      have hI : ((m.inn.push b).data.toList.getD 1 0).toNat < m.c.n := by rw [← h.len]; exact k1.stream
      obtain ⟨j1, j2⟩ := hi.wholeAny (K := ((m.inn.push b).data.toList.getD 0 0).toNat) (I := ((m.inn.push b).data.toList.getD 1 0).toNat) (p := (m.inn.push b).extract 4 (m.inn.push b).size) hl hI (fun e r => by
          rw [ex_size]
          have := (k1.one e).2 r
          have e2 := hw.2
          omega) (fun e r => by
          have hw := (h.s _ hI).why
          have hc := k1.can e
          cases hn : (m.at ((m.inn.push b).data.toList.getD 1 0).toNat).noRecv
          · exact hn
          · rcases hw hn with x | x
            · rw [show (m.at ((m.inn.push b).data.toList.getD 1 0).toNat).cancels = false from hc] at x; cases x
            · rw [show (m.at ((m.inn.push b).data.toList.getD 1 0).toNat).reset = false from r] at x; cases x)
      exact ⟨(j1.inns noB (by rw [noB_size]; omega)).dies (whole_le _ _ _ _) hz, Mod.Hd.no rfl⟩
  · rw [readB_bad hf]
    have hle : m.rdF b ≤ 12 := by
      unfold Mod.rdF
      split
      · exact header_le12 _ _
      · omega
    have hin : (m.inn.push b).size ≤ 12 := by
      unfold Mod.rdF at hf
      split at hf
      · omega
      · exact absurd rfl hf
    exact ⟨(h.inns _ hin).dies hle hf, Mod.Hd.no rfl⟩
theorem reads_kept {m : Mod} (l : List UInt8) (h : m.Inv) (hd : m.Hd) (hl : m.died = 0) : (m.reads l).1.Inv ∧ (m.reads l).1.Hd := by
  induction l generalizing m with
  | nil => exact ⟨h, hd⟩
  | cons b r ih =>
    unfold Mod.reads
    split
    · exact readB_kept h hd hl
    · rename_i e
      obtain ⟨a, b, c⟩ := readB_ok h hd hl (by simpa using e)
      exact ih a b c
theorem read_kept {m : Mod} (s : ByteArray) (h : m.Inv) (hd : m.Hd) : (m.read s).1.Inv ∧ (m.read s).1.Hd := by
  unfold Mod.read
  split
  · exact ⟨h, hd⟩
  · rename_i e
    exact reads_kept _ h hd (by simpa using e)
/-- bounds by the steps of a script -/
structure Mod.Small (N : Nat) (m : Mod) : Prop where
  ctl : m.control.length ≤ 4 * N + 1
  time : m.time ≤ N
  since : ∀ j, (m.at j).since ≤ m.time
theorem Mod.Small.mono {N M : Nat} {m : Mod} (h : m.Small N) (hn : N ≤ M) : m.Small M := ⟨by have := h.ctl; omega, by have := h.time; omega, h.since⟩
theorem Mod.Small.same {N : Nat} {m m1 : Mod} (h : m.Small N) (k : m.Same m1) : m1.Small N :=
  ⟨Nat.le_trans k.ctl h.ctl, by rw [k.time]; exact h.time, fun j => by rw [(k.s j).since, k.time]; exact h.since j⟩
theorem Mod.Small.upd {N : Nat} {m : Mod} (h : m.Small N) (i : Nat) (s : Stm) (hs : s.since ≤ m.time) : (m.upd i s).Small N :=
  ⟨h.ctl, h.time, fun j => by
    rw [at_upd]
    split
    · exact hs
    · exact h.since j⟩
theorem Mod.Small.puts {N : Nat} {m : Mod} (h : m.Small N) (f : ByteArray) : (m.put f).Small (N + 1) :=
  ⟨by show (m.control ++ [f]).length ≤ _; rw [List.length_append, List.length_singleton]; have := h.ctl; omega, Nat.le_succ_of_le h.time, h.since⟩
theorem Mod.Small.fresh (N : Nat) (c : Cfg) : (Mod.fresh c).Small N :=
  ⟨Nat.zero_le _, Nat.zero_le _, fun j => by
    unfold Mod.at Mod.fresh
    simp only
    rw [List.getD_eq_getElem?_getD, List.getElem?_replicate]
    split
    · exact Nat.le_refl _
    · exact Nat.le_refl _⟩
theorem Mod.Small.submit {N : Nat} {m : Mod} (h : m.Small N) (i : Int) (ss : List ByteArray) : (m.submit i ss).Small N := by
  unfold Mod.submit
  split
  · exact h.upd _ _ (h.since _)
  · exact h
theorem Mod.Small.cancel {N : Nat} {m : Mod} (h : m.Small N) (i : Int) : (m.cancel i).Small (N + 1) := by
  unfold Mod.cancel
  split
  · exact (h.upd i.toNat (m.at i.toNat).silent (h.since i.toNat)).puts _
  · exact h.mono (by omega)
theorem Mod.Small.release {N : Nat} {m : Mod} (h : m.Small N) (i : Int) : (m.release i).Small (N + 1) := by
  unfold Mod.release
  split
  · exact (h.upd i.toNat { m.at i.toNat with came := (m.at i.toNat).came.extract (begN (m.at i.toNat).came.data.toList) (m.at i.toNat).came.size, owed := (m.at i.toNat).owed + begN (m.at i.toNat).came.data.toList } (h.since i.toNat)).puts _
  · exact h.mono (by omega)
theorem Mod.Small.whole {N : Nat} {m : Mod} (h : m.Small N) (K I : Nat) (p : ByteArray) : (m.whole K I p).1.Small N := by
  unfold Mod.whole Mod.comes
  simp only
  repeat' split
  all_goals first
    | exact h
    | exact h.upd _ _ (Nat.le_refl _)
    | exact h.upd _ _ (h.since _)
theorem Mod.Small.dies {N : Nat} {m : Mod} (h : m.Small N) (f : Nat) : (m.dies f).Small N := by
  refine ⟨?_, h.time, fun j => ?_⟩
  · show (if f = 12 then [] else [frameB 5 0 (byteB f)]).length ≤ _
    split <;> simp
  · by_cases hj : j < m.ss.length
    · rw [gone_at m f j hj]
      exact h.since j
    · unfold Mod.at Mod.dies
      simp only
      rw [List.getD_eq_getElem?_getD, List.getElem?_eq_none (by rw [List.length_map]; omega)]
      exact Nat.zero_le _
theorem Mod.Small.inns {N : Nat} {m : Mod} (h : m.Small N) (n : ByteArray) : ({ m with inn := n } : Mod).Small N := ⟨h.ctl, h.time, h.since⟩
theorem Mod.Small.readB {N : Nat} {m : Mod} (h : m.Small N) (b : UInt8) : (m.readB b).1.Small N := by
  unfold Mod.readB
  simp only
  repeat' split
  all_goals first
    | exact (h.inns _).dies _
    | exact ((((h.inns _).whole _ _ _)).inns _).dies _
    | exact ((h.inns _).whole _ _ _).inns _
    | exact h.inns _
theorem Mod.Small.reads {N : Nat} {m : Mod} (h : m.Small N) (l : List UInt8) : (m.reads l).1.Small N := by
  induction l generalizing m with
  | nil => exact h
  | cons b r ih =>
    unfold Mod.reads
    split
    · exact h.readB b
    · exact ih (h.readB b)
theorem Mod.Small.read {N : Nat} {m : Mod} (h : m.Small N) (s : ByteArray) : (m.read s).1.Small N := by
  unfold Mod.read
  split
  · exact h
  · exact h.reads _
theorem tickAt_small {m : Mod} (i : Nat) : (m.tickAt i).control.length ≤ m.control.length + 1 ∧ (m.tickAt i).time = m.time ∧ ((∀ j, (m.at j).since ≤ m.time) → ∀ j, ((m.tickAt i).at j).since ≤ m.time) := by
  unfold Mod.tickAt
  split
  · refine ⟨by show (m.control ++ [_]).length ≤ _; rw [List.length_append, List.length_singleton]; exact Nat.le_refl _, rfl, fun h j => ?_⟩
    show ((m.upd i { (m.at i).deaf with reset := true }).at j).since ≤ _
    rw [at_upd]
    split
    · exact h i
    · exact h j
  · exact ⟨Nat.le_succ _, rfl, fun h => h⟩
theorem ticks_small (n : Nat) : ∀ (m : Mod) (i : Nat), (Mod.ticks n i m).control.length ≤ m.control.length + n ∧ (Mod.ticks n i m).time = m.time ∧ ((∀ j, (m.at j).since ≤ m.time) → ∀ j, ((Mod.ticks n i m).at j).since ≤ m.time) := by
  induction n with
  | zero => intro m i; exact ⟨Nat.le_refl _, rfl, fun h => h⟩
  | succ n ih =>
    intro m i
    rw [ticks_step]
    obtain ⟨a1, a2, a3⟩ := tickAt_small (m := m) i
    obtain ⟨b1, b2, b3⟩ := ih (m.tickAt i) (i + 1)
    refine ⟨by omega, b2.trans a2, fun h j => ?_⟩
    have := b3 (by rw [a2]; exact a3 h) j
    rw [a2] at this
    exact this
theorem Mod.Small.tick {N : Nat} {m : Mod} (h : m.Small N) (hn : m.ss.length ≤ 4) : m.tick.Small (N + 1) := by
  have h1 : ({ m with time := m.time + 1 } : Mod).Small (N + 1) := ⟨by show m.control.length ≤ _; have := h.ctl; omega, Nat.succ_le_succ h.time, fun j => Nat.le_succ_of_le (h.since j)⟩
  unfold Mod.tick
  simp only
  split
  · obtain ⟨a, b, c⟩ := ticks_small m.ss.length ({ m with time := m.time + 1 } : Mod) 0
    refine ⟨?_, by rw [b]; exact h1.time, fun j => ?_⟩
    · have := h.ctl
      replace a : (Mod.ticks m.ss.length 0 ({ m with time := m.time + 1 } : Mod)).control.length ≤ m.control.length + m.ss.length := a
      omega
    · rw [b]
      exact c h1.since j
  · exact h1
/-- all that holds of an end between the steps of a script -/
structure Mod.Good (N : Nat) (m : Mod) : Prop where
  inv : m.Inv
  hd : m.Hd
  small : m.Small N
theorem Mod.Good.mono {N M : Nat} {m : Mod} (h : m.Good N) (hn : N ≤ M) : m.Good M := ⟨h.inv, h.hd, h.small.mono hn⟩
theorem Mod.Good.fresh (N : Nat) {c : Cfg} (hc : c.Ok) : (Mod.fresh c).Good N := ⟨Mod.Inv.fresh hc, Mod.Hd.no rfl, Mod.Small.fresh N c⟩
theorem Mod.Good.submit {N : Nat} {m : Mod} (h : m.Good N) (i : Int) (ss : List ByteArray) : (m.submit i ss).Good (N + 1) := ⟨h.inv.submit i ss, h.hd.submit i ss, (h.small.submit i ss).mono (by omega)⟩
theorem Mod.Good.cancel {N : Nat} {m : Mod} (h : m.Good N) (i : Int) : (m.cancel i).Good (N + 1) := ⟨h.inv.cancel i, h.hd.cancel i, h.small.cancel i⟩
theorem Mod.Good.release {N : Nat} {m : Mod} (h : m.Good N) (i : Int) : (m.release i).Good (N + 1) := ⟨h.inv.release i, h.hd.release i, h.small.release i⟩
theorem Mod.Good.tick {N : Nat} {m : Mod} (h : m.Good N) : m.tick.Good (N + 1) := ⟨h.inv.tick, h.hd.tick, h.small.tick (by rw [h.inv.len]; exact h.inv.c.n4)⟩
theorem Mod.Good.read {N : Nat} {m : Mod} (h : m.Good N) (s : ByteArray) : (m.read s).1.Good N := ⟨(read_kept s h.inv h.hd).1, (read_kept s h.inv h.hd).2, h.small.read s⟩
theorem Mod.Good.write {N : Nat} {m : Mod} (h : m.Good N) (k : Nat) (out : ByteArray) : (Mod.write k m out).2.Good N := ⟨h.inv.write k out, h.hd.same (Mod.Same.write k m out), h.small.same (Mod.Same.write k m out)⟩
def inB (n lo hi : Int) : Bool := decide (lo ≤ n) && decide (n ≤ hi)
/-- an end of which so many streams are made -/
def newTo (c : Cfg) (i : Nat) : Mod := ⟨c, List.replicate i (Stm.fresh c.window), 0, 0, true, [], noB, noB, 0⟩
theorem newTo_at (c : Cfg) {i j : Nat} (h : j < i) : (newTo c i).at j = Stm.fresh c.window := by
  unfold Mod.at newTo
  rw [List.getD_eq_getElem?_getD, List.getElem?_replicate, if_pos h]
  rfl
/-- a weight as it is told -/
def Cfg.raw (c : Cfg) (i : Nat) : Int := match i with | 0 => c.w0 | 1 => c.w1 | 2 => c.w2 | _ => c.w3
theorem raw_weight (c : Cfg) (i : Nat) (h : 0 ≤ c.raw i) : c.raw i = (c.weight i : Nat) := by
  show c.raw i = ((c.raw i).toNat : Int)
  omega
/-- a configuration, but for its weights -/
structure Cfg.Part (c : Cfg) : Prop where
  n1 : 1 ≤ c.n
  n4 : c.n ≤ 4
  q1 : 1 ≤ c.quantum
  q8 : c.quantum ≤ 8
  c1 : 1 ≤ c.chunk
  c8 : c.chunk ≤ 8
  win8 : 8 ≤ c.window
  win250 : c.window ≤ 250
  qu1 : 1 ≤ c.queue
  qu600 : c.queue ≤ 600
  p1 : 1 ≤ c.patience
  p9 : c.patience ≤ 9
end Go.Proofs.Ytnclmbolfpojoaa
