/-
  The check byte as plain arithmetic: it is linear in the bits, and no difference of at most eight bits side by side in three bytes leaves it as it was.
-/
namespace Skein
/-- one step of the check byte -/
def sh (n : Nat) : Nat := if n &&& 128 = 0 then n * 2 % 256 else (n * 2 % 256) ^^^ 7
/-- a byte's eight steps -/
def sh8 (n : Nat) : Nat := sh (sh (sh (sh (sh (sh (sh (sh n)))))))
def crcL : List UInt8 → Nat → Nat
  | [], c => c
  | b :: r, c => crcL r (sh8 (c ^^^ b.toNat))
def crc (l : List UInt8) : Nat := crcL l 0
def crc3 (a b c : Nat) : Nat := sh8 (sh8 (sh8 a ^^^ b) ^^^ c)

theorem xor_lt_256 {a b : Nat} (ha : a < 256) (hb : b < 256) : a ^^^ b < 256 := Nat.xor_lt_two_pow (n := 8) ha hb
theorem sh_lt (n : Nat) : sh n < 256 := by
  unfold sh
  split
  · omega
  · exact xor_lt_256 (by omega) (by omega)
theorem sh8_lt (n : Nat) : sh8 n < 256 := sh_lt _
theorem crcL_lt (l : List UInt8) : ∀ c, c < 256 → crcL l c < 256 := by
  induction l with
  | nil => intro c hc; exact hc
  | cons b r ih => intro c _; exact ih _ (sh8_lt _)
theorem crc_lt (l : List UInt8) : crc l < 256 := crcL_lt l 0 (by omega)
theorem crcL_snoc (l : List UInt8) (b : UInt8) : ∀ c, crcL (l ++ [b]) c = sh8 (crcL l c ^^^ b.toNat) := by
  induction l with
  | nil => intro c; rfl
  | cons x r ih => intro c; exact ih _
theorem crc_snoc (l : List UInt8) (b : UInt8) : crc (l ++ [b]) = sh8 (crc l ^^^ b.toNat) := crcL_snoc l b 0

def allLin2 : Bool := (List.range 256).all fun a => (List.range 256).all fun b => sh (a ^^^ b) == sh a ^^^ sh b
theorem sh_lin {a b : Nat} (ha : a < 256) (hb : b < 256) : sh (a ^^^ b) = sh a ^^^ sh b := by
  have h : allLin2 = true := by decide +kernel
  unfold allLin2 at h
  rw [List.all_eq_true] at h
  have h1 := h a (List.mem_range.2 ha)
  rw [List.all_eq_true] at h1
  exact eq_of_beq (h1 b (List.mem_range.2 hb))
theorem sh8_lin {a b : Nat} (ha : a < 256) (hb : b < 256) : sh8 (a ^^^ b) = sh8 a ^^^ sh8 b := by
  unfold sh8
  rw [sh_lin ha hb, sh_lin (sh_lt _) (sh_lt _), sh_lin (sh_lt _) (sh_lt _), sh_lin (sh_lt _) (sh_lt _), sh_lin (sh_lt _) (sh_lt _), sh_lin (sh_lt _) (sh_lt _), sh_lin (sh_lt _) (sh_lt _), sh_lin (sh_lt _) (sh_lt _)]
theorem xor_swap (a b c d : Nat) : (a ^^^ b) ^^^ (c ^^^ d) = (a ^^^ c) ^^^ (b ^^^ d) := by
  rw [Nat.xor_assoc, ← Nat.xor_assoc b c d, Nat.xor_comm b c, Nat.xor_assoc c b d, ← Nat.xor_assoc]
theorem crc3_lin {a b c x y z : Nat} (ha : a < 256) (hb : b < 256) (hc : c < 256) (hx : x < 256) (hy : y < 256) (hz : z < 256) :
    crc3 (a ^^^ x) (b ^^^ y) (c ^^^ z) = crc3 a b c ^^^ crc3 x y z := by
  unfold crc3
  rw [sh8_lin ha hx, xor_swap, sh8_lin (xor_lt_256 (sh8_lt _) hb) (xor_lt_256 (sh8_lt _) hy), xor_swap, sh8_lin (xor_lt_256 (sh8_lt _) hc) (xor_lt_256 (sh8_lt _) hz)]

def allSpots : Bool := (List.range 255).all fun b => (List.range 17).all fun k => !(crc3 ((1 + b) * 2 ^ k / 65536 % 256) ((1 + b) * 2 ^ k / 256 % 256) ((1 + b) * 2 ^ k % 256) == 0)
theorem spots {b k : Nat} (hb : b < 255) (hk : k < 17) :
    crc3 ((1 + b) * 2 ^ k / 65536 % 256) ((1 + b) * 2 ^ k / 256 % 256) ((1 + b) * 2 ^ k % 256) ≠ 0 := by
  have h : allSpots = true := by decide +kernel
  unfold allSpots at h
  rw [List.all_eq_true] at h
  have h1 := h b (List.mem_range.2 hb)
  rw [List.all_eq_true] at h1
  have h2 := h1 k (List.mem_range.2 hk)
  intro he
  rw [he] at h2
  exact absurd h2 (by decide)

/-- two headers whose 24 bits differ by (1 + by) << at have different check bytes -/
theorem spotted {a b c d k : Nat} (ha : a < 256) (hb : b < 256) (hc : c < 256) (hd : d < 255) (hk : k < 17) :
    crc3 (((a * 65536 + b * 256 + c) ^^^ ((1 + d) * 2 ^ k)) / 65536 % 256) (((a * 65536 + b * 256 + c) ^^^ ((1 + d) * 2 ^ k)) / 256 % 256) (((a * 65536 + b * 256 + c) ^^^ ((1 + d) * 2 ^ k)) % 256) ≠ crc3 a b c := by
  have e1 : ∀ n m : Nat, (n ^^^ m) / 65536 % 256 = (n / 65536 % 256) ^^^ (m / 65536 % 256) := by
    intro n m
    have := Nat.xor_div_two_pow (a := n) (b := m) (n := 16)
    have h2 := Nat.xor_mod_two_pow (a := n / 65536) (b := m / 65536) (n := 8)
    simp only [Nat.reducePow] at this h2
    rw [this, h2]
  have e2 : ∀ n m : Nat, (n ^^^ m) / 256 % 256 = (n / 256 % 256) ^^^ (m / 256 % 256) := by
    intro n m
    have := Nat.xor_div_two_pow (a := n) (b := m) (n := 8)
    have h2 := Nat.xor_mod_two_pow (a := n / 256) (b := m / 256) (n := 8)
    simp only [Nat.reducePow] at this h2
    rw [this, h2]
  have e3 : ∀ n m : Nat, (n ^^^ m) % 256 = (n % 256) ^^^ (m % 256) := by
    intro n m
    have h2 := Nat.xor_mod_two_pow (a := n) (b := m) (n := 8)
    simp only [Nat.reducePow] at h2
    rw [h2]
  rw [e1, e2, e3, show (a * 65536 + b * 256 + c) / 65536 % 256 = a by omega, show (a * 65536 + b * 256 + c) / 256 % 256 = b by omega, show (a * 65536 + b * 256 + c) % 256 = c by omega]
  rw [crc3_lin ha hb hc (by omega) (by omega) (by omega)]
  intro h
  have h3 := spots hd hk
  apply h3
  have := congrArg (fun x => crc3 a b c ^^^ x) h
  simpa [← Nat.xor_assoc] using this
end Skein
