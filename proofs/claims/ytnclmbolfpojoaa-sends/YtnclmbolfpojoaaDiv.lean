/-
  The check byte worked out bit by bit, as the rest of a long division, is the check byte worked out byte by byte.
-/
import Derived.Test.YtnclmbolfpojoaaCrc
namespace Skein
/-- one bit of the division -/
def st (r b : Nat) : Nat := if 2 * r + b > 255 then (2 * r + b - 256) ^^^ 7 else 2 * r + b
def bitAt (l : List UInt8) (i : Nat) : Nat := if i / 8 < l.length then (l.getD (i / 8) 0).toNat / 2 ^ (7 - i % 8) % 2 else 0
def dvTo (l : List UInt8) : Nat → Nat
  | 0 => 0
  | i + 1 => st (dvTo l i) (bitAt l i)
def allSt : Bool := (List.range 256).all fun r => (List.range 2).all fun b => st r b == sh r ^^^ b
theorem st_eq {r b : Nat} (hr : r < 256) (hb : b < 2) : st r b = sh r ^^^ b := by
  have h : allSt = true := by decide +kernel
  unfold allSt at h
  rw [List.all_eq_true] at h
  have h1 := h r (List.mem_range.2 hr)
  rw [List.all_eq_true] at h1
  exact eq_of_beq (h1 b (List.mem_range.2 hb))
theorem st_lt {r b : Nat} (hr : r < 256) (hb : b < 2) : st r b < 256 := by
  rw [st_eq hr hb]
  exact xor_lt_256 (sh_lt _) (by omega)
theorem bit_lt (l : List UInt8) (i : Nat) : bitAt l i < 2 := by
  unfold bitAt
  split
  · exact Nat.mod_lt _ (by omega)
  · omega
theorem dvTo_lt (l : List UInt8) (i : Nat) : dvTo l i < 256 := by
  induction i with
  | zero => exact (by decide : 0 < 256)
  | succ i ih => exact st_lt ih (bit_lt l i)
def st8 (r a b c d e f g h : Nat) : Nat := st (st (st (st (st (st (st (st r a) b) c) d) e) f) g) h
def by8 (r n : Nat) : Nat := st8 r (n / 128 % 2) (n / 64 % 2) (n / 32 % 2) (n / 16 % 2) (n / 8 % 2) (n / 4 % 2) (n / 2 % 2) (n % 2)
def allBy : Bool := (List.range 256).all fun n => by8 0 n == n
theorem by8_zero {n : Nat} (h : n < 256) : by8 0 n = n := by
  have hh : allBy = true := by decide +kernel
  unfold allBy at hh
  rw [List.all_eq_true] at hh
  exact eq_of_beq (hh n (List.mem_range.2 h))
/-- the division is linear -/
theorem st_xor {r q b : Nat} (hr : r < 256) (hq : q < 256) (hb : b < 2) : st (r ^^^ q) b = sh r ^^^ st q b := by
  rw [st_eq (xor_lt_256 hr hq) hb, st_eq hq hb, sh_lin hr hq, Nat.xor_assoc]
theorem by8_eq {r n : Nat} (hr : r < 256) (hn : n < 256) : by8 r n = sh8 r ^^^ n := by
  have h2 : ∀ m : Nat, m % 2 < 2 := fun m => Nat.mod_lt _ (by omega)
  have e : by8 r n = sh8 r ^^^ by8 0 n := by
    unfold by8 st8 sh8
    generalize hA : n / 128 % 2 = A
    generalize hB : n / 64 % 2 = B
    generalize hC : n / 32 % 2 = C
    generalize hD : n / 16 % 2 = D
    generalize hE : n / 8 % 2 = E
    generalize hF : n / 4 % 2 = F
    generalize hG : n / 2 % 2 = G
    generalize hH : n % 2 = J
    have a2 : A < 2 := by rw [← hA]; exact h2 _
    have b2 : B < 2 := by rw [← hB]; exact h2 _
    have c2 : C < 2 := by rw [← hC]; exact h2 _
    have d2 : D < 2 := by rw [← hD]; exact h2 _
    have e2 : E < 2 := by rw [← hE]; exact h2 _
    have f2 : F < 2 := by rw [← hF]; exact h2 _
    have g2 : G < 2 := by rw [← hG]; exact h2 _
    have j2 : J < 2 := by rw [← hH]; exact h2 _
    have z : (0 : Nat) < 256 := by decide
    have s1 := st_lt z a2
    have s2 := st_lt s1 b2
    have s3 := st_lt s2 c2
    have s4 := st_lt s3 d2
    have s5 := st_lt s4 e2
    have s6 := st_lt s5 f2
    have s7 := st_lt s6 g2
    have k0 : st r A = sh r ^^^ st 0 A := by
      have := st_xor hr z a2
      rwa [Nat.xor_zero] at this
    rw [k0, st_xor (sh_lt _) s1 b2, st_xor (sh_lt _) s2 c2, st_xor (sh_lt _) s3 d2, st_xor (sh_lt _) s4 e2, st_xor (sh_lt _) s5 f2, st_xor (sh_lt _) s6 g2, st_xor (sh_lt _) s7 j2]
  rw [e, by8_zero hn]
theorem sh8_zero : sh8 0 = 0 := by decide
theorem dv_three (a b c : UInt8) : dvTo [a, b, c] 32 = crc3 a.toNat b.toNat c.toNat := by
  have h1 : dvTo [a, b, c] 8 = by8 0 a.toNat := by
    simp [dvTo, bitAt, by8, st8]
  have h2 : dvTo [a, b, c] 16 = by8 (dvTo [a, b, c] 8) b.toNat := by
    simp [dvTo, bitAt, by8, st8]
  have h3 : dvTo [a, b, c] 24 = by8 (dvTo [a, b, c] 16) c.toNat := by
    simp [dvTo, bitAt, by8, st8]
  have h4 : dvTo [a, b, c] 32 = by8 (dvTo [a, b, c] 24) 0 := by
    simp [dvTo, bitAt, by8, st8]
  rw [h4, h3, h2, h1, by8_eq (by decide) a.toNat_lt, sh8_zero, Nat.zero_xor, by8_eq a.toNat_lt b.toNat_lt, by8_eq (xor_lt_256 (sh8_lt _) b.toNat_lt) c.toNat_lt, by8_eq (xor_lt_256 (sh8_lt _) c.toNat_lt) (by decide), Nat.xor_zero]
  rfl
end Skein
