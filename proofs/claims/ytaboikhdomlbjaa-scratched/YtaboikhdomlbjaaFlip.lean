/-
  A BURST TURNED INTO A TEXT, byte by byte and bit by bit, plainly. No Go in sight.
-/
import Derived.Test.YtaboikhdomlbjaaBurst
namespace Go.Proofs.Ytaboikhdomlbjaa.Pl

/-- The burst of a mask at a place, as one number. -/
def burst (mask : Int) (p : Nat) : Nat := (mask % 4294967296).toNat * 2 ^ p
theorem burst_is (mask : Int) (p : Nat) : IsBurst (burst mask p) := ⟨_, p, by omega, rfl⟩

theorem bit_before {mask : Int} {p j : Nat} (h : j < p) : burst mask p / 2 ^ j % 2 = 0 := by
  unfold burst
  rw [show (2 : Nat) ^ p = 2 ^ (p - j - 1) * 2 * 2 ^ j from by rw [Nat.mul_assoc, ← Nat.pow_succ', ← Nat.pow_add]; congr 1; omega, ← Nat.mul_assoc, Nat.mul_div_cancel _ (Nat.two_pow_pos j), ← Nat.mul_assoc, Nat.mul_mod_left]
theorem bit_from {mask : Int} {p e : Nat} : burst mask p / 2 ^ (p + e) = (mask % 4294967296).toNat / 2 ^ e := by
  unfold burst
  rw [Nat.pow_add, Nat.mul_comm (2 ^ p) (2 ^ e), Nat.mul_div_mul_right _ _ (Nat.two_pow_pos p)]
theorem bit_behind {mask : Int} {p e : Nat} (h : 32 ≤ e) : burst mask p / 2 ^ (p + e) % 2 = 0 := by
  rw [bit_from, Nat.div_eq_of_lt]
  have : 2 ^ 32 ≤ 2 ^ e := Nat.pow_le_pow_right (by omega) h
  omega
theorem bit_at {mask : Int} {p e : Nat} (h : e < 32) : ((burst mask p / 2 ^ (p + e) % 2 : Nat) : Int) = mask / 2 ^ e % 2 := by
  rw [bit_from]
  have hr : (((mask % 4294967296).toNat : Nat) : Int) = mask % 4294967296 := by omega
  have e1 : (4294967296 : Int) = 2 ^ e * (2 * 2 ^ (31 - e)) := by
    have : (2 : Int) ^ e * (2 * 2 ^ (31 - e)) = 2 ^ (e + 1 + (31 - e)) := by rw [Int.pow_add, Int.pow_succ, Int.mul_assoc]
    rw [this, show e + 1 + (31 - e) = 32 from by omega]
    rfl
  have e2 : mask = mask % 4294967296 + 2 ^ e * ((2 * 2 ^ (31 - e)) * (mask / 4294967296)) := by
    have := Int.emod_add_mul_ediv mask 4294967296
    conv => lhs; rw [← this]
    rw [← Int.mul_assoc, ← e1]
  have e3 : mask / 2 ^ e = (mask % 4294967296) / 2 ^ e + 2 * (2 ^ (31 - e) * (mask / 4294967296)) := by
    conv => lhs; rw [e2]
    rw [Int.add_mul_ediv_left _ _ (by have := Int.pow_pos (n := 2) (m := e) (by omega); omega), Int.mul_assoc]
  rw [e3, Int.add_mul_emod_self_left, ← hr]
  simp

/-- The bits of a byte, one after the other. -/
theorem bits_next (y k : Nat) : y % 2 ^ (k + 1) = y % 2 ^ k + 2 ^ k * (y / 2 ^ k % 2) := by
  rw [Nat.pow_succ, Nat.mod_mul]
theorem flip_bit {c y k : Nat} (h : y / 2 ^ k % 2 = 1) : c ^^^ (y % 2 ^ (k + 1)) = (c ^^^ (y % 2 ^ k)) ^^^ 2 ^ k := by
  have hlt : y % 2 ^ k < 2 ^ k := Nat.mod_lt _ (Nat.two_pow_pos k)
  have := join_xor k (y % 2 ^ k) 0 0 1 hlt (Nat.two_pow_pos k)
  simp only [Nat.mul_zero, Nat.add_zero, Nat.zero_add, Nat.mul_one, Nat.xor_zero, Nat.zero_xor] at this
  rw [bits_next, h, Nat.mul_one, ← this, Nat.xor_assoc]
theorem keep_bit {c y k : Nat} (h : y / 2 ^ k % 2 = 0) : c ^^^ (y % 2 ^ (k + 1)) = c ^^^ (y % 2 ^ k) := by
  rw [bits_next, h, Nat.mul_zero, Nat.add_zero]
theorem flip_lt {c y k : Nat} (hc : c < 256) (hk : k ≤ 8) : c ^^^ (y % 2 ^ k) < 256 := by
  refine Nat.xor_lt_two_pow (n := 8) hc ?_
  exact Nat.lt_of_lt_of_le (Nat.mod_lt _ (Nat.two_pow_pos k)) (Nat.pow_le_pow_right (by omega) hk)

/-- One byte more. -/
theorem flip_next {s out : List UInt8} {i x : Nat} (hi : i < s.length) (hl : out.length = i) (ho : ofle out = ofle (s.take i) ^^^ (x % 2 ^ (8 * i))) :
    ofle (out ++ [UInt8.ofNat ((s.getD i 0).toNat ^^^ (x / 2 ^ (8 * i) % 2 ^ 8))]) = ofle (s.take (i + 1)) ^^^ (x % 2 ^ (8 * (i + 1))) := by
  have hc := (s.getD i 0).toNat_lt
  have hf := flip_lt (y := x / 2 ^ (8 * i)) (k := 8) hc (Nat.le_refl _)
  have hb : (UInt8.ofNat ((s.getD i 0).toNat ^^^ (x / 2 ^ (8 * i) % 2 ^ 8))).toNat = (s.getD i 0).toNat ^^^ (x / 2 ^ (8 * i) % 2 ^ 8) := by
    simp only [UInt8.toNat_ofNat']
    exact Nat.mod_eq_of_lt hf
  have ht : ofle (s.take (i + 1)) = ofle (s.take i) + 2 ^ (8 * i) * (s.getD i 0).toNat := by
    rw [List.take_succ_eq_append_getElem hi, ofle_snoc, List.length_take, Nat.min_eq_left (by omega)]
    simp [List.getD_eq_getElem?_getD, List.getElem?_eq_getElem hi]
  have hx : x % 2 ^ (8 * (i + 1)) = x % 2 ^ (8 * i) + 2 ^ (8 * i) * (x / 2 ^ (8 * i) % 2 ^ 8) := by
    rw [show 8 * (i + 1) = 8 * i + 8 from by omega, Nat.pow_add, Nat.mod_mul]
  have htl : ofle (s.take i) < 2 ^ (8 * i) := by
    have := ofle_lt (s.take i)
    rwa [List.length_take, Nat.min_eq_left (by omega)] at this
  rw [ofle_snoc, hl, hb, ho, ht, hx, join_xor _ _ _ _ _ htl (Nat.mod_lt _ (Nat.two_pow_pos _))]
end Go.Proofs.Ytaboikhdomlbjaa.Pl
