/-
  NUMBERS IN BYTES, the lowest first: plainly.
-/
namespace Go.Proofs.Ytaboikhdomlbjaa.Pl

/-- n in so many bytes, the lowest first. -/
def le : Nat → Nat → List UInt8
  | 0, _ => []
  | k + 1, n => le k n ++ [UInt8.ofNat (n / 2 ^ (8 * k))]
/-- What such bytes stand for. -/
def ofle : List UInt8 → Nat
  | [] => 0
  | c :: r => c.toNat + 256 * ofle r

theorem le_length (k n : Nat) : (le k n).length = k := by
  induction k with
  | zero => rfl
  | succ k ih => simp [le, ih]
theorem ofle_snoc (l : List UInt8) (c : UInt8) : ofle (l ++ [c]) = ofle l + 2 ^ (8 * l.length) * c.toNat := by
  induction l with
  | nil => simp [ofle]
  | cons d r ih =>
    simp only [List.cons_append, ofle, ih, List.length_cons]
    rw [Nat.mul_add, ← Nat.mul_assoc]
    have : 256 * 2 ^ (8 * r.length) = 2 ^ (8 * (r.length + 1)) := by
      rw [show 8 * (r.length + 1) = 8 + 8 * r.length from by omega, Nat.pow_add]
    rw [this]; omega
theorem ofle_lt (l : List UInt8) : ofle l < 2 ^ (8 * l.length) := by
  induction l with
  | nil => simp [ofle]
  | cons c r ih =>
    have hc := c.toNat_lt
    simp only [ofle, List.length_cons]
    rw [show 8 * (r.length + 1) = 8 + 8 * r.length from by omega, Nat.pow_add]
    omega
theorem ofle_le (k n : Nat) : ofle (le k n) = n % 2 ^ (8 * k) := by
  induction k with
  | zero => simp [le, ofle, Nat.mod_one]
  | succ k ih =>
    rw [le, ofle_snoc, ih, le_length]
    have : (UInt8.ofNat (n / 2 ^ (8 * k))).toNat = n / 2 ^ (8 * k) % 256 := by simp
    rw [this, show 8 * (k + 1) = 8 * k + 8 from by omega, Nat.pow_add]
    rw [Nat.mod_mul]
theorem le_ofle (l : List UInt8) : le l.length (ofle l) = l := by
  have key : ∀ (k : Nat) (l : List UInt8) (x : Nat), l.length = k → le k (ofle l + 2 ^ (8 * k) * x) = l := by
    intro k
    induction k with
    | zero => intro l x h; simp [le, List.eq_nil_of_length_eq_zero h]
    | succ k ih =>
      intro l x h
      obtain ⟨r, c, rfl⟩ : ∃ r c, l = r ++ [c] := ⟨l.dropLast, l.getLast (by intro e; simp [e] at h), (List.dropLast_concat_getLast _).symm⟩
      have hr : r.length = k := by simpa using h
      rw [le, ofle_snoc, hr]
      have e : ofle r + 2 ^ (8 * k) * c.toNat + 2 ^ (8 * (k + 1)) * x = ofle r + 2 ^ (8 * k) * (c.toNat + 256 * x) := by
        rw [show 8 * (k + 1) = 8 * k + 8 from by omega, Nat.pow_add, Nat.mul_add, Nat.mul_assoc, show (2 : Nat) ^ 8 = 256 from rfl]; omega
      rw [e, ih r _ hr]
      have hlt := ofle_lt r
      rw [hr] at hlt
      have hd : (ofle r + 2 ^ (8 * k) * (c.toNat + 256 * x)) / 2 ^ (8 * k) = c.toNat + 256 * x := by
        rw [Nat.add_mul_div_left _ _ (Nat.two_pow_pos _), Nat.div_eq_of_lt hlt, Nat.zero_add]
      rw [hd]
      congr 2
      apply UInt8.toNat_inj.1
      have hc := c.toNat_lt
      simp
  simpa using key l.length l 0 rfl
end Go.Proofs.Ytaboikhdomlbjaa.Pl
