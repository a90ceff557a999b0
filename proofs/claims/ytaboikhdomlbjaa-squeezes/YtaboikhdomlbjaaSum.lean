/-
  THE SUM, PLAINLY: the CRC-32C over natural numbers, as the code takes it and as the document says it; that both are one. No Go in sight.
-/
namespace Go.Proofs.Ytaboikhdomlbjaa.Pl

def poly : Nat := 2197175160
def ones : Nat := 4294967295

/-- One bit, as the code takes it. -/
def stepC (n : Nat) : Nat := (n / 2) ^^^ (poly * (n % 2))
/-- k bits. -/
def stepsC : Nat → Nat → Nat
  | 0, n => n
  | k + 1, n => stepC (stepsC k n)
/-- One byte, as the code takes it. -/
def byteC (n : Nat) (c : Nat) : Nat := stepsC 8 (n ^^^ c)
/-- The bytes, one behind the other. -/
def runC (n : Nat) (l : List UInt8) : Nat := l.foldl (fun n c => byteC n c.toNat) n
/-- The sum. -/
def crc (l : List UInt8) : Nat := runC ones l ^^^ ones

/-- One bit, as the document says it: the number, and bit 0 of what is left of the byte. -/
def stepR (n c : Nat) : Nat := if n % 2 = c % 2 then n / 2 else (n / 2) ^^^ poly
def stepsR : Nat → Nat → Nat → Nat
  | 0, n, _ => n
  | k + 1, n, c => stepR (stepsR k n c) (c / 2 ^ k)
def runR (n : Nat) (l : List UInt8) : Nat := l.foldl (fun n c => stepsR 8 n c.toNat) n

theorem xor_half (a b : Nat) : (a ^^^ b) / 2 = (a / 2) ^^^ (b / 2) := by
  have := Nat.xor_div_two_pow (a := a) (b := b) (n := 1)
  simpa using this
theorem xor_low (a b : Nat) : (a ^^^ b) % 2 = if a % 2 = b % 2 then 0 else 1 := by
  have h := Nat.xor_mod_two_pow (a := a) (b := b) (n := 1)
  simp only [Nat.pow_one] at h
  rw [h]
  rcases Nat.mod_two_eq_zero_or_one a with ha | ha <;> rcases Nat.mod_two_eq_zero_or_one b with hb | hb <;> simp [ha, hb]

theorem step_same (n c : Nat) : stepC (n ^^^ c) = stepR n c ^^^ (c / 2) := by
  unfold stepC stepR
  rw [xor_half, xor_low]
  by_cases h : n % 2 = c % 2
  · simp [h]
  · simp only [h, if_false, Nat.mul_one]
    rw [Nat.xor_assoc, Nat.xor_comm (c / 2) poly, ← Nat.xor_assoc]

theorem steps_same (k n c : Nat) : stepsC k (n ^^^ c) = stepsR k n c ^^^ (c / 2 ^ k) := by
  induction k with
  | zero => simp [stepsC, stepsR]
  | succ k ih =>
    rw [stepsC, ih, step_same, stepsR, Nat.div_div_eq_div_mul, Nat.pow_succ]

theorem byte_same (n c : Nat) (h : c < 256) : byteC n c = stepsR 8 n c := by
  unfold byteC
  rw [steps_same]
  have : c / 2 ^ 8 = 0 := Nat.div_eq_of_lt (by omega)
  rw [this, Nat.xor_zero]

theorem run_same (l : List UInt8) (n : Nat) : runC n l = runR n l := by
  induction l generalizing n with
  | nil => rfl
  | cons c l ih =>
    unfold runC runR at *
    simp only [List.foldl_cons]
    rw [byte_same n c.toNat (by have := c.toNat_lt; omega)]
    exact ih _

/-! ### within 32 bits -/
theorem xor_lt (a b : Nat) (ha : a < 4294967296) (hb : b < 4294967296) : a ^^^ b < 4294967296 :=
  Nat.xor_lt_two_pow (n := 32) ha hb
theorem stepC_lt (n : Nat) (h : n < 4294967296) : stepC n < 4294967296 := by
  unfold stepC
  refine xor_lt _ _ (by omega) ?_
  have := Nat.mod_two_eq_zero_or_one n
  unfold poly
  omega
theorem stepsC_lt (k n : Nat) (h : n < 4294967296) : stepsC k n < 4294967296 := by
  induction k with
  | zero => exact h
  | succ k ih => exact stepC_lt _ ih
theorem byteC_lt (n c : Nat) (h : n < 4294967296) (hc : c < 256) : byteC n c < 4294967296 :=
  stepsC_lt _ _ (xor_lt _ _ h (by omega))
theorem runC_lt (l : List UInt8) (n : Nat) (h : n < 4294967296) : runC n l < 4294967296 := by
  induction l generalizing n with
  | nil => exact h
  | cons c l ih => exact ih _ (byteC_lt _ _ h (by have := c.toNat_lt; omega))
theorem crc_lt (l : List UInt8) : crc l < 4294967296 := by
  unfold crc
  exact xor_lt _ _ (runC_lt l _ (by unfold ones; omega)) (by unfold ones; omega)
theorem stepR_lt (n c : Nat) (h : n < 4294967296) : stepR n c < 4294967296 := by
  unfold stepR
  split
  · omega
  · exact xor_lt _ _ (by omega) (by unfold poly; omega)
theorem stepsR_lt (k n c : Nat) (h : n < 4294967296) : stepsR k n c < 4294967296 := by
  induction k with
  | zero => exact h
  | succ k ih => exact stepR_lt _ _ ih
theorem runR_lt (l : List UInt8) (n : Nat) (h : n < 4294967296) : runR n l < 4294967296 := by
  rw [← run_same]; exact runC_lt l n h

theorem runC_snoc (l : List UInt8) (c : UInt8) (n : Nat) : runC n (l ++ [c]) = byteC (runC n l) c.toNat := by
  unfold runC; simp
theorem runR_snoc (l : List UInt8) (c : UInt8) (n : Nat) : runR n (l ++ [c]) = stepsR 8 (runR n l) c.toNat := by
  unfold runR; simp
end Go.Proofs.Ytaboikhdomlbjaa.Pl
