/-
  BURSTS, PLAINLY: a sum of 32 bits finds each burst of at most 32 bits within the stretch that it is taken of. No Go in sight.
-/
import Derived.Test.YtaboikhdomlbjaaLogMore
namespace Go.Proofs.Ytaboikhdomlbjaa.Pl

/-! ### the sum is linear -/
theorem eq_of_xor {a b : Nat} (h : a ^^^ b = 0) : a = b := by
  have e := congrArg (fun x => x ^^^ b) h
  simp only [Nat.xor_assoc, Nat.xor_self, Nat.xor_zero, Nat.zero_xor] at e
  exact e
theorem stepC_xor (a b : Nat) : stepC (a ^^^ b) = stepC a ^^^ stepC b := by
  unfold stepC
  rw [xor_half, xor_low]
  rcases Nat.mod_two_eq_zero_or_one a with ha | ha <;> rcases Nat.mod_two_eq_zero_or_one b with hb | hb <;> simp [ha, hb]
  · rw [Nat.xor_assoc]
  · rw [Nat.xor_assoc, Nat.xor_assoc, Nat.xor_comm (b / 2) poly]
  · rw [Nat.xor_assoc, Nat.xor_comm poly (b / 2 ^^^ poly), Nat.xor_assoc, Nat.xor_self, Nat.xor_zero]
theorem stepsC_xor (k a b : Nat) : stepsC k (a ^^^ b) = stepsC k a ^^^ stepsC k b := by
  induction k with
  | zero => rfl
  | succ k ih => simp only [stepsC]; rw [ih, stepC_xor]
theorem stepsC_add (m k n : Nat) : stepsC (m + k) n = stepsC m (stepsC k n) := by
  induction m with
  | zero => simp [stepsC]
  | succ m ih =>
    rw [show m + 1 + k = (m + k) + 1 from by omega]
    simp only [stepsC]
    rw [ih]
theorem stepC_even (x : Nat) : stepC (x * 2) = x := by
  unfold stepC
  rw [Nat.mul_mod_left, Nat.mul_zero, Nat.xor_zero, Nat.mul_div_cancel _ (by omega)]
theorem stepsC_shift (p x : Nat) : stepsC p (x * 2 ^ p) = x := by
  induction p generalizing x with
  | zero => simp [stepsC]
  | succ p ih =>
    rw [show x * 2 ^ (p + 1) = x * 2 * 2 ^ p from by rw [Nat.pow_succ, Nat.mul_assoc, Nat.mul_comm 2 (2 ^ p)]]
    simp only [stepsC]
    rw [ih, stepC_even]
theorem stepC_ne {n : Nat} (h : n < 4294967296) (h0 : n ≠ 0) : stepC n ≠ 0 := by
  intro e
  unfold stepC at e
  rcases Nat.mod_two_eq_zero_or_one n with hn | hn
  · rw [hn, Nat.mul_zero, Nat.xor_zero] at e; omega
  · rw [hn, Nat.mul_one] at e
    have : n / 2 = poly := eq_of_xor e
    unfold poly at this
    omega
theorem stepsC_ne (k : Nat) {n : Nat} (h : n < 4294967296) (h0 : n ≠ 0) : stepsC k n ≠ 0 := by
  induction k with
  | zero => exact h0
  | succ k ih => exact stepC_ne (stepsC_lt k n h) ih

/-! ### a run, as so many steps of one number -/
theorem join_xor (m a b c d : Nat) (ha : a < 2 ^ m) (hc : c < 2 ^ m) : (a + 2 ^ m * b) ^^^ (c + 2 ^ m * d) = (a ^^^ c) + 2 ^ m * (b ^^^ d) := by
  have hx : a ^^^ c < 2 ^ m := Nat.xor_lt_two_pow ha hc
  have e1 : ((a + 2 ^ m * b) ^^^ (c + 2 ^ m * d)) % 2 ^ m = a ^^^ c := by
    rw [Nat.xor_mod_two_pow, Nat.add_mul_mod_self_left, Nat.add_mul_mod_self_left, Nat.mod_eq_of_lt ha, Nat.mod_eq_of_lt hc]
  have e2 : ((a + 2 ^ m * b) ^^^ (c + 2 ^ m * d)) / 2 ^ m = b ^^^ d := by
    rw [Nat.xor_div_two_pow, Nat.add_mul_div_left _ _ (Nat.two_pow_pos m), Nat.add_mul_div_left _ _ (Nat.two_pow_pos m), Nat.div_eq_of_lt ha, Nat.div_eq_of_lt hc, Nat.zero_add, Nat.zero_add]
  have := Nat.mod_add_div ((a + 2 ^ m * b) ^^^ (c + 2 ^ m * d)) (2 ^ m)
  rw [e1, e2] at this
  exact this.symm
theorem ofle_append (a b : List UInt8) : ofle (a ++ b) = ofle a + 2 ^ (8 * a.length) * ofle b := by
  induction a with
  | nil => simp [ofle]
  | cons c r ih =>
    simp only [List.cons_append, ofle, ih, List.length_cons]
    rw [show 8 * (r.length + 1) = 8 + 8 * r.length from by omega, Nat.pow_add, Nat.mul_add, Nat.mul_assoc, Nat.add_assoc]
theorem run_ofle (l : List UInt8) (n : Nat) : runC n l = stepsC (8 * l.length) (n ^^^ ofle l) := by
  induction l generalizing n with
  | nil => simp [runC, ofle, stepsC]
  | cons c r ih =>
    have hc := c.toNat_lt
    have e : c.toNat + 256 * ofle r = c.toNat ^^^ (ofle r * 2 ^ 8) := by
      have := join_xor 8 c.toNat 0 0 (ofle r) (by omega) (by omega)
      simp only [Nat.mul_zero, Nat.add_zero, Nat.zero_add, Nat.xor_zero, Nat.zero_xor] at this
      rw [Nat.mul_comm (ofle r), this]
    have h1 : runC n (c :: r) = runC (byteC n c.toNat) r := rfl
    rw [h1, ih]
    simp only [ofle, List.length_cons]
    rw [e, show 8 * (r.length + 1) = 8 * r.length + 8 from by omega, stepsC_add, ← Nat.xor_assoc, stepsC_xor 8, stepsC_shift]
    rfl
theorem runC_append (a b : List UInt8) (n : Nat) : runC n (a ++ b) = runC (runC n a) b := by simp [runC]

/-! ### bursts -/
def IsBurst (x : Nat) : Prop := ∃ y p, y < 4294967296 ∧ x = y * 2 ^ p
theorem IsBurst.div {x : Nat} (h : IsBurst x) (k : Nat) : IsBurst (x / 2 ^ k) := by
  obtain ⟨y, p, hy, rfl⟩ := h
  rcases Nat.le_total k p with hk | hk
  · refine ⟨y, p - k, hy, ?_⟩
    rw [show (2 : Nat) ^ p = 2 ^ (p - k) * 2 ^ k from by rw [← Nat.pow_add]; congr 1; omega, ← Nat.mul_assoc, Nat.mul_div_cancel _ (Nat.two_pow_pos k)]
  · refine ⟨y / 2 ^ (k - p), 0, Nat.lt_of_le_of_lt (Nat.div_le_self _ _) hy, ?_⟩
    rw [Nat.pow_zero, Nat.mul_one, show (2 : Nat) ^ k = 2 ^ (k - p) * 2 ^ p from by rw [← Nat.pow_add]; congr 1; omega, Nat.mul_div_mul_right _ _ (Nat.two_pow_pos p)]
theorem IsBurst.mod {x : Nat} (h : IsBurst x) (k : Nat) : IsBurst (x % 2 ^ k) := by
  obtain ⟨y, p, hy, rfl⟩ := h
  rcases Nat.le_total k p with hk | hk
  · refine ⟨0, 0, by omega, ?_⟩
    rw [show (2 : Nat) ^ p = 2 ^ (p - k) * 2 ^ k from by rw [← Nat.pow_add]; congr 1; omega, ← Nat.mul_assoc, Nat.mul_mod_left]
  · refine ⟨y % 2 ^ (k - p), p, Nat.lt_of_le_of_lt (Nat.mod_le _ _) hy, ?_⟩
    rw [show (2 : Nat) ^ k = 2 ^ (k - p) * 2 ^ p from by rw [← Nat.pow_add]; congr 1; omega, Nat.mul_mod_mul_right]

theorem ofle_inj {a b : List UInt8} (hl : a.length = b.length) (h : ofle a = ofle b) : a = b := by
  have h1 := le_ofle a
  have h2 := le_ofle b
  rw [h, hl] at h1
  exact h1.symm.trans h2
theorem ofle_xor_append (a b c d : List UInt8) (hl : a.length = c.length) :
    (ofle (a ++ b) ^^^ ofle (c ++ d)) % 2 ^ (8 * a.length) = ofle a ^^^ ofle c ∧ (ofle (a ++ b) ^^^ ofle (c ++ d)) / 2 ^ (8 * a.length) = ofle b ^^^ ofle d := by
  have ha := ofle_lt a
  have hc := ofle_lt c
  rw [← hl] at hc
  have e : ofle (a ++ b) ^^^ ofle (c ++ d) = (ofle a ^^^ ofle c) + 2 ^ (8 * a.length) * (ofle b ^^^ ofle d) := by
    rw [ofle_append, ofle_append, ← hl, join_xor _ _ _ _ _ ha hc]
  have hx : ofle a ^^^ ofle c < 2 ^ (8 * a.length) := Nat.xor_lt_two_pow ha hc
  rw [e, Nat.add_mul_mod_self_left, Nat.mod_eq_of_lt hx, Nat.add_mul_div_left _ _ (Nat.two_pow_pos _), Nat.div_eq_of_lt hx, Nat.zero_add]
  exact ⟨rfl, rfl⟩

/-- What bytes with their sum behind them come to. -/
theorem run_valid (d s : List UInt8) (hs : s.length = 4) (h : ofle s = crc d) : runC ones (d ++ s) = stepsC 32 ones := by
  rw [runC_append, run_ofle s, hs, h]
  unfold crc
  rw [← Nat.xor_assoc, Nat.xor_self, Nat.zero_xor]

/-- No burst leads from bytes with their sum to other bytes with theirs. -/
theorem no_burst (d0 s0 d1 s1 : List UInt8) (hd : d0.length = d1.length) (h0 : s0.length = 4) (h1 : s1.length = 4) (v0 : ofle s0 = crc d0) (v1 : ofle s1 = crc d1) (hb : IsBurst (ofle (d0 ++ s0) ^^^ ofle (d1 ++ s1))) : d0 ++ s0 = d1 ++ s1 := by
  have hl : (d0 ++ s0).length = (d1 ++ s1).length := by simp [hd, h0, h1]
  have e0 := run_valid d0 s0 h0 v0
  have e1 := run_valid d1 s1 h1 v1
  rw [run_ofle] at e0 e1
  rw [← hl] at e1
  have hz : stepsC (8 * (d0 ++ s0).length) (ofle (d0 ++ s0) ^^^ ofle (d1 ++ s1)) = 0 := by
    have : ofle (d0 ++ s0) ^^^ ofle (d1 ++ s1) = (ones ^^^ ofle (d0 ++ s0)) ^^^ (ones ^^^ ofle (d1 ++ s1)) := by
      rw [Nat.xor_comm ones (ofle (d0 ++ s0)), Nat.xor_assoc, ← Nat.xor_assoc ones ones, Nat.xor_self, Nat.zero_xor]
    rw [this, stepsC_xor, e0, e1, Nat.xor_self]
  have hlt : ofle (d0 ++ s0) ^^^ ofle (d1 ++ s1) < 2 ^ (8 * (d0 ++ s0).length) := Nat.xor_lt_two_pow (ofle_lt _) (by rw [hl]; exact ofle_lt _)
  apply ofle_inj hl
  apply eq_of_xor
  generalize 8 * (d0 ++ s0).length = L at *
  generalize ofle (d0 ++ s0) ^^^ ofle (d1 ++ s1) = X at *
  obtain ⟨y, p, hy, rfl⟩ := hb
  by_cases hy0 : y = 0
  · simp [hy0]
  · exfalso
    have hp : p ≤ L := by
      rcases Nat.le_total p L with h | h
      · exact h
      · have h2 : 2 ^ L ≤ 2 ^ p := Nat.pow_le_pow_right (by omega) h
        have h3 : 2 ^ p ≤ y * 2 ^ p := Nat.le_mul_of_pos_left _ (by omega)
        omega
    rw [show L = (L - p) + p from by omega, stepsC_add, stepsC_shift] at hz
    exact stepsC_ne _ hy hy0 hz

/-! ### a log with a burst in it -/
theorem readSummed_burst (d t rest : List UInt8) (hl : t.length = (summed d).length) (hne : t ≠ summed d) (hb : IsBurst (ofle (summed d) ^^^ ofle t)) : readSummed d.length (t ++ rest) = none := by
  rw [summed_length] at hl
  unfold readSummed
  rw [if_neg (by simp; omega)]
  have ht : t.take d.length ++ t.drop d.length = t := List.take_append_drop _ _
  have e1 : (t ++ rest).take d.length = t.take d.length := List.take_append_of_le_length (by omega)
  have e2 : ((t ++ rest).drop d.length).take 4 = t.drop d.length := by
    rw [List.drop_append_of_le_length (by omega), List.take_append_of_le_length (by rw [List.length_drop]; omega), List.take_of_length_le (by rw [List.length_drop]; omega)]
  rw [e1, e2]
  rw [if_neg]
  intro hv
  apply hne
  have hc := crc_lt d
  have hv0 : ofle (le 4 (crc d)) = crc d := by rw [ofle_le]; exact Nat.mod_eq_of_lt (by omega)
  have := no_burst d (le 4 (crc d)) (t.take d.length) (t.drop d.length) (by rw [List.length_take]; omega) (le_length _ _) (by rw [List.length_drop]; omega) hv0 hv (by rw [ht]; exact hb)
  rw [ht] at this
  exact this.symm

theorem record_burst (r t rest : List UInt8) (hr : r.length ≤ 128) (hl : t.length = (frame1 r).length) (hne : t ≠ frame1 r) (hb : IsBurst (ofle (frame1 r) ^^^ ofle t)) : record (t ++ rest) = none := by
  have hh : (summed [UInt8.ofNat r.length]).length = 5 := by rw [summed_length]; rfl
  rw [frame1_length] at hl
  have ht : t.take 5 ++ t.drop 5 = t := List.take_append_drop _ _
  have h5 : (t.take 5).length = 5 := by rw [List.length_take]; omega
  have hx := ofle_xor_append (summed [UInt8.ofNat r.length]) (summed r) (t.take 5) (t.drop 5) (by rw [hh, h5])
  rw [ht] at hx
  have hfr : frame1 r = summed [UInt8.ofNat r.length] ++ summed r := rfl
  rw [← hfr] at hx
  have hb1 := hb.mod (8 * (summed [UInt8.ofNat r.length]).length)
  have hb2 := hb.div (8 * (summed [UInt8.ofNat r.length]).length)
  rw [hx.1] at hb1
  rw [hx.2] at hb2
  have e : t ++ rest = t.take 5 ++ (t.drop 5 ++ rest) := by rw [← List.append_assoc, ht]
  rw [e]
  by_cases h1 : t.take 5 = summed [UInt8.ofNat r.length]
  · have h2 : t.drop 5 ≠ summed r := by
      intro h2
      apply hne
      rw [← ht, h1, h2, hfr]
    have hrs := readSummed_summed [UInt8.ofNat r.length] (t.drop 5 ++ rest)
    have hbt : (UInt8.ofNat r.length).toNat = r.length := by simp; omega
    simp only [List.length_singleton] at hrs
    unfold record
    rw [h1, hrs]
    simp only [Option.bind_some, List.headD_cons, hbt]
    rw [if_pos hr]
    exact readSummed_burst r (t.drop 5) rest (by rw [summed_length, List.length_drop]; omega) h2 hb2
  · have := readSummed_burst [UInt8.ofNat r.length] (t.take 5) (t.drop 5 ++ rest) (by rw [hh, h5]) h1 hb1
    simp only [List.length_singleton] at this
    unfold record
    rw [this]
    rfl

theorem records_burst (rs : List (List UInt8)) (h : ∀ r ∈ rs, r.length ≤ 128) (t : List UInt8) (hl : t.length = (log rs).length) (hne : t ≠ log rs) (hb : IsBurst (ofle (log rs) ^^^ ofle t)) (f : Nat) (hf : t.length < f) :
    (records f t).2 = false ∧ ∃ n, n ≤ rs.length ∧ (records f t).1 = rs.take n := by
  induction rs generalizing t f with
  | nil =>
    exfalso
    apply hne
    exact List.eq_nil_of_length_eq_zero (by rw [hl]; rfl)
  | cons r rs ih =>
    rw [log_cons] at hl hne hb
    have hr := h r (by simp)
    have hfl := frame1_length r
    rw [List.length_append] at hl
    have ht : t.take (frame1 r).length ++ t.drop (frame1 r).length = t := List.take_append_drop _ _
    have ht1 : (t.take (frame1 r).length).length = (frame1 r).length := by rw [List.length_take]; omega
    have ht2 : (t.drop (frame1 r).length).length = (log rs).length := by rw [List.length_drop]; omega
    have hx := ofle_xor_append (frame1 r) (log rs) (t.take (frame1 r).length) (t.drop (frame1 r).length) ht1.symm
    rw [ht] at hx
    have hb1 := hb.mod (8 * (frame1 r).length)
    have hb2 := hb.div (8 * (frame1 r).length)
    rw [hx.1] at hb1
    rw [hx.2] at hb2
    cases f with
    | zero => omega
    | succ f =>
      by_cases h1 : t.take (frame1 r).length = frame1 r
      · have h2 : t.drop (frame1 r).length ≠ log rs := by
          intro h2
          apply hne
          rw [← ht, h1, h2]
        obtain ⟨i1, n, hn, i2⟩ := ih (fun x hx => h x (by simp [hx])) (t.drop (frame1 r).length) ht2 h2 hb2 f (by omega)
        have e : records (f + 1) t = (r :: (records f (t.drop (frame1 r).length)).1, (records f (t.drop (frame1 r).length)).2) := by
          simp only [records]
          rw [if_neg (by omega)]
          have : record t = some (r, t.drop (frame1 r).length) := by
            conv => lhs; rw [← ht, h1]
            exact record_frame r _ hr
          rw [this]
        rw [e]
        exact ⟨i1, n + 1, by simp; omega, by simp [i2]⟩
      · have e : records (f + 1) t = ([], false) := by
          simp only [records]
          rw [if_neg (by omega)]
          have : record t = none := by
            conv => lhs; rw [← ht]
            exact record_burst r _ _ hr ht1 h1 hb1
          rw [this]
        rw [e]
        exact ⟨rfl, 0, by simp, by simp⟩
end Go.Proofs.Ytaboikhdomlbjaa.Pl
