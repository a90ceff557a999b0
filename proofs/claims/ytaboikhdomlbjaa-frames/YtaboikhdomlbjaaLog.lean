/-
  LOGS, PLAINLY: what Frame lays, what Unframe reads. No Go in sight.
-/
import Derived.Test.YtaboikhdomlbjaaNum
import Derived.Test.YtaboikhdomlbjaaSum
namespace Go.Proofs.Ytaboikhdomlbjaa.Pl

/-- Bytes, and their sum behind them. -/
def summed (d : List UInt8) : List UInt8 := d ++ le 4 (crc d)
/-- One record, framed. -/
def frame1 (r : List UInt8) : List UInt8 := summed [UInt8.ofNat r.length] ++ summed r
def log (rs : List (List UInt8)) : List UInt8 := rs.flatMap frame1

/-- n bytes and their sum, off the front. -/
def readSummed (n : Nat) (t : List UInt8) : Option (List UInt8 × List UInt8) :=
  if t.length < n + 4 then none
  else if ofle ((t.drop n).take 4) = crc (t.take n) then some (t.take n, t.drop (n + 4)) else none
/-- One record, off the front. -/
def record (t : List UInt8) : Option (List UInt8 × List UInt8) :=
  (readSummed 1 t).bind fun x => if (x.1.headD 0).toNat ≤ 128 then readSummed (x.1.headD 0).toNat x.2 else none
/-- All records, and whether nothing else is there. -/
def records : Nat → List UInt8 → List (List UInt8) × Bool
  | 0, _ => ([], false)
  | f + 1, t => if t.length = 0 then ([], true) else
    match record t with
    | none => ([], false)
    | some (r, rest) => (r :: (records f rest).1, (records f rest).2)

theorem summed_length (d : List UInt8) : (summed d).length = d.length + 4 := by simp [summed, le_length]
theorem frame1_length (r : List UInt8) : (frame1 r).length = r.length + 9 := by simp [frame1, summed_length]; omega
theorem log_append (a b : List (List UInt8)) : log (a ++ b) = log a ++ log b := by simp [log]
theorem log_one (r : List UInt8) : log [r] = frame1 r := by simp [log]
theorem log_length_le (rs : List (List UInt8)) (h : ∀ r ∈ rs, r.length ≤ 128) : (log rs).length ≤ 137 * rs.length := by
  induction rs with
  | nil => simp [log]
  | cons r rs ih =>
    have h1 := ih (fun x hx => h x (by simp [hx]))
    have h2 := h r (by simp)
    have : log (r :: rs) = frame1 r ++ log rs := by simp [log]
    rw [this, List.length_append, frame1_length, List.length_cons]
    omega

theorem readSummed_summed (d rest : List UInt8) : readSummed d.length (summed d ++ rest) = some (d, rest) := by
  unfold readSummed summed
  have hc := crc_lt d
  rw [if_neg (by simp [le_length]), List.append_assoc, List.drop_left, List.take_left, List.take_left' (le_length 4 _), ofle_le, Nat.mod_eq_of_lt (by omega), if_pos rfl]
  congr 2
  rw [← List.append_assoc, List.drop_left' (by simp [le_length])]

theorem record_frame (r rest : List UInt8) (h : r.length ≤ 128) : record (frame1 r ++ rest) = some (r, rest) := by
  unfold record frame1
  have h1 := readSummed_summed [UInt8.ofNat r.length] (summed r ++ rest)
  have hb : (UInt8.ofNat r.length).toNat = r.length := by simp; omega
  rw [List.append_assoc]
  simp only [List.length_singleton] at h1
  rw [h1]
  simp only [Option.bind_some, List.headD_cons, hb]
  rw [if_pos h, readSummed_summed]

/-- What is read was there. -/
theorem readSummed_is {n : Nat} {t d rest : List UInt8} (h : readSummed n t = some (d, rest)) : t = summed d ++ rest ∧ d.length = n := by
  unfold readSummed at h
  split at h
  · cases h
  · next hl =>
    split at h
    · next hc =>
      simp only [Option.some.injEq, Prod.mk.injEq] at h
      obtain ⟨rfl, rfl⟩ := h
      have hl4 : ((t.drop n).take 4).length = 4 := by simp; omega
      refine ⟨?_, by simp; omega⟩
      unfold summed
      rw [← hc]
      have hle := le_ofle ((t.drop n).take 4)
      rw [hl4] at hle
      rw [hle, List.append_assoc, ← List.drop_drop, List.take_append_drop, List.take_append_drop]
    · cases h
theorem record_is {t r rest : List UInt8} (h : record t = some (r, rest)) : t = frame1 r ++ rest ∧ r.length ≤ 128 := by
  unfold record at h
  cases h1 : readSummed 1 t with
  | none => simp [h1] at h
  | some x =>
    obtain ⟨d, rest1⟩ := x
    simp only [h1, Option.bind_some] at h
    obtain ⟨e1, l1⟩ := readSummed_is h1
    obtain ⟨c, rfl⟩ : ∃ c, d = [c] := by
      match d, l1 with
      | [c], _ => exact ⟨c, rfl⟩
    by_cases hc : ([c].headD 0).toNat ≤ 128
    · rw [if_pos hc] at h
      obtain ⟨e2, l2⟩ := readSummed_is h
      change c.toNat ≤ 128 at hc
      change r.length = c.toNat at l2
      refine ⟨?_, by omega⟩
      have : UInt8.ofNat r.length = c := by rw [l2]; apply UInt8.toNat_inj.1; simp
      rw [e1, e2, frame1, this, List.append_assoc]
    · rw [if_neg hc] at h
      cases h
theorem record_shorter {t r rest : List UInt8} (h : record t = some (r, rest)) : rest.length + 9 + r.length = t.length := by
  rw [(record_is h).1, List.length_append, frame1_length]; omega

/-- A log is read back whole. -/
theorem records_log (rs : List (List UInt8)) (h : ∀ r ∈ rs, r.length ≤ 128) (f : Nat) (hf : (log rs).length < f) : records f (log rs) = (rs, true) := by
  induction rs generalizing f with
  | nil =>
    cases f with
    | zero => omega
    | succ f => simp [records, log]
  | cons r rs ih =>
    have e : log (r :: rs) = frame1 r ++ log rs := by simp [log]
    have hl : (log (r :: rs)).length = r.length + 9 + (log rs).length := by rw [e, List.length_append, frame1_length]
    cases f with
    | zero => omega
    | succ f =>
      have hr := ih (fun x hx => h x (by simp [hx])) f (by omega)
      simp only [records]
      rw [if_neg (by omega), e, record_frame r _ (h r (by simp))]
      simp only [hr]

/-- Of any text: the records' logs are a beginning of it; it is whole just if they are all of it. -/
theorem records_is (f : Nat) (t : List UInt8) (hf : t.length < f) : (∀ r ∈ (records f t).1, r.length ≤ 128) ∧ (∃ tail, t = log (records f t).1 ++ tail ∧ ((records f t).2 = true ↔ tail = [])) ∧ 9 * (records f t).1.length ≤ t.length := by
  induction f generalizing t with
  | zero => omega
  | succ f ih =>
    by_cases h0 : t.length = 0
    · have : t = [] := List.eq_nil_of_length_eq_zero h0
      subst this
      simp [records, log]
    · cases hr : record t with
      | none =>
        have e : records (f + 1) t = ([], false) := by simp only [records]; rw [if_neg h0, hr]
        rw [e]
        refine ⟨by simp, ⟨t, by simp [log], by simp; intro h; subst h; simp at h0⟩, by simp⟩
      | some x =>
        obtain ⟨r, rest⟩ := x
        have e : records (f + 1) t = (r :: (records f rest).1, (records f rest).2) := by simp only [records]; rw [if_neg h0, hr]
        have hs := record_shorter hr
        obtain ⟨h1, ⟨tail, h2, h3⟩, h4⟩ := ih rest (by omega)
        rw [e]
        refine ⟨?_, ⟨tail, ?_, h3⟩, by simp; omega⟩
        · intro x hx
          rcases List.mem_cons.1 hx with rfl | hx
          · exact (record_is hr).2
          · exact h1 x hx
        · have e2 : log (r :: (records f rest).1) = frame1 r ++ log (records f rest).1 := by simp [log]
          rw [e2, List.append_assoc, ← h2]
          exact (record_is hr).1
end Go.Proofs.Ytaboikhdomlbjaa.Pl
