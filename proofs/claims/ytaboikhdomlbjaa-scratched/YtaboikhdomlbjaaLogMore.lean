/-
  LOGS THAT ARE CUT, AND LOGS WITH A BURST IN THEM, PLAINLY. No Go in sight.
-/
import Derived.Test.YtaboikhdomlbjaaLog
namespace Go.Proofs.Ytaboikhdomlbjaa.Pl

theorem log_cons (r : List UInt8) (rs : List (List UInt8)) : log (r :: rs) = frame1 r ++ log rs := by simp [log]

/-- Records that stand ahead are read first. -/
theorem records_ahead (rs : List (List UInt8)) (h : ∀ r ∈ rs, r.length ≤ 128) (rest : List UInt8) (f : Nat) (hf : (log rs).length + rest.length < f) :
    records f (log rs ++ rest) = (rs ++ (records (f - rs.length) rest).1, (records (f - rs.length) rest).2) := by
  induction rs generalizing f with
  | nil => simp [log]
  | cons r rs ih =>
    rw [log_cons, List.length_append, frame1_length] at hf
    cases f with
    | zero => omega
    | succ f =>
      have hr := ih (fun x hx => h x (by simp [hx])) f (by omega)
      rw [log_cons, List.append_assoc]
      simp only [records]
      rw [if_neg (by simp [frame1_length]), record_frame r _ (h r (by simp))]
      simp only [hr, List.length_cons, List.cons_append]
      rw [show f + 1 - (rs.length + 1) = f - rs.length from by omega]

theorem records_enough (f g : Nat) (t : List UInt8) (hf : t.length < f) (hg : t.length < g) : records f t = records g t := by
  induction f generalizing g t with
  | zero => omega
  | succ f ih =>
    cases g with
    | zero => omega
    | succ g =>
      simp only [records]
      by_cases h0 : t.length = 0
      · rw [if_pos h0, if_pos h0]
      · rw [if_neg h0, if_neg h0]
        cases hr : record t with
        | none => rfl
        | some x =>
          obtain ⟨r, rest⟩ := x
          have := record_shorter hr
          simp only
          rw [ih g rest (by omega) (by omega)]

/-- A record that is cut off is none. -/
theorem record_cut (r : List UInt8) (h : r.length ≤ 128) (j : Nat) (hj : j < (frame1 r).length) : record ((frame1 r).take j) = none := by
  rw [frame1_length] at hj
  have hfl : ((frame1 r).take j).length = j := by rw [List.length_take, frame1_length]; omega
  by_cases h5 : j < 5
  · have : readSummed 1 ((frame1 r).take j) = none := by unfold readSummed; rw [if_pos (by omega)]
    unfold record; rw [this]; rfl
  · have hh : (frame1 r).take j = summed [UInt8.ofNat r.length] ++ (summed r).take (j - 5) := by
      unfold frame1
      rw [List.take_append, summed_length]
      have : (summed [UInt8.ofNat r.length]).take j = summed [UInt8.ofNat r.length] := List.take_of_length_le (by rw [summed_length]; simp; omega)
      rw [this]
      simp
    have h1 := readSummed_summed [UInt8.ofNat r.length] ((summed r).take (j - 5))
    have hb : (UInt8.ofNat r.length).toNat = r.length := by simp; omega
    have h2 : readSummed r.length ((summed r).take (j - 5)) = none := by
      unfold readSummed
      rw [if_pos (by rw [List.length_take, summed_length]; omega)]
    simp only [List.length_singleton] at h1
    unfold record
    rw [hh, h1]
    simp only [Option.bind_some, List.headD_cons, hb]
    rw [if_pos h, h2]

/-- Of a beginning of a log: the records that are whole in it. -/
theorem records_torn (l : List (List UInt8)) (h : ∀ r ∈ l, r.length ≤ 128) (n cut : Nat) (hn : n ≤ l.length) (h1 : (log (l.take n)).length ≤ cut) (h2 : n = l.length ∨ cut < (log (l.take (n + 1))).length) (hc : cut ≤ (log l).length)
    (f : Nat) (hf : cut < f) : records f ((log l).take cut) = (l.take n, decide ((log (l.take n)).length = cut)) := by
  have hsplit : log l = log (l.take n) ++ log (l.drop n) := by rw [← log_append, List.take_append_drop]
  have hle : ∀ r ∈ l.take n, r.length ≤ 128 := fun r hr => h r (List.mem_of_mem_take hr)
  have e1 : (log l).take cut = log (l.take n) ++ (log (l.drop n)).take (cut - (log (l.take n)).length) := by
    rw [hsplit, List.take_append, List.take_of_length_le h1]
  have hlen2 : ((log (l.drop n)).take (cut - (log (l.take n)).length)).length ≤ cut - (log (l.take n)).length := by rw [List.length_take]; omega
  have h9 : n ≤ (log (l.take n)).length := by
    have key : ∀ rs : List (List UInt8), rs.length ≤ (log rs).length := by
      intro rs
      induction rs with
      | nil => simp
      | cons r rs ih => rw [log_cons, List.length_append, frame1_length, List.length_cons]; omega
    have := key (l.take n)
    rw [List.length_take, Nat.min_eq_left hn] at this
    exact this
  rw [e1, records_ahead (l.take n) hle _ f (by omega), List.length_take, Nat.min_eq_left hn]
  have hrest : records (f - n) ((log (l.drop n)).take (cut - (log (l.take n)).length)) = ([], decide ((log (l.take n)).length = cut)) := by
    rcases Nat.lt_or_ge n l.length with hlt | hge
    · have hd : l.drop n = l[n] :: l.drop (n + 1) := List.drop_eq_getElem_cons hlt
      have hln : (log (l.take (n + 1))).length = (log (l.take n)).length + (frame1 l[n]).length := by
        rw [List.take_succ_eq_append_getElem hlt, log_append, log_one, List.length_append]
      have hj : cut - (log (l.take n)).length < (frame1 l[n]).length := by
        rcases h2 with h2 | h2
        · omega
        · omega
      have e2 : (log (l.drop n)).take (cut - (log (l.take n)).length) = (frame1 l[n]).take (cut - (log (l.take n)).length) := by
        rw [hd, log_cons, List.take_append_of_le_length (by omega)]
      rw [e2]
      by_cases h0 : cut - (log (l.take n)).length = 0
      · have hz : (log (l.take n)).length = cut := by omega
        rw [h0, List.take_zero]
        obtain ⟨g, hg⟩ : ∃ g, f - n = g + 1 := ⟨f - n - 1, by omega⟩
        rw [hg]
        simp [records, hz]
      · have hz : ¬ (log (l.take n)).length = cut := by omega
        obtain ⟨g, hg⟩ : ∃ g, f - n = g + 1 := ⟨f - n - 1, by omega⟩
        rw [hg]
        simp only [records]
        rw [if_neg (by rw [List.length_take]; omega), record_cut l[n] (h _ (List.getElem_mem hlt)) _ hj]
        simp [hz]
    · have hnl : n = l.length := by omega
      have hd : l.drop n = [] := List.drop_eq_nil_of_le hge
      have hz : (log (l.take n)).length = cut := by
        rw [hsplit, hd] at hc
        simp [log] at hc ⊢
        simp [log] at h1
        omega
      rw [hd]
      obtain ⟨g, hg⟩ : ∃ g, f - n = g + 1 := ⟨f - n - 1, by omega⟩
      rw [hg]
      simp [records, log]
      simp [log] at hz
      exact hz
  rw [hrest]
  simp
end Go.Proofs.Ytaboikhdomlbjaa.Pl
