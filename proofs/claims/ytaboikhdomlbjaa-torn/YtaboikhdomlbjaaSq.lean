/-
  SQUEEZED TEXTS, PLAINLY: what a text stands for; that what Squeeze lays stands for its data; how long it gets. No Go in sight.
-/
import Derived.Test.YtaboikhdomlbjaaNum
namespace Go.Proofs.Ytaboikhdomlbjaa.Pl

/-- Bytes that stand for themselves, cut into parts of at most 128. -/
def plains : Nat → List UInt8 → List UInt8
  | 0, _ => []
  | f + 1, d => if d.length = 0 then [] else UInt8.ofNat (min d.length 128 - 1) :: (d.take (min d.length 128) ++ plains f (d.drop (min d.length 128)))

/-- So many bytes copied from a distance; a copy may reach into itself. -/
def copyN (o : List UInt8) (d : Nat) : Nat → List UInt8
  | 0 => o
  | k + 1 => copyN o d k ++ [(copyN o d k).getD ((copyN o d k).length - d) 0]

/-- One part: what is left of the text, and what has been made. -/
def part (x : List UInt8 × List UInt8) : Option (List UInt8 × List UInt8) :=
  match x.1 with
  | [] => none
  | m :: r =>
    if m.toNat < 128 then (if m.toNat + 1 ≤ r.length then some (r.drop (m.toNat + 1), x.2 ++ r.take (m.toNat + 1)) else none)
    else if r.length < 2 then none
    else if 1 ≤ ofle (r.take 2) ∧ ofle (r.take 2) ≤ x.2.length then some (r.drop 2, copyN x.2 (ofle (r.take 2)) (m.toNat - 124)) else none

def stepsTo : Nat → List UInt8 × List UInt8 → Option (List UInt8 × List UInt8)
  | 0, x => some x
  | k + 1, x => (part x).bind (stepsTo k)

/-- Parts till so many bytes are made; there must be just as many, and nothing left. -/
def parts : Nat → List UInt8 × List UInt8 → Nat → Option (List UInt8)
  | 0, x, size => if x.2.length < size then none else if x.2.length = size ∧ x.1 = [] then some x.2 else none
  | f + 1, x, size => if x.2.length < size then (part x).bind (fun y => parts f y size) else if x.2.length = size ∧ x.1 = [] then some x.2 else none

/-- What a text stands for, within so much room. -/
def unsq (t : List UInt8) (most : Int) : Option (List UInt8) :=
  if t.length < 2 then none
  else if ofle (t.take 2) ≤ 1024 ∧ (ofle (t.take 2) : Int) ≤ most then parts (ofle (t.take 2)) (t.drop 2, []) (ofle (t.take 2)) else none

theorem copyN_length (o : List UInt8) (d k : Nat) : (copyN o d k).length = o.length + k := by
  induction k with
  | zero => rfl
  | succ k ih => simp [copyN, ih]; omega

theorem part_grows {x y : List UInt8 × List UInt8} (h : part x = some y) : x.2.length < y.2.length := by
  obtain ⟨r, o⟩ := x
  unfold part at h
  cases r with
  | nil => simp at h
  | cons m r =>
    simp only at h
    split at h
    · split at h
      · simp only [Option.some.injEq] at h; subst h; simp; omega
      · cases h
    · split at h
      · cases h
      · split at h
        · simp only [Option.some.injEq] at h; subst h; simp [copyN_length]; omega
        · cases h

theorem part_bound {x y : List UInt8 × List UInt8} (h : part x = some y) : y.2.length ≤ x.2.length + 131 := by
  obtain ⟨r, o⟩ := x
  unfold part at h
  cases r with
  | nil => simp at h
  | cons m r =>
    have hm := m.toNat_lt
    simp only at h
    split at h
    · split at h
      · simp only [Option.some.injEq] at h; subst h; simp; omega
      · cases h
    · split at h
      · cases h
      · split at h
        · simp only [Option.some.injEq] at h; subst h; simp [copyN_length]; omega
        · cases h

theorem stepsTo_add (k m : Nat) (x : List UInt8 × List UInt8) : stepsTo (k + m) x = (stepsTo k x).bind (stepsTo m) := by
  induction k generalizing x with
  | zero => simp [stepsTo]
  | succ k ih =>
    rw [show k + 1 + m = (k + m) + 1 from by omega]
    simp only [stepsTo]
    cases part x with
    | none => rfl
    | some y => simp [ih]

theorem stepsTo_le {k : Nat} {x y : List UInt8 × List UInt8} (h : stepsTo k x = some y) : x.2.length ≤ y.2.length := by
  induction k generalizing x with
  | zero => simp [stepsTo] at h; subst h; exact Nat.le_refl _
  | succ k ih =>
    simp only [stepsTo] at h
    cases hp : part x with
    | none => simp [hp] at h
    | some z =>
      simp [hp] at h
      have := part_grows hp
      have := ih h
      omega

theorem parts_of_steps {k : Nat} {x : List UInt8 × List UInt8} {d : List UInt8} {size f : Nat} (h : stepsTo k x = some ([], d)) (hd : d.length = size) (hf : size ≤ x.2.length + f) : parts f x size = some d := by
  induction k generalizing x f with
  | zero =>
    simp [stepsTo] at h
    subst h
    cases f <;> simp [parts, hd]
  | succ k ih =>
    simp only [stepsTo] at h
    cases hp : part x with
    | none => simp [hp] at h
    | some y =>
      simp [hp] at h
      have h1 := part_grows hp
      have h2 := stepsTo_le h
      simp only at h2
      cases f with
      | zero => omega
      | succ f =>
        simp only [parts]
        rw [if_pos (by omega), hp]
        exact ih h (by omega)

theorem parts_step {f : Nat} {x : List UInt8 × List UInt8} {size : Nat} (h : x.2.length < size) (hf : size ≤ x.2.length + f) : parts f x size = (part x).bind (fun y => parts (f - 1) y size) := by
  cases f with
  | zero => omega
  | succ f => simp only [parts]; rw [if_pos h]; rfl
theorem parts_end {f : Nat} {x : List UInt8 × List UInt8} {size : Nat} (h : ¬ x.2.length < size) : parts f x size = if x.2.length = size ∧ x.1 = [] then some x.2 else none := by
  cases f <;> (simp only [parts]; rw [if_neg h])

theorem parts_length {f : Nat} {x : List UInt8 × List UInt8} {size : Nat} {d : List UInt8} (h : parts f x size = some d) : d.length = size := by
  induction f generalizing x with
  | zero =>
    simp only [parts] at h
    split at h
    · cases h
    · split at h
      · next hc => cases h; exact hc.1
      · cases h
  | succ f ih =>
    simp only [parts] at h
    split at h
    · cases hp : part x with
      | none => simp [hp] at h
      | some y => simp [hp] at h; exact ih h
    · split at h
      · next hc => cases h; exact hc.1
      · cases h

theorem unsq_bounds {t : List UInt8} {most : Int} {d : List UInt8} (h : unsq t most = some d) : (d.length : Int) ≤ most ∧ d.length ≤ 1024 ∧ unsq t ((d.length : Int) - 1) = none := by
  unfold unsq at h
  split at h
  · cases h
  · next h2 =>
    split at h
    · next hc =>
      have hl := parts_length h
      refine ⟨by rw [hl]; exact hc.2, by rw [hl]; exact hc.1, ?_⟩
      unfold unsq
      rw [if_neg h2, if_neg (by rw [hl]; omega)]
    · cases h

theorem plains_nil (f : Nat) : plains f [] = [] := by cases f <;> simp [plains]

theorem plains_steps (f : Nat) (d : List UInt8) (h : d.length ≤ f) : ∃ k, ∀ tail o, stepsTo k (plains f d ++ tail, o) = some (tail, o ++ d) := by
  induction f generalizing d with
  | zero =>
    have : d = [] := List.eq_nil_of_length_eq_zero (by omega)
    subst this
    exact ⟨0, fun tail o => by simp [plains, stepsTo]⟩
  | succ f ih =>
    by_cases hd : d.length = 0
    · have : d = [] := List.eq_nil_of_length_eq_zero hd
      subst this
      exact ⟨0, fun tail o => by simp [plains, stepsTo]⟩
    · obtain ⟨k, hk⟩ := ih (d.drop (min d.length 128)) (by simp; omega)
      refine ⟨k + 1, fun tail o => ?_⟩
      have hm : (UInt8.ofNat (min d.length 128 - 1)).toNat = min d.length 128 - 1 := by simp; omega
      have hp : part (plains (f + 1) d ++ tail, o) = some (plains f (d.drop (min d.length 128)) ++ tail, o ++ d.take (min d.length 128)) := by
        simp only [plains, if_neg hd, List.cons_append, part, hm]
        rw [if_pos (by omega), show min d.length 128 - 1 + 1 = min d.length 128 from by omega]
        have hl : (d.take (min d.length 128)).length = min d.length 128 := by simp
        rw [if_pos (by simp), List.append_assoc, List.drop_left' hl, List.take_left' hl]
      simp only [stepsTo, hp, Option.bind_some]
      rw [hk, List.append_assoc, List.take_append_drop]

theorem plains_length (f : Nat) (d : List UInt8) : (plains f d).length ≤ d.length + (d.length + 127) / 128 := by
  induction f generalizing d with
  | zero => simp [plains]
  | succ f ih =>
    by_cases hd : d.length = 0
    · simp [plains, hd]
    · have := ih (d.drop (min d.length 128))
      simp only [plains, if_neg hd, List.length_cons, List.length_append, List.length_take, List.length_drop] at *
      omega

/-- All bytes are the same. -/
def same (d : List UInt8) : Prop := ∀ i j, i < d.length → j < d.length → d.getD i 0 = d.getD j 0

/-- How far Squeeze has come. -/
structure SqInv (data : List UInt8) (a plain : Nat) (enc : List UInt8) : Prop where
  le1 : plain ≤ a
  le2 : a ≤ data.length
  dec : ∃ k, ∀ tail, stepsTo k (enc ++ tail, []) = some (tail, data.take plain)
  len : enc.length ≤ plain + plain / 128
  alike : same data → (plain = 0 ∧ enc = [] ∧ a ≤ 1) ∨ (plain = a ∧ ∃ c, enc.length = 2 + 3 * c ∧ c ≤ 8 ∧ (a = 1 + 131 * c ∨ a = data.length))

theorem SqInv.start (data : List UInt8) : SqInv data 0 0 [] :=
  ⟨Nat.le_refl _, Nat.zero_le _, ⟨0, fun tail => by simp [stepsTo]⟩, by simp, fun _ => .inl ⟨rfl, rfl, by omega⟩⟩

theorem SqInv.plainly {data : List UInt8} {a plain : Nat} {enc : List UInt8} (h : SqInv data a plain enc) (ha : a + 4 ≤ data.length) (h0 : same data → a = 0) : SqInv data (a + 1) plain enc := by
  refine ⟨by have := h.le1; omega, by omega, h.dec, h.len, fun hs => ?_⟩
  have := h0 hs
  subst this
  rcases h.alike hs with ⟨h1, h2, _⟩ | ⟨h1, c, h2, h3, h4⟩
  · exact .inl ⟨h1, h2, by omega⟩
  · rcases h4 with h4 | h4 <;> omega

/-- What 'alike' finds. -/
structure Alike (data : List UInt8) (src a n : Nat) : Prop where
  le : n ≤ 131
  fits : a + n ≤ data.length
  eq : ∀ j, j < n → data.getD (src + j) 0 = data.getD (a + j) 0
  most : n = 131 ∨ a + n = data.length ∨ data.getD (src + n) 0 ≠ data.getD (a + n) 0

theorem copy_steps {data : List UInt8} {src a : Nat} (hlt : src < a) (n : Nat) (hf : a + n ≤ data.length) (he : ∀ j, j < n → data.getD (src + j) 0 = data.getD (a + j) 0) : copyN (data.take a) (a - src) n = data.take (a + n) := by
  induction n with
  | zero => rfl
  | succ n ih =>
    have ih' := ih (by omega) (fun j hj => he j (by omega))
    simp only [copyN, ih']
    have hl : (data.take (a + n)).length = a + n := by simp; omega
    rw [hl, show a + n - (a - src) = src + n from by omega]
    have e1 : (data.take (a + n)).getD (src + n) 0 = data.getD (src + n) 0 := by
      simp only [List.getD_eq_getElem?_getD]
      rw [List.getElem?_take, if_pos (by omega)]
    rw [e1, he n (by omega), show a + (n + 1) = (a + n) + 1 from by omega, List.take_succ_eq_append_getElem (by omega)]
    congr 1
    simp [List.getD_eq_getElem?_getD, List.getElem?_eq_getElem (show a + n < data.length by omega)]

theorem SqInv.copied {data : List UInt8} {a plain : Nat} {enc : List UInt8} {src n : Nat} (h : SqInv data a plain enc) (hN : data.length ≤ 1024) (ha : a + 4 ≤ data.length) (hlt : src < a) (hA : Alike data src a n) (h4 : 4 ≤ n)
    {seg : List UInt8} (hseg : seg = (data.drop plain).take (a - plain)) {f : Nat} (hf : seg.length ≤ f) :
    SqInv data (a + n) (a + n) (enc ++ plains f seg ++ (UInt8.ofNat (124 + n) :: le 2 (a - src))) := by
  have hle := h.le1
  have hn := hA.le
  have hsl : seg.length = a - plain := by subst hseg; simp; omega
  have htake : data.take plain ++ seg = data.take a := by
    subst hseg
    rw [← List.drop_take]
    conv => rhs; rw [← List.take_append_drop plain (data.take a), List.take_take, Nat.min_eq_left hle]
  have hpl := plains_length f seg
  have hmark : (UInt8.ofNat (124 + n)).toNat = 124 + n := by simp; omega
  have hdist : ofle (le 2 (a - src)) = a - src := by rw [ofle_le]; exact Nat.mod_eq_of_lt (by omega)
  refine ⟨Nat.le_refl _, hA.fits, ?_, ?_, fun hs => .inr ⟨rfl, ?_⟩⟩
  · obtain ⟨k, hk⟩ := h.dec
    obtain ⟨m, hm⟩ := plains_steps f seg hf
    refine ⟨k + (m + 1), fun tail => ?_⟩
    rw [stepsTo_add, List.append_assoc, List.append_assoc, hk, Option.bind_some, stepsTo_add, hm, Option.bind_some, htake]
    have hp : part (UInt8.ofNat (124 + n) :: le 2 (a - src) ++ tail, data.take a) = some (tail, data.take (a + n)) := by
      simp only [part, List.cons_append, hmark]
      have hl2 := le_length 2 (a - src)
      rw [if_neg (by omega), if_neg (by simp; omega), List.take_left' hl2, List.drop_left' hl2, hdist, if_pos ⟨by omega, by simp; omega⟩, show 124 + n - 124 = n from by omega, copy_steps hlt n hA.fits hA.eq]
    simp only [stepsTo, hp, Option.bind_some]
  · have := h.len
    simp only [List.length_append, List.length_cons, le_length]
    omega
  · have hmax : n = 131 ∨ a + n = data.length := by
      rcases hA.most with h1 | h1 | h1
      · exact .inl h1
      · exact .inr h1
      · rcases Nat.lt_or_ge (a + n) data.length with h2 | h2
        · exact absurd (hs _ _ (by omega) h2) h1
        · exact .inr (by have := hA.fits; omega)
    rcases h.alike hs with ⟨h1, h2, h3⟩ | ⟨h1, c, h2, h3, h5⟩
    · have ha1 : a = 1 := by omega
      subst ha1 h1 h2
      obtain ⟨b, hb⟩ : ∃ b, seg = [b] := by
        match seg, hsl with
        | [b], _ => exact ⟨b, rfl⟩
      have hp2 : (plains f seg).length = 2 := by
        subst hb
        cases f with
        | zero => simp at hf
        | succ f => simp [plains, plains_nil]
      refine ⟨1, by simp [hp2, le_length], by omega, ?_⟩
      rcases hmax with h | h
      · exact .inl (by omega)
      · exact .inr h
    · have hs0 : seg = [] := List.eq_nil_of_length_eq_zero (by omega)
      subst hs0
      rcases h5 with h5 | h5
      · refine ⟨c + 1, by simp [plains_nil, le_length, h2]; omega, by omega, ?_⟩
        rcases hmax with h | h
        · exact .inl (by omega)
        · exact .inr h
      · omega

/-- What a squeezed text is. -/
structure IsSq (d t : List UInt8) : Prop where
  len : t.length ≤ d.length + 16
  short : same d → t.length ≤ 48
  dec : ∃ enc k, t = le 2 d.length ++ enc ∧ stepsTo k (enc, []) = some ([], d)

theorem SqInv.done {data : List UInt8} {a plain : Nat} {enc : List UInt8} (h : SqInv data a plain enc) (hN : data.length ≤ 1024) (ha : ¬ a + 4 ≤ data.length) {f : Nat} (hf : data.length - plain ≤ f) :
    IsSq data (le 2 data.length ++ enc ++ plains f (data.drop plain)) := by
  have hle := h.le1
  have hle2 := h.le2
  have hpl := plains_length f (data.drop plain)
  rw [List.length_drop] at hpl
  refine ⟨?_, fun hs => ?_, enc ++ plains f (data.drop plain), ?_⟩
  · have := h.len
    simp only [List.length_append, le_length]
    omega
  · simp only [List.length_append, le_length]
    rcases h.alike hs with ⟨h1, h2, h3⟩ | ⟨h1, c, h2, h3, h5⟩
    · subst h2; simp only [List.length_nil]; omega
    · omega
  · obtain ⟨k, hk⟩ := h.dec
    obtain ⟨m, hm⟩ := plains_steps f (data.drop plain) (by simpa using hf)
    refine ⟨k + m, by simp, ?_⟩
    have hm' := hm [] (data.take plain)
    rw [List.append_nil, List.take_append_drop] at hm'
    rw [stepsTo_add, hk, Option.bind_some, hm']

theorem unsq_sq {d t : List UInt8} (h : IsSq d t) (hN : d.length ≤ 1024) (most : Int) : unsq t most = if (d.length : Int) ≤ most then some d else none := by
  obtain ⟨enc, k, rfl, hk⟩ := h.dec
  have hl2 := le_length 2 d.length
  unfold unsq
  rw [if_neg (by simp [hl2]), List.take_left' hl2, List.drop_left' hl2]
  have : ofle (le 2 d.length) = d.length := by rw [ofle_le]; exact Nat.mod_eq_of_lt (by omega)
  rw [this]
  by_cases hm : (d.length : Int) ≤ most
  · rw [if_pos ⟨hN, hm⟩, if_pos hm]
    exact parts_of_steps hk rfl (by simp)
  · rw [if_neg (by omega), if_neg hm]
end Go.Proofs.Ytaboikhdomlbjaa.Pl
