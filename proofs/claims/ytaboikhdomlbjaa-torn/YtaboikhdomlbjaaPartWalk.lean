/-
  THE WALK of part: one part of a squeezed text.
-/
import Derived.Test.YtaboikhdomlbjaaCurWalks
namespace Go.Proofs.Ytaboikhdomlbjaa
open Go.RowKit
set_option linter.unusedVariables false

/-- A row that owns an element: where it lies. -/
theorem Owns.open {α : Type} {f : α → Value} {E : TypeId} {base : Nat} {w : World} {v : Value} {l : List α} (h : Owns f E base w v l) (hl : l ≠ []) :
    ∃ g cap, v = .slice (some ⟨g, 0, none⟩) l.length cap ∧ base ≤ g ∧ ∀ j (hj : j < l.length), w.cell? ⟨g, j, none⟩ = some (f l[j]) := by
  rcases h.2 with ⟨rfl, h0⟩ | ⟨g, cap, cur, rfl, hb, hg, hnc, hcm, hcs, htake⟩
  · exact absurd (List.eq_nil_of_length_eq_zero h0) hl
  · refine ⟨g, cap, rfl, hb, fun j hj => ?_⟩
    have := World.ownsRow.cellAt h j (by omega)
    rw [this]
    simp [hj]

section
variable {b base : Nat} {t : ByteArray} {p : Nat} {v : Value} {out : List UInt8} {w : World}

theorem drop_cons (t : ByteArray) (p : Nat) (h : p < t.size) : t.data.toList.drop p = t[p] :: t.data.toList.drop (p + 1) := by
  have h' : p < t.data.toList.length := by simpa using h
  rw [List.drop_eq_getElem_cons h']
  rfl
theorem one_byte (t : ByteArray) (p : Nat) (h : p < t.size) : Pl.ofle ((t.data.toList.drop p).take 1) = t[p].toNat := by
  rw [drop_cons t p h]
  simp [Pl.ofle]

/-- no mark -/
theorem part_end (hc : Cur w b t p) (ht : t.size ≤ maxLen) (hp : t.size ≤ p) (hb : base ≤ w.heap.size) :
    Calls Try.prog 35 #[.pointer (some ⟨b, 0, none⟩), v] w fun e w' => e = .panicked bad ∧ Turned base b w w' := by
  go_enter Try.func35, Try.ntmps35
  go_wp2_with (go_at_call 33; refine (number_no b t p 1 _ hc ht (by omega)).mono ?_; rintro e w' ⟨rfl, m, rfl⟩)
  exact ⟨rfl, rfl, Turned.of_grown (grown_drewN _ _ _) hb⟩

set_option maxRecDepth 100000 in
set_option maxHeartbeats 400000 in
/-- bytes that stand for themselves, and too few of them -/
theorem part_short (hc : Cur w b t p) (ht : t.size ≤ maxLen) (hp : p < t.size) {m : Nat} (h1 : Pl.ofle ((t.data.toList.drop p).take 1) = m) (hm : m < 128) (hr : t.size < p + 1 + (m + 1)) (hb : base ≤ w.heap.size) :
    Calls Try.prog 35 #[.pointer (some ⟨b, 0, none⟩), v] w fun e w' => e = .panicked bad ∧ Turned base b w w' := by
  go_enter Try.func35, Try.ntmps35
  go_wp2_with fail
  refine (number_yes b t p 1 _ hc ht (by omega) (by omega)).mono ?_
  rintro e w1 ⟨rfl, hc1, hg1⟩

  rw [h1]
  clear h1
  go_wp2_with fail
  rw [show (m : Int) + 1 = ((m + 1 : Nat) : Int) from by omega]
  refine (take_no b t (p + 1) (m + 1) _ hc1 ht (by omega)).mono ?_
  rintro e w2 ⟨rfl, n, rfl⟩
  exact ⟨rfl, rfl, Turned.of_grown (hg1.trans (grown_drewN _ _ _)) hb⟩

set_option maxRecDepth 100000 in
set_option maxHeartbeats 400000 in
/-- bytes that stand for themselves -/
theorem part_plain (hc : Cur w b t p) (ht : t.size ≤ maxLen) (hp : p < t.size) {m : Nat} (h1 : Pl.ofle ((t.data.toList.drop p).take 1) = m) (hm : m < 128) (hr : p + 1 + (m + 1) ≤ t.size) (hown : Owns bv 5 base w v out) (hb : base ≤ w.heap.size) (hol : out.length ≤ 2000) (hbb : b < base) :
    Calls Try.prog 35 #[.pointer (some ⟨b, 0, none⟩), v] w fun e w' => ∃ v', e = .returned v' ∧ Owns bv 5 base w' v' (out ++ (t.data.toList.drop (p + 1)).take (m + 1)) ∧ Cur w' b t (p + 1 + (m + 1)) ∧ Turned base b w w' := by
  obtain ⟨i0, hi, hz0, hz1, hz2⟩ := info_parts Try.info5
  go_enter Try.func35, Try.ntmps35
  go_wp2_with fail
  refine (number_yes b t p 1 _ hc ht (by omega) (by omega)).mono ?_
  rintro e w1 ⟨rfl, hc1, hg1⟩
  rw [h1]
  clear h1
  go_wp2_with fail
  rw [show (m : Int) + 1 = ((m + 1 : Nat) : Int) from by omega]
  refine (take_yes b t (p + 1) (m + 1) _ hc1 ht hr).mono ?_
  rintro e w2 ⟨rfl, hc2, hg2⟩
  have hown2 := (hown.beside hc (by decide) hg1).beside hc1 (by decide) hg2
  have hsz := (hg1.trans hg2).size
  have hex : (t.extract (p + 1) (p + 1 + (m + 1))).data.toList = (t.data.toList.drop (p + 1)).take (m + 1) := by rw [Lib.extract_data]; congr 1; omega
  have HEX := hid hex
  clear hex
  go_wp2_with (at_builtin; refine wpList_append_src (f := bv) _ rfl _ _ 59 9 rfl base 5 i0 (.int .u8 0) 1 Try.underlying59 hi hz0 hz1 hz2 rfl _ _ rfl hown2 _ _ rfl (src_string _ Try.underlying9) (by simp; omega) (by decide) (by omega) ?_; intro v3 w3 hown3 hk3)
  go_ret
  rw [HEX.out] at hown3
  exact ⟨_, rfl, hown3, hc2.under hk3 (by decide), (Turned.of_grown (hg1.trans hg2) hb).trans (Turned.of_below hk3.below)⟩

set_option maxRecDepth 100000 in
set_option maxHeartbeats 400000 in
/-- a copy whose distance is cut off -/
theorem part_cut (hc : Cur w b t p) (ht : t.size ≤ maxLen) (hp : p < t.size) {m : Nat} (h1 : Pl.ofle ((t.data.toList.drop p).take 1) = m) (hm : ¬ m < 128) (hr : t.size < p + 1 + 2) (hb : base ≤ w.heap.size) :
    Calls Try.prog 35 #[.pointer (some ⟨b, 0, none⟩), v] w fun e w' => e = .panicked bad ∧ Turned base b w w' := by
  go_enter Try.func35, Try.ntmps35
  go_wp2_with fail
  refine (number_yes b t p 1 _ hc ht (by omega) (by omega)).mono ?_
  rintro e w1 ⟨rfl, hc1, hg1⟩
  rw [h1]
  clear h1
  go_wp2_with fail
  refine (number_no b t (p + 1) 2 _ hc1 ht (by omega)).mono ?_
  rintro e w2 ⟨rfl, n, rfl⟩
  exact ⟨rfl, rfl, Turned.of_grown (hg1.trans (grown_drewN _ _ _)) hb⟩

set_option maxRecDepth 100000 in
set_option maxHeartbeats 400000 in
/-- a distance that leads nowhere -/
theorem part_far (hc : Cur w b t p) (ht : t.size ≤ maxLen) (hp : p < t.size) {m d : Nat} (h1 : Pl.ofle ((t.data.toList.drop p).take 1) = m) (hm : ¬ m < 128) (hr : p + 1 + 2 ≤ t.size)
    (h2 : Pl.ofle ((t.data.toList.drop (p + 1)).take 2) = d) (hd : ¬ (1 ≤ d ∧ d ≤ out.length)) (hown : Owns bv 5 base w v out) (hb : base ≤ w.heap.size) :
    Calls Try.prog 35 #[.pointer (some ⟨b, 0, none⟩), v] w fun e w' => e = .panicked bad ∧ Turned base b w w' := by
  obtain ⟨va, vc, rfl⟩ := hown.shape
  by_cases hd1 : 1 ≤ d
  · have g1 : (1 : Int) ≤ d := by omega
    have g2 : ¬ (d : Int) ≤ out.length := by omega
    have g3 : decide (d ≤ out.length) = false := by simp; omega
    go_enter Try.func35, Try.ntmps35
    go_wp2_with fail
    refine (number_yes b t p 1 _ hc ht (by omega) (by omega)).mono ?_
    rintro e w1 ⟨rfl, hc1, hg1⟩
    rw [h1]
    clear h1
    go_wp2_with fail
    refine (number_yes b t (p + 1) 2 _ hc1 ht (by omega) (by omega)).mono ?_
    rintro e w2 ⟨rfl, hc2, hg2⟩
    rw [h2]
    clear h2
    go_wp2_with fail
    refine (need_no _ _).mono ?_
    rintro e w3 ⟨rfl, rfl⟩
    exact ⟨rfl, rfl, Turned.of_grown (hg1.trans hg2) hb⟩
  · have g1 : decide ((1 : Int) ≤ d) = false := by simp; omega
    have g3 : ¬ (1 : Int) ≤ d := by omega
    go_enter Try.func35, Try.ntmps35
    go_wp2_with fail
    refine (number_yes b t p 1 _ hc ht (by omega) (by omega)).mono ?_
    rintro e w1 ⟨rfl, hc1, hg1⟩
    rw [h1]
    clear h1
    go_wp2_with fail
    refine (number_yes b t (p + 1) 2 _ hc1 ht (by omega) (by omega)).mono ?_
    rintro e w2 ⟨rfl, hc2, hg2⟩
    rw [h2]
    clear h2
    go_wp2_with fail
    refine (need_no _ _).mono ?_
    rintro e w3 ⟨rfl, rfl⟩
    exact ⟨rfl, rfl, Turned.of_grown (hg1.trans hg2) hb⟩

set_option maxRecDepth 100000 in
set_option maxHeartbeats 800000 in
/-- a copy -/
theorem part_copy (hc : Cur w b t p) (ht : t.size ≤ maxLen) (hp : p < t.size) {m d : Nat} (h1 : Pl.ofle ((t.data.toList.drop p).take 1) = m) (hm : ¬ m < 128) (hm2 : m < 256) (hr : p + 1 + 2 ≤ t.size)
    (h2 : Pl.ofle ((t.data.toList.drop (p + 1)).take 2) = d) (hd1 : 1 ≤ d) (hd2 : d ≤ out.length) (hown : Owns bv 5 base w v out) (hb : base ≤ w.heap.size) (hol : out.length ≤ 2000) (hbb : b < base) :
    Calls Try.prog 35 #[.pointer (some ⟨b, 0, none⟩), v] w fun e w' => ∃ v', e = .returned v' ∧ Owns bv 5 base w' v' (Pl.copyN out d (m - 124)) ∧ Cur w' b t (p + 1 + 2) ∧ Turned base b w w' := by
  obtain ⟨i0, hi, hz0, hz1, hz2⟩ := info_parts Try.info5
  obtain ⟨va, vc, hv⟩ := hown.shape
  have g1 : (1 : Int) ≤ d := by omega
  have g3 : decide (d ≤ out.length) = true := by simp; omega
  have g0 : ¬ (m : Int) < 128 := by omega
  rw [hv] at hown ⊢
  go_enter Try.func35, Try.ntmps35
  go_wp2_with fail
  refine (number_yes b t p 1 _ hc ht (by omega) (by omega)).mono ?_
  rintro e w1 ⟨rfl, hc1, hg1⟩
  rw [h1]
  clear h1
  go_wp2_with fail
  refine (number_yes b t (p + 1) 2 _ hc1 ht (by omega) (by omega)).mono ?_
  rintro e w2 ⟨rfl, hc2, hg2⟩
  rw [h2]
  clear h2
  go_wp2_with fail
  refine (need_yes _ _).mono ?_
  rintro e w3 ⟨rfl, rfl⟩
  have hown2 := (hown.beside hc (by decide) hg1).beside hc1 (by decide) hg2
  have hT := Turned.of_grown (hg1.trans hg2) hb
  have hsz := hT.size
  clear hg1 hg2 hc1 hown hc hv
  go_wp2_with fail
  go_loopw [1, 32] (fun x i wr => ∃ k : Nat, k ≤ m - 124 ∧ i = .int .i64 k ∧ Owns bv 5 base wr x (Pl.copyN out d k) ∧ Cur wr b t (p + 1 + 2) ∧ Turned base b w wr) (fun _ i _ => m - 124 - (intOf i).toNat)
  case atStart => exact ⟨0, Nat.zero_le _, rfl, hown2, hc2, hT⟩
  case round =>
    obtain ⟨k, hk, rfl, hown', hc', hT'⟩ := hrel
    clear hown2 hT
    have hsz' := hT'.size
    have HL := hid (Pl.copyN_length out d k)
    have hne : Pl.copyN out d k ≠ [] := by
      intro e; have := HL.out; rw [e] at this; simp at this; omega
    by_cases hlt : k < m - 124
    · have HN : Hid (Pl.copyN out d (k + 1) = Pl.copyN out d k ++ [(Pl.copyN out d k).getD ((Pl.copyN out d k).length - d) 0]) := rfl
      obtain ⟨g, cap, hu, hbg, hcells⟩ := hown'.open hne
      have hdl : d ≤ (Pl.copyN out d k).length := by rw [HL.out]; omega
      have hLb : (Pl.copyN out d k).length ≤ 2200 := by rw [HL.out]; omega
      generalize Pl.copyN out d k = L at *
      have hce : wr.cell? ⟨g, L.length - d, none⟩ = some (.int .u8 (L.getD (L.length - d) 0).toNat) := by
        rw [hcells (L.length - d) (by omega), List.getD_eq_getElem?_getD, List.getElem?_eq_getElem (by omega)]; rfl
      generalize L.getD (L.length - d) 0 = c at *
      rw [hu] at hown' ⊢
      clear hcells hne hu
      go_wp2_with (at_builtin; refine wpList_append_src (f := bv) _ rfl _ _ 59 59 rfl base 5 i0 (.int .u8 0) 1 Try.underlying59 hi hz0 hz1 hz2 rfl _ _ rfl (hown'.alloc _) _ [c] rfl (src_one (f := bv) Try.underlying59 rfl rfl) (by simp; omega) (by decide) (by simp; omega) ?_; intro v3 w3 hown3 hk3)
      have hc3 := (hc'.kept (w' := wr.alloc _) (Below.heap_alloc _ _ _ hc'.lt)).under hk3 (by decide)
      have hT3 := hT'.trans (Turned.of_below (((Kept.refl _ _ _).alloc (by omega) _).trans hk3).below)
      go_roundw
      case rel => exact ⟨k + 1, by omega, by go_num, by rw [HN.out]; exact hown3, hc3, hT3⟩
      case measure => simp [intOf]; omega
    · go_wp2
      go_ret
      have : k = m - 124 := by omega
      subst this
      exact ⟨_, rfl, hown', hc', hT'⟩

/-- One part, whole. -/
theorem part_any (hc : Cur w b t p) (ht : t.size ≤ maxLen) (hown : Owns bv 5 base w v out) (hb : base ≤ w.heap.size) (hol : out.length ≤ 2000) (hbb : b < base) :
    Calls Try.prog 35 #[.pointer (some ⟨b, 0, none⟩), v] w fun e w' =>
      (Pl.part (t.data.toList.drop p, out) = none ∧ e = .panicked bad ∧ Turned base b w w') ∨
      (∃ q out' v', Pl.part (t.data.toList.drop p, out) = some (t.data.toList.drop q, out') ∧ e = .returned v' ∧ Owns bv 5 base w' v' out' ∧ Cur w' b t q ∧ Turned base b w w') := by
  have hlen : t.data.toList.length = t.size := by simp
  by_cases hp : p < t.size
  · have hd := drop_cons t p hp
    have h1 := one_byte t p hp
    have hdl : (t.data.toList.drop (p + 1)).length = t.size - (p + 1) := by rw [List.length_drop, hlen]
    by_cases hm : t[p].toNat < 128
    · by_cases hr : p + 1 + (t[p].toNat + 1) ≤ t.size
      · refine (part_plain hc ht hp h1 hm hr hown hb hol hbb).mono ?_
        rintro e w' ⟨v', rfl, hown', hc', hT⟩
        refine .inr ⟨_, _, v', ?_, rfl, hown', hc', hT⟩
        rw [hd]
        simp only [Pl.part]
        rw [if_pos hm, if_pos (by omega), List.drop_drop]
      · refine (part_short hc ht hp h1 hm (by omega) hb).mono ?_
        rintro e w' ⟨rfl, hT⟩
        refine .inl ⟨?_, rfl, hT⟩
        rw [hd]
        simp only [Pl.part]
        rw [if_pos hm, if_neg (by omega)]
    · by_cases hr : p + 1 + 2 ≤ t.size
      · by_cases hdd : 1 ≤ Pl.ofle ((t.data.toList.drop (p + 1)).take 2) ∧ Pl.ofle ((t.data.toList.drop (p + 1)).take 2) ≤ out.length
        · refine (part_copy hc ht hp h1 hm (by have := t[p].toNat_lt; omega) hr rfl hdd.1 hdd.2 hown hb hol hbb).mono ?_
          rintro e w' ⟨v', rfl, hown', hc', hT⟩
          refine .inr ⟨_, _, v', ?_, rfl, hown', hc', hT⟩
          rw [hd]
          simp only [Pl.part]
          rw [if_neg hm, if_neg (by omega), if_pos hdd, List.drop_drop]
        · refine (part_far hc ht hp h1 hm hr rfl hdd hown hb).mono ?_
          rintro e w' ⟨rfl, hT⟩
          refine .inl ⟨?_, rfl, hT⟩
          rw [hd]
          simp only [Pl.part]
          rw [if_neg hm, if_neg (by omega), if_neg hdd]
      · refine (part_cut hc ht hp h1 hm (by omega) hb).mono ?_
        rintro e w' ⟨rfl, hT⟩
        refine .inl ⟨?_, rfl, hT⟩
        rw [hd]
        simp only [Pl.part]
        rw [if_neg hm, if_pos (by omega)]
  · refine (part_end hc ht (by omega) hb).mono ?_
    rintro e w' ⟨rfl, hT⟩
    refine .inl ⟨?_, rfl, hT⟩
    rw [List.drop_eq_nil_of_le (by rw [hlen]; omega)]
    rfl
end
end Go.Proofs.Ytaboikhdomlbjaa
