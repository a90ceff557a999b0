/-
  THE WALKS of strings.Clone, summed, record.
-/
import Derived.Test.YtaboikhdomlbjaaFrWalks
import Derived.Shelf.Pu.Clone
namespace Go.Proofs.Ytaboikhdomlbjaa
open Go.RowKit
set_option linter.unusedVariables false

/-- The numbers of the shelf's contract for Clone, as they are here. -/
def cloneRen : Shelf.Ren := ⟨fun | 25 => 62 | n => n, fun | 3 => 3 | 4 => 4 | 5 => 5 | 9 => 9 | 37 => 59 | 47 => 143 | n => n, fun n => n⟩
theorem cloneLays : LaysPu.n25 Try.prog cloneRen := {
  mixed := by kernel_rfl
  f25 := by kernel_rfl
  t0 := by kernel_rfl
  a0 := fun _ => by kernel_rfl
  z0 := fun _ => by kernel_rfl
  v0 := fun _ => by kernel_rfl
  i0 := by kernel_rfl
  t3 := by kernel_rfl
  a3 := fun _ => by kernel_rfl
  z3 := fun _ => by kernel_rfl
  v3 := fun _ => by kernel_rfl
  i3 := by kernel_rfl
  t4 := by kernel_rfl
  a4 := fun _ => by kernel_rfl
  z4 := fun _ => by kernel_rfl
  v4 := fun _ => by kernel_rfl
  i4 := by kernel_rfl
  t5 := by kernel_rfl
  a5 := fun _ => by kernel_rfl
  z5 := fun _ => by kernel_rfl
  v5 := fun _ => by kernel_rfl
  i5 := by kernel_rfl
  t9 := by kernel_rfl
  a9 := fun _ => by kernel_rfl
  z9 := fun _ => by kernel_rfl
  v9 := fun _ => by kernel_rfl
  i9 := by kernel_rfl
  t37 := by kernel_rfl
  a37 := fun _ => by kernel_rfl
  z37 := fun _ => by kernel_rfl
  v37 := fun _ => by kernel_rfl
  i37 := by kernel_rfl
  t47 := by kernel_rfl
  a47 := fun _ => by kernel_rfl
  z47 := fun _ => by kernel_rfl
  v47 := fun _ => by kernel_rfl
  i47 := by kernel_rfl }
theorem clonelite_any (s : ByteArray) (w : World) (hs : s.size ≤ 1024) :
    Calls Try.prog 62 #[.string s] w fun e w' => e = .returned (.string s) ∧ Below w.heap.size w w' :=
  AnyPu.stringslite_Clone cloneLays s w (by omega)
theorem clone_any (s : ByteArray) (w : World) (hs : s.size ≤ 1024) :
    Calls Try.prog 50 #[.string s] w fun e w' => e = .returned (.string s) ∧ Below w.heap.size w w' := by
  go_enter Try.func50, Try.ntmps50
  go_wp2_with (go_at_call 62; refine (clonelite_any s w hs).mono ?_; rintro e w' ⟨rfl, hb⟩)
  go_ret
  exact ⟨rfl, hb⟩

section
variable {b : Nat} {t : ByteArray} {p n : Nat} {w : World}

set_option maxRecDepth 100000 in
set_option maxHeartbeats 400000 in
theorem summed_any (hc : Cur w b t p) (ht : t.size ≤ maxLen) (hn : n ≤ 128) :
    Calls Try.prog 47 #[.pointer (some ⟨b, 0, none⟩), .int .i64 n] w fun e w' =>
      (Pl.readSummed n (t.data.toList.drop p) = none ∧ e = .panicked bad ∨ Pl.readSummed n (t.data.toList.drop p) = some ((t.extract p (p + n)).data.toList, t.data.toList.drop (p + n + 4)) ∧ e = .returned (.string (t.extract p (p + n))) ∧ Cur w' b t (p + n + 4)) ∧ w.grownBy w' (some b) := by
  have hlen : t.data.toList.length = t.size := by simp
  have hdl : (t.data.toList.drop p).length = t.size - p := by rw [List.length_drop, hlen]
  have hle := hc.le
  have HD : Hid ((t.extract p (p + n)).data.toList = (t.data.toList.drop p).take n) := hid (by rw [Lib.extract_data]; congr 1; omega)
  have HLEN := hid hlen
  have HDL := hid hdl
  clear hlen hdl
  by_cases h1 : p + n ≤ t.size
  · by_cases h2 : p + n + 4 ≤ t.size
    · have hexs : (t.extract p (p + n)).size ≤ maxLen := by unfold maxLen at *; simp; omega
      obtain ⟨x, hx⟩ : ∃ x, x = Pl.ofle ((t.data.toList.drop (p + n)).take 4) := ⟨_, rfl⟩
      obtain ⟨y, hy⟩ : ∃ y, y = Pl.crc (t.extract p (p + n)).data.toList := ⟨_, rfl⟩
      have HX := hid hx
      have HY := hid hy
      have hrd : Pl.readSummed n (t.data.toList.drop p) = if x = y then some ((t.extract p (p + n)).data.toList, t.data.toList.drop (p + n + 4)) else none := by
        unfold Pl.readSummed
        rw [if_neg (by rw [HDL.out]; omega), hx, hy, HD.out, List.drop_drop, List.drop_drop]
        congr 3
      have HRD := hid hrd
      clear hx hy hrd
      by_cases hxy : x = y
      · have g : ((x : Int) == (y : Int)) = true := by simp [hxy]
        have HE := hid hxy
        clear hxy
        go_enter Try.func47, Try.ntmps47
        go_wp2_with fail
        refine (take_yes b t p n _ hc ht h1).mono ?_
        rintro e w1 ⟨rfl, hc1, hg1⟩
        go_wp2_with fail
        refine (number_yes b t (p + n) 4 _ hc1 ht h2 (by omega)).mono ?_
        rintro e w2 ⟨rfl, hc2, hg2⟩
        rw [← HX.out]
        go_wp2_with fail
        refine (sum_any _ _ hexs).mono ?_
        rintro e w3 ⟨rfl, rfl⟩
        rw [← HY.out]
        go_wp2_with fail
        refine (need_yes _ _).mono ?_
        rintro e w3 ⟨rfl, rfl⟩
        go_wp2
        go_ret
        exact ⟨.inr ⟨by rw [HRD.out, if_pos HE.out], rfl, hc2⟩, hg1.trans hg2⟩
      · have g : ((x : Int) == (y : Int)) = false := by simp; omega
        have HE := hid hxy
        clear hxy
        go_enter Try.func47, Try.ntmps47
        go_wp2_with fail
        refine (take_yes b t p n _ hc ht h1).mono ?_
        rintro e w1 ⟨rfl, hc1, hg1⟩
        go_wp2_with fail
        refine (number_yes b t (p + n) 4 _ hc1 ht h2 (by omega)).mono ?_
        rintro e w2 ⟨rfl, hc2, hg2⟩
        rw [← HX.out]
        go_wp2_with fail
        refine (sum_any _ _ hexs).mono ?_
        rintro e w3 ⟨rfl, rfl⟩
        rw [← HY.out]
        go_wp2_with fail
        refine (need_no _ _).mono ?_
        rintro e w3 ⟨rfl, rfl⟩
        exact ⟨rfl, .inl ⟨by rw [HRD.out, if_neg HE.out], rfl⟩, hg1.trans hg2⟩
    · go_enter Try.func47, Try.ntmps47
      go_wp2_with fail
      refine (take_yes b t p n _ hc ht h1).mono ?_
      rintro e w1 ⟨rfl, hc1, hg1⟩
      go_wp2_with fail
      refine (number_no b t (p + n) 4 _ hc1 ht (by omega)).mono ?_
      rintro e w2 ⟨rfl, m, rfl⟩
      exact ⟨rfl, .inl ⟨by unfold Pl.readSummed; rw [if_pos (by rw [HDL.out]; omega)], rfl⟩, hg1.trans (grown_drewN _ _ _)⟩
  · go_enter Try.func47, Try.ntmps47
    go_wp2_with fail
    refine (take_no b t p n _ hc ht (by omega)).mono ?_
    rintro e w1 ⟨rfl, m, rfl⟩
    exact ⟨rfl, .inl ⟨by unfold Pl.readSummed; rw [if_pos (by rw [HDL.out]; omega)], rfl⟩, grown_drewN _ _ _⟩

theorem head_byte (s : ByteArray) (h : 0 < s.size) : (s.data.toList.headD 0).toNat = s[0].toNat := by
  have := getD_byte s 0 h
  rw [← this]
  cases s.data.toList <;> rfl

set_option maxRecDepth 100000 in
set_option maxHeartbeats 400000 in
theorem record_any (hc : Cur w b t p) (ht : t.size ≤ maxLen) :
    Calls Try.prog 39 #[.pointer (some ⟨b, 0, none⟩)] w fun e w' =>
      (Pl.record (t.data.toList.drop p) = none ∧ e = .panicked bad ∨ ∃ (r : ByteArray) (q : Nat), Pl.record (t.data.toList.drop p) = some (r.data.toList, t.data.toList.drop q) ∧ e = .returned (.string r) ∧ Cur w' b t q) ∧ w.grownBy w' (some b) := by
  go_enter Try.func39, Try.ntmps39
  go_wp2_with fail
  refine (summed_any (n := 1) hc ht (by omega)).mono ?_
  rintro e w1 ⟨⟨hn, rfl⟩ | ⟨hs, rfl, hc1⟩, hg1⟩
  · exact ⟨rfl, .inl ⟨by unfold Pl.record; rw [hn]; rfl, rfl⟩, hg1⟩
  · have hle := hc1.le
    have hz : (t.extract p (p + 1)).size = 1 := by simp; omega
    have hz0 : 0 < (t.extract p (p + 1)).size := by omega
    have i1 := index_at (P := Try.prog) Try.underlying9 (t.extract p (p + 1)) 0 0 hz0 rfl
    have HH := hid (head_byte (t.extract p (p + 1)) hz0)
    have HS := hid hs
    clear hz hs
    obtain ⟨m, hm⟩ : ∃ m, m = (t.extract p (p + 1))[0].toNat := ⟨_, rfl⟩
    rw [← hm] at i1
    have hm8 : m < 256 := by rw [hm]; have := (t.extract p (p + 1))[0].toNat_lt; omega
    have HM := hid hm
    clear hm
    have hrec : Pl.record (t.data.toList.drop p) = if m ≤ 128 then Pl.readSummed m (t.data.toList.drop (p + 1 + 4)) else none := by
      unfold Pl.record; rw [HS.out, HM.out, ← HH.out]; rfl
    have HR := hid hrec
    clear hrec
    by_cases h128 : m ≤ 128
    · have g : decide ((m : Int) ≤ 128) = true := by simp; omega
      have g' : (m : Int) ≤ 128 := by omega
      go_wp2_with fail
      refine (need_yes _ _).mono ?_
      rintro e w2 ⟨rfl, rfl⟩
      go_wp2_with fail
      refine (summed_any (n := m) hc1 ht h128).mono ?_
      rintro e w3 ⟨⟨hn, rfl⟩ | ⟨hs, rfl, hc3⟩, hg3⟩
      · exact ⟨rfl, .inl ⟨by rw [HR.out, if_pos h128]; exact hn, rfl⟩, hg1.trans hg3⟩
      · have HS3 := hid hs
        clear hs
        go_wp2_with fail
        refine (clone_any _ _ (by simp; omega)).mono ?_
        rintro e w4 ⟨rfl, hb4⟩
        go_wp2
        go_ret
        exact ⟨.inr ⟨_, _, by rw [HR.out, if_pos h128]; exact HS3.out, rfl, hc3.kept (hb4.block b hc3.lt)⟩, (hg1.trans hg3).trans (grown_below hb4 _)⟩
    · have g : decide ((m : Int) ≤ 128) = false := by simp; omega
      go_wp2_with fail
      refine (need_no _ _).mono ?_
      rintro e w2 ⟨rfl, rfl⟩
      exact ⟨rfl, .inl ⟨by rw [HR.out, if_neg h128], rfl⟩, hg1⟩
end
end Go.Proofs.Ytaboikhdomlbjaa
