/-
  THE WALKS of the laws Squeezes and Unsqueezes.
-/
import Derived.Test.YtaboikhdomlbjaaUnsqWalk
import Derived.Test.YtaboikhdomlbjaaSqueezeWalk
namespace Go.Proofs.Ytaboikhdomlbjaa
open Go.RowKit
set_option linter.unusedVariables false

theorem num_any (n : Int) (w : World) : Calls Try.prog 14 #[.int .i64 n] w fun e w' => e = .returned (.int .i64 n) ∧ w' = w := by
  go_enter Try.func14, Try.ntmps14
  go_wp2
  go_ret
  exact ⟨rfl, rfl⟩

set_option maxRecDepth 100000 in
set_option maxHeartbeats 400000 in
theorem lawalike_any (s : ByteArray) (w : World) (hs : s.size ≤ 1024) :
    Calls Try.prog 15 #[.string s] w fun e w' => ∃ b : Bool, e = .returned (.bool b) ∧ (b = true → Pl.same s.data.toList) ∧ Below w.heap.size w w' := by
  have HL := hid (show s.data.toList.length = s.size by simp)
  go_enter Try.func15, Try.ntmps15
  go_wp2
  go_loopw [3] (fun i wr => ∃ k : Nat, i = .int .i64 k ∧ 1 ≤ k ∧ k ≤ 1024 ∧ (∀ j, j < k → j < s.size → s.data.toList.getD j 0 = s.data.toList.getD 0 0) ∧ Below w.heap.size w wr) (fun i _ => 1024 - (intOf i).toNat)
  case atStart => exact ⟨1, rfl, by omega, by omega, fun j hj _ => by rw [show j = 0 from by omega], Below.refl _ _⟩
  case round =>
    obtain ⟨k, rfl, hk1, hk2, heq, hbel⟩ := hrel
    have HQ := hid heq
    clear heq
    by_cases hlt : k < s.size
    · have i1 := index_at (P := Try.prog) Try.underlying9 s (k : Int) k hlt rfl
      have i2 := index_at (P := Try.prog) Try.underlying9 s 0 0 (by omega) rfl
      have HA := hid (getD_byte s k hlt)
      have HB := hid (getD_byte s 0 (by omega))
      by_cases h3 : (s[k].toNat : Int) = (s[0].toNat : Int)
      · have d3 : ((s[k].toNat : Int) != (s[0].toNat : Int)) = false := by simp [h3]
        have H3 := hid h3
        clear h3
        go_wp2
        go_quiet (fail)
        go_wp2
        go_roundw
        case rel =>
          refine ⟨k + 1, by go_num, by omega, by omega, fun j hj hjs => ?_, below_drewN hbel _⟩
          rcases Nat.lt_or_ge j k with h | h
          · exact HQ.out j h hjs
          · have : j = k := by omega
            subst this
            rw [HA.out, HB.out]
            exact UInt8.toNat_inj.1 (by have := H3.out; omega)
        case measure => simp [intOf]; omega
      · have d3 : ((s[k].toNat : Int) != (s[0].toNat : Int)) = true := by simpa using h3
        clear h3
        go_wp2
        go_quiet (fail)
        go_wp2
        go_ret
        exact ⟨false, rfl, (fun h => by cases h), below_drewN hbel _⟩
    · go_wp2
      go_ret
      refine ⟨true, rfl, fun _ i j hi hj => ?_, hbel⟩
      rw [HL.out] at hi hj
      rw [HQ.out i (by omega) hi, HQ.out j (by omega) hj]

theorem squeeze_str (s : ByteArray) (w : World) (hs : s.size ≤ 1024) :
    Calls Try.prog 13 #[.string s] w fun e w' => ∃ T : ByteArray, e = .returned (.tuple #[.string T, .int .i64 0]) ∧ Pl.IsSq s.data.toList T.data.toList ∧ Below w.heap.size w w' := by
  refine (squeeze_any s w hs).mono ?_
  rintro e w' ⟨t, rfl, h1, h2⟩
  exact ⟨⟨t.toArray⟩, rfl, h1, h2⟩
theorem unsq_yes (t : ByteArray) (most : Int) (d : ByteArray) (w : World) (ht : t.size ≤ maxLen) (h : Pl.unsq t.data.toList most = some d.data.toList) :
    Calls Try.prog 16 #[.string t, .int .i64 most] w fun e w' => e = .returned (.tuple #[.string d, .int .i64 0]) ∧ Below w.heap.size w w' := by
  refine (unsq_any t most w ht).mono ?_
  rintro e w' ⟨⟨h1, _⟩ | ⟨d', h1, rfl⟩, h2⟩
  · rw [h] at h1; cases h1
  · rw [h] at h1
    cases h1
    exact ⟨rfl, h2⟩
theorem unsq_no (t : ByteArray) (most : Int) (w : World) (ht : t.size ≤ maxLen) (h : Pl.unsq t.data.toList most = none) :
    Calls Try.prog 16 #[.string t, .int .i64 most] w fun e w' => e = .returned (.tuple #[.string ⟨#[]⟩, .int .i64 5]) ∧ Below w.heap.size w w' := by
  refine (unsq_any t most w ht).mono ?_
  rintro e w' ⟨⟨_, rfl⟩ | ⟨d', h1, _⟩, h2⟩
  · exact ⟨rfl, h2⟩
  · rw [h] at h1; cases h1

set_option maxRecDepth 100000 in
set_option maxHeartbeats 800000 in
theorem squeezes_any (s : ByteArray) (most : Int) (w : World) (hs : s.size ≤ maxLen) :
    Calls Try.prog 4 #[.string s, .int .i64 most] w fun e w' => e = .returned (.bool true) ∧ Below w.heap.size w w' := by
  have HL := hid (show s.data.toList.length = s.size by simp)
  unfold maxLen at hs
  by_cases hlong : 1024 < s.size
  · have g1 : (1024 : Int) < s.size := by omega
    go_enter Try.func4, Try.ntmps4
    go_wp2_with fail
    refine (squeeze_long s w hlong).mono ?_
    rintro e w1 ⟨rfl, rfl⟩
    go_wp2_with fail
    refine (num_any _ _).mono ?_
    rintro e w1 ⟨rfl, rfl⟩
    go_wp2
    go_ret
    exact ⟨rfl, Below.refl _ _⟩
  · have g1 : ¬ (1024 : Int) < s.size := by omega
    have hN : s.data.toList.length ≤ 1024 := by rw [HL.out]; omega
    go_enter Try.func4, Try.ntmps4
    go_wp2_with fail
    refine (squeeze_str s w (by omega)).mono ?_
    rintro e w1 ⟨T, rfl, hsq, hb1⟩
    go_wp2_with fail
    refine (lawalike_any s w1 (by omega)).mono ?_
    rintro e w2 ⟨b, rfl, hsame, hb2⟩
    have HTL := hid (show T.data.toList.length = T.size by simp)
    have hlen : T.size ≤ s.size + 16 := by have := hsq.len; rw [HL.out, HTL.out] at this; exact this
    have g2 : ¬ ((s.size : Int) + 16 < T.size) := by omega
    have hTm : T.size ≤ maxLen := by unfold maxLen; omega
    have hshort : b = true → T.size ≤ 48 := fun h => by have := hsq.short (hsame h); rw [HTL.out] at this; exact this
    have HUN := hid (Pl.unsq_sq hsq hN)
    have hb12 := hb1.trans (hb2.mono hb1.size)
    clear hsq hsame hb1 hb2
    cases b
    · clear hshort
      go_wp2_with fail
      refine (num_any _ _).mono ?_
      rintro e w3 ⟨rfl, rfl⟩
      go_wp2_with fail
      by_cases hm : most < (s.size : Int)
      · refine (unsq_no T most _ hTm (by rw [HUN.out, if_neg (by rw [HL.out]; omega)])).mono ?_
        rintro e w4 ⟨rfl, hb4⟩
        have hb14 := hb12.trans (hb4.mono hb12.size)
        clear hb4
        go_wp2_with fail
        refine (num_any _ _).mono ?_
        rintro e w5 ⟨rfl, rfl⟩
        go_wp2
        go_ret
        exact ⟨rfl, hb14⟩
      · refine (unsq_yes T most s _ hTm (by rw [HUN.out, if_pos (by rw [HL.out]; omega)])).mono ?_
        rintro e w4 ⟨rfl, hb4⟩
        have hb14 := hb12.trans (hb4.mono hb12.size)
        clear hb4
        go_wp2_with fail
        refine (num_any _ _).mono ?_
        rintro e w5 ⟨rfl, rfl⟩
        go_wp2
        go_ret
        exact ⟨by simp, hb14⟩
    · have hs48 := hshort rfl
      have g3 : ¬ ((48 : Int) < T.size) := by omega
      clear hshort
      go_wp2_with fail
      refine (num_any _ _).mono ?_
      rintro e w3 ⟨rfl, rfl⟩
      go_wp2_with fail
      by_cases hm : most < (s.size : Int)
      · refine (unsq_no T most _ hTm (by rw [HUN.out, if_neg (by rw [HL.out]; omega)])).mono ?_
        rintro e w4 ⟨rfl, hb4⟩
        have hb14 := hb12.trans (hb4.mono hb12.size)
        clear hb4
        go_wp2_with fail
        refine (num_any _ _).mono ?_
        rintro e w5 ⟨rfl, rfl⟩
        go_wp2
        go_ret
        exact ⟨rfl, hb14⟩
      · refine (unsq_yes T most s _ hTm (by rw [HUN.out, if_pos (by rw [HL.out]; omega)])).mono ?_
        rintro e w4 ⟨rfl, hb4⟩
        have hb14 := hb12.trans (hb4.mono hb12.size)
        clear hb4
        go_wp2_with fail
        refine (num_any _ _).mono ?_
        rintro e w5 ⟨rfl, rfl⟩
        go_wp2
        go_ret
        exact ⟨by simp, hb14⟩

set_option maxRecDepth 100000 in
set_option maxHeartbeats 800000 in
theorem unsqueezes_any (s t : ByteArray) (most : Int) (w : World) (hs : s.size ≤ maxLen) (ht : t.size ≤ maxLen) :
    Calls Try.prog 5 #[.string s, .string t, .int .i64 most] w fun e w' => e = .returned (.bool true) ∧ Below w.heap.size w w' := by
  have HS := hid hs
  cases hu : Pl.unsq t.data.toList most with
  | none =>
    have HU := hid hu
    clear hu
    go_enter Try.func5, Try.ntmps5
    go_wp2_with fail
    refine (squeezes_any s _ w hs).mono ?_
    rintro e w1 ⟨rfl, hb1⟩
    go_wp2_with fail
    refine (unsq_no t most w1 ht HU.out).mono ?_
    rintro e w2 ⟨rfl, hb2⟩
    have hb12 := hb1.trans (hb2.mono hb1.size)
    clear hb1 hb2
    go_wp2_with fail
    refine (num_any _ _).mono ?_
    rintro e w3 ⟨rfl, rfl⟩
    go_wp2_with fail
    refine (num_any _ _).mono ?_
    rintro e w3 ⟨rfl, rfl⟩
    go_wp2
    go_ret
    exact ⟨rfl, hb12⟩
  | some d =>
    obtain ⟨h1, h2, h3⟩ := Pl.unsq_bounds hu
    obtain ⟨D, hD⟩ : ∃ D : ByteArray, D.data.toList = d := ⟨⟨d.toArray⟩, rfl⟩
    subst hD
    have hDl : D.data.toList.length = D.size := by simp
    rw [hDl] at h1 h2 h3
    have HU := hid hu
    have H3 := hid h3
    have g1 : ¬ (most < (D.size : Int)) := by omega
    have g2 : ¬ ((1024 : Int) < D.size) := by omega
    clear hu h3 hDl
    go_enter Try.func5, Try.ntmps5
    go_wp2_with fail
    refine (squeezes_any s _ w hs).mono ?_
    rintro e w1 ⟨rfl, hb1⟩
    go_wp2_with fail
    refine (unsq_yes t most D w1 ht HU.out).mono ?_
    rintro e w2 ⟨rfl, hb2⟩
    have hb12 := hb1.trans (hb2.mono hb1.size)
    clear hb1 hb2
    go_wp2_with fail
    refine (num_any _ _).mono ?_
    rintro e w3 ⟨rfl, rfl⟩
    go_wp2_with fail
    refine (unsq_no t _ _ ht H3.out).mono ?_
    rintro e w4 ⟨rfl, hb4⟩
    have hb14 := hb12.trans (hb4.mono hb12.size)
    clear hb4
    go_wp2_with fail
    refine (squeezes_any D _ _ (by unfold maxLen; omega)).mono ?_
    rintro e w5 ⟨rfl, hb5⟩
    have hb15 := hb14.trans (hb5.mono hb14.size)
    clear hb5
    go_wp2_with fail
    refine (num_any _ _).mono ?_
    rintro e w6 ⟨rfl, rfl⟩
    go_wp2
    go_ret
    exact ⟨rfl, hb15⟩
end Go.Proofs.Ytaboikhdomlbjaa
