/-
  THE WALK of Squeeze.
-/
import Derived.Test.YtaboikhdomlbjaaSqWalks
import Derived.Test.YtaboikhdomlbjaaSeen
namespace Go.Proofs.Ytaboikhdomlbjaa
open Go.RowKit Go.Maps Go.WideMaps
set_option linter.unusedVariables false

theorem keyed : Keyed Try.prog 9 := string_keyed Try.underlying9
theorem zeroInt (w : World) : (zeroValue 3).run Try.prog w = .ok (.int .i64 0) w := by kernel_rfl

theorem key_at (s : ByteArray) (a : Nat) (hs : s.size ≤ 1024) : keyOf Try.prog 9 (.string (s.extract a (a + 4))) = some (.string ((s.data.toList.drop a).take 4)) := by
  rw [keyOf_string_mk Try.underlying9 (by unfold maxLen; simp; omega), Lib.extract_data]
  congr 3
  omega
theorem not_known {data : List UInt8} {a : Nat} {D : DataW Unit} (h : Seen data a D) (h4 : a + 4 ≤ data.length) (hh : Maps.has D (.string ((data.drop a).take 4)) = false) (hs : Pl.same data) : a = 0 := by
  rcases Nat.eq_zero_or_pos a with e | e
  · exact e
  · rw [same_head hs h4, h.all hs e (by omega)] at hh
    cases hh

theorem alike_four {data : List UInt8} {src a n : Nat} (hA : Pl.Alike data src a n) (h4 : a + 4 ≤ data.length) (hk : Lit.string ((data.drop a).take 4) = Lit.string ((data.drop src).take 4)) : 4 ≤ n := by
  rcases Nat.lt_or_ge n 4 with h | h
  · exfalso
    have e : (data.drop a).take 4 = (data.drop src).take 4 := by simpa using hk
    have e2 := congrArg (fun l => l.getD n 0) e
    simp only [List.getD_eq_getElem?_getD, List.getElem?_take, List.getElem?_drop, if_pos h] at e2
    rcases hA.most with h1 | h1 | h1
    · omega
    · omega
    · simp only [List.getD_eq_getElem?_getD] at h1
      exact h1 e2.symm
  · exact h

theorem squeeze_long (s : ByteArray) (w : World) (hs : 1024 < s.size) :
    Calls Try.prog 13 #[.string s] w fun e w' => e = .returned (.tuple #[.string ⟨#[]⟩, .int .i64 1]) ∧ w' = w := by
  have h : (1024 : Int) < s.size := by omega
  go_enter Try.func13, Try.ntmps13
  go_wp2
  go_ret2
  exact ⟨rfl, rfl⟩

set_option maxRecDepth 100000 in
set_option maxHeartbeats 800000 in
theorem squeeze_any (s : ByteArray) (w : World) (hs : s.size ≤ 1024) :
    Calls Try.prog 13 #[.string s] w fun e w' => ∃ t : List UInt8, e = .returned (.tuple #[.string ⟨t.toArray⟩, .int .i64 0]) ∧ Pl.IsSq s.data.toList t ∧ Below w.heap.size w w' := by
  have hmm := @run_makeMap Try.prog
  have h0 : ¬ (1024 : Int) < s.size := by omega
  go_enter Try.func13, Try.ntmps13
  go_wp2_with fail
  refine (appendNumber_any w.heap.size _ [] s.size 2 w (Owns.nil bv _ _ _) (Nat.le_refl _) (by simp) (by omega) (by omega)).mono ?_
  rintro e w1 ⟨v1, rfl, hown1, hk1⟩
  simp only [List.nil_append] at hown1
  have hz1 := hk1.size
  go_wp2_with fail
  go_loopw [4, 6, 7] (fun x p i wr => ∃ (a plain : Nat) (enc : List UInt8) (D : DataW Unit) (n : Nat), i = .int .i64 a ∧ p = .int .i64 plain ∧ Owns bv 5 w.heap.size wr x (Pl.le 2 s.size ++ enc) ∧ Pl.SqInv s.data.toList a plain enc ∧ n ≤ a ∧ wr.ownsMap Try.prog 9 (plainElem Try.prog 3) w1.heap.size n D ∧ Seen s.data.toList a D ∧ Below w.heap.size w wr) (fun _ _ i _ => s.size - (intOf i).toNat)
  case atStart =>
    exact ⟨0, 0, [], .map [], 0, rfl, rfl, by simpa using hown1.alloc _, Pl.SqInv.start _, Nat.le_refl _, World.ownsMap_made _ _ _ _, Seen.start _, hk1.below.alloc hz1 _⟩
  case round =>
    obtain ⟨a, plain, enc, D, n, rfl, rfl, hown, hinv, hna, hmap, hseen, hbel⟩ := hrel
    have hle := hinv.le1
    have hle2 : a ≤ s.size := hinv.le2
    have hlen : s.data.toList.length = s.size := by simp
    have HL := hid hlen
    have hel := hinv.len
    have hcl : (Pl.le 2 s.size ++ enc).length ≤ 3000 := by simp [Pl.le_length]; omega
    have hws := hbel.size
    clear hel hlen hown1 hk1
    by_cases h4 : a + 4 ≤ s.size
    · have hlow : ((a : Int) + 4 ≤ s.size) := by omega
      have HKEY : Hid ((s.extract a (a + 4)).data.toList = (s.data.toList.drop a).take 4) := hid (by rw [Lib.extract_data]; congr 1; omega)
      cases hhas : Maps.has D (.string ((s.data.toList.drop a).take 4))
      · go_wp2_with (first | (at_lookup; refine wpList_lookup_own_ok_int _ rfl _ _ 61 rfl 9 3 .i64 keyed Try.underlying61 Try.underlying3 (zeroInt _) w1.heap.size n D rfl hmap _ (.string ((s.data.toList.drop a).take 4)) rfl (key_at s a hs) ?_; intro c hat hwc; clear hat hwc) | (at_mapUpdate; refine wpList_mapUpdate_own _ rfl _ _ _ 61 rfl 9 3 keyed Try.underlying61 _ w1.heap.size n D rfl hmap (by unfold maxLen; omega) _ _ _ rfl rfl (key_at s a hs) _ [] (plainElem_int Try.underlying3 (WalkArith.wf_i64 (by omega))) ?_; intro w2 hmap2 hg2))
        go_roundw
        case rel => exact ⟨a + 1, plain, enc, _, n + 1, by go_num, rfl, owns_beside_map hown hmap hg2, hinv.plainly (by rw [HL.out]; exact h4) (not_known hseen (by rw [HL.out]; exact h4) hhas), by omega, hmap2, hseen.put (by rw [HL.out]; exact h4), hbel.grown hg2 hws (fun k hk => by cases hk; exact hz1)⟩
        case measure => simp [intOf]; omega
      · obtain ⟨src, hsat, hsrc, hsrc4, hskey⟩ := hseen.at_ _ hhas
        have HAT := hid (hsat (.lit (.int .i64 0)))
        have HSK := hid hskey
        clear hsat hskey
        go_wp2_with (first | (at_lookup; refine wpList_lookup_own_ok_int _ rfl _ _ 61 rfl 9 3 .i64 keyed Try.underlying61 Try.underlying3 (zeroInt _) w1.heap.size n D rfl hmap _ (.string ((s.data.toList.drop a).take 4)) rfl (key_at s a hs) ?_; intro c hat hwc; rw [HAT.out] at hat; obtain rfl : (src : Int) = c := (by simpa using hat); clear hat hwc) | (at_mapUpdate; refine wpList_mapUpdate_own _ rfl _ _ _ 61 rfl 9 3 keyed Try.underlying61 _ w1.heap.size n D rfl hmap (by unfold maxLen; omega) _ _ _ rfl rfl (key_at s a hs) _ [] (plainElem_int Try.underlying3 (WalkArith.wf_i64 (by omega))) ?_; intro w2 hmap2 hg2))
        have hown2 := owns_beside_map hown hmap hg2
        have hbel2 := hbel.grown hg2 hws (fun k hk => by cases hk; exact hz1)
        have hws2 := hg2.size
        clear hown hg2 hmap
        refine (alike_any s src a w2 hs hle2 (by omega)).mono ?_
        rintro e w3 ⟨m, rfl, hA, hb3⟩
        have hm4 := alike_four hA (by rw [HL.out]; exact h4) HSK.out
        have hm131 := hA.le
        have hfit : a + m ≤ s.size := by have := hA.fits; rw [HL.out] at this; exact this
        have hown3 := hown2.below hb3
        have hmap3 := map_kept hmap2 (Kept.of_below (E := 5) hb3 (Nat.le_refl _))
        have hbel3 := hbel2.trans (hb3.mono (by omega))
        have hws3 := hb3.size
        clear hown2 hmap2 hbel2 hb3
        go_wp2_with fail
        refine (appendPlain_any w.heap.size _ (Pl.le 2 s.size ++ enc) (s.extract plain a) w3 hown3 (by omega) (by omega) (by simp; omega)).mono ?_
        rintro e w4 ⟨v4, rfl, hown4, hk4⟩
        have hmap4 := map_kept hmap3 hk4
        have hws4 := hk4.size
        have hbel4 := hbel3.trans hk4.below
        clear hown3 hmap3 hbel3 hk4
        go_wp2_with fail
        rw [show (a : Int) - (src : Int) = ((a - src : Nat) : Int) from by omega]
        have hpl := Pl.plains_length (s.extract plain a).size (s.extract plain a).data.toList
        have hxs : (s.extract plain a).data.toList.length ≤ 1024 := by simp; omega
        refine (appendCopy_any w.heap.size _ _ (a - src) m w4 hown4 (by omega) (by rw [List.length_append]; omega) (by omega) hm4 hm131).mono ?_
        rintro e w5 ⟨v5, rfl, hown5, hk5⟩
        have hmap5 := map_kept hmap4 hk5
        have hbel5 := hbel4.trans hk5.below
        clear hown4 hmap4 hbel4 hk5 hpl hxs
        go_wp2_with fail
        go_roundw
        case rel =>
          have hN : s.data.toList.length ≤ 1024 := by rw [HL.out]; exact hs
          have h4' : a + 4 ≤ s.data.toList.length := by rw [HL.out]; exact h4
          have hseg : (s.extract plain a).data.toList = (s.data.toList.drop plain).take (a - plain) := Lib.extract_data _ _ _
          refine ⟨a + m, a + m, _, _, n + 1, by go_num, by go_num, ?_, hinv.copied hN h4' hsrc hA hm4 hseg (f := (s.extract plain a).size) (by simp; omega), by omega, hmap5, (hseen.put h4').mono (by omega) (by omega), hbel5⟩
          simpa using hown5
        case measure => simp [intOf]; omega
    · have hlow : ¬ ((a : Int) + 4 ≤ s.size) := by omega
      go_wp2_with fail
      refine (appendPlain_any w.heap.size _ (Pl.le 2 s.size ++ enc) (s.extract plain s.size) wr hown (by omega) (by omega) (by simp; omega)).mono ?_
      rintro e w4 ⟨v4, rfl, hown4, hk4⟩
      generalize hT : Pl.le 2 s.size ++ enc ++ Pl.plains (s.extract plain s.size).size (s.extract plain s.size).data.toList = t at hown4
      have HT := hid hT
      clear hT
      have hcv := run_string_own (P := Try.prog) w4 Try.underlying59 Try.underlying5 Try.underlying9 hown4
      have hbel4 := hbel.trans hk4.below
      clear hown4 hk4 hmap
      go_wp2
      go_ret2
      refine ⟨_, rfl, ?_, hbel4⟩
      have hN : s.data.toList.length ≤ 1024 := by rw [HL.out]; exact hs
      have := hinv.done hN (by rw [HL.out]; exact h4) (f := (s.extract plain s.size).size) (by rw [HL.out]; simp)
      rw [HL.out] at this
      rw [← HT.out, Lib.extract_to_end]
      exact this
end Go.Proofs.Ytaboikhdomlbjaa
