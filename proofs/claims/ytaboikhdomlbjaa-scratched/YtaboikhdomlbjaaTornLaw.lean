/-
  THE WALK of the law Torn.
-/
import Derived.Test.YtaboikhdomlbjaaFrLaws
import Derived.Test.YtaboikhdomlbjaaLogMore
namespace Go.Proofs.Ytaboikhdomlbjaa
open Go.RowKit
set_option linter.unusedVariables false

/-- Frame, where all is within the bounds. -/
theorem frame_str (a : Option Addr) (b off c : Nat) (l : List (List UInt8)) (w : World) (h : Strs w a b off l) (hn : l.length ≤ 64) (hle : ∀ r ∈ l, r.length ≤ 128) :
    Calls Try.prog 17 #[.slice a l.length c] w fun e w' => ∃ S : ByteArray, S.data.toList = Pl.log l ∧ S.size = (Pl.log l).length ∧ e = .returned (.tuple #[.string S, .int .i64 0, .int .i64 0]) ∧ Below w.heap.size w w' := by
  refine (frame_any a b off c l w h hn).mono ?_
  rintro e w' ⟨⟨_, rfl⟩ | ⟨k, hk, hlong, _⟩, hb⟩
  · exact ⟨⟨(Pl.log l).toArray⟩, rfl, by simp [ByteArray.size], rfl, hb⟩
  · exact absurd (hle l[k] (List.getElem_mem hk)) (by omega)

set_option maxRecDepth 100000 in
set_option maxHeartbeats 1600000 in
theorem torn_ok (a : Option Addr) (b off c : Nat) (l : List (List UInt8)) (cut : Int) (w : World) (h : Strs w a b off l) (hc : l.length ≤ c) (hcm : c ≤ maxLen) (hn : l.length ≤ 64) (hle : ∀ r ∈ l, r.length ≤ 128) :
    Calls Try.prog 7 #[.slice a l.length c, .int .i64 cut] w fun e w' => e = .returned (.bool true) ∧ Below w.heap.size w w' := by
  have HLE := hid hle
  have hll := Pl.log_length_le l hle
  clear hle
  go_enter Try.func7, Try.ntmps7
  go_wp2_with fail
  refine (framed_any a b off c l w h hn).mono ?_
  rintro e w ⟨⟨hall, rfl⟩ | ⟨k, hk, hlong, _⟩, rfl⟩
  case inr => exact absurd (HLE.out l[k] (List.getElem_mem hk)) (by omega)
  clear hall
  go_wp2_with fail
  refine (frame_str a b off c l _ h hn HLE.out).mono ?_
  rintro e w2 ⟨S, hSd, hSz, rfl, hb2⟩
  have h2 := h.below hb2
  have HSD := hid hSd
  have hSb : S.size ≤ 137 * 64 := by omega
  have HSZ := hid hSz
  clear hSd hSz
  by_cases hcut : 0 ≤ cut ∧ cut ≤ S.size
  · obtain ⟨k, rfl⟩ := Int.eq_ofNat_of_zero_le hcut.1
    have hk : k ≤ S.size := by omega
    have g1 : ¬ ((k : Int) < 0) := by omega
    have g2 : ¬ ((S.size : Int) < k) := by omega
    have d1 : decide ((k : Int) < 0) = false := by simp
    have d2 : decide ((S.size : Int) < k) = false := by simp; omega
    have d3 : decide (S.size < k) = false := by simp; omega
    clear hcut
    go_wp2_with fail
    refine (num_any _ _).mono ?_
    rintro e w3 ⟨rfl, rfl⟩
    go_wp2_with fail
    go_loopw [10] (fun i wr => ∃ n : Nat, i = .int .i64 n ∧ n ≤ l.length ∧ (Pl.log (l.take n)).length ≤ k ∧ Below w.heap.size w wr) (fun i _ => l.length - (intOf i).toNat)
    case atStart => exact ⟨0, rfl, Nat.zero_le _, by simp [Pl.log], hb2⟩
    case round =>
      obtain ⟨n, rfl, hnl, hlog, hbel⟩ := hrel
      by_cases hlt : n < l.length
      · have hT1 : (l.take (n + 1)).length = n + 1 := by simp; omega
        have hle1 : ∀ r ∈ l.take (n + 1), r.length ≤ 128 := fun r hr => HLE.out r (List.mem_of_mem_take hr)
        have HL1 := hid hle1
        have hfr := frame_str a b off c (l.take (n + 1)) wr ((h.below hbel).take (n + 1)) (by omega) hle1
        rw [hT1] at hfr
        have hlt1 := Pl.log_length_le (l.take (n + 1)) hle1
        clear hle1
        rw [hT1] at hlt1
        go_wp2_with fail
        refine hfr.mono ?_
        rintro e w4 ⟨T, hTd, hTz, rfl, hb4⟩
        clear hfr
        have HTZ := hid hTz
        have hTb : T.size ≤ 137 * 64 := by omega
        clear hTz hTd
        by_cases hgt : k < T.size
        · have g3 : (k : Int) < T.size := by omega
          have hexit : n = l.length ∨ k < (Pl.log (l.take (n + 1))).length := .inr (by rw [← HTZ.out]; exact hgt)
          have hbel4 := hbel.trans (hb4.mono hbel.size)
          clear hbel hb4
          have hT0 : (l.take n).length = n := by simp; omega
          have hle0 : ∀ r ∈ l.take n, r.length ≤ 128 := fun r hr => HLE.out r (List.mem_of_mem_take hr)
          have hs0 := (h.below hbel4).take n
          have hfr := frame_str a b off c (l.take n) w4 hs0 (by omega) hle0
          rw [hT0] at hfr
          have hlt0 := Pl.log_length_le (l.take n) hle0
          rw [hT0] at hlt0
          clear hle0
          have hlenS : S.data.toList.length = S.size := by simp
          have hrec := Pl.records_torn l HLE.out n k hnl hlog hexit (by rw [← HSZ.out]; exact hk) ((S.extract 0 k).size + 1) (by simp; omega)
          have hexd : (S.extract 0 k).data.toList = (Pl.log l).take k := by rw [Lib.extract_data, HSD.out, List.drop_zero, Nat.sub_zero]
          rw [← hexd] at hrec
          have HREC := hid hrec
          clear hrec hexd hlenS
          go_wp2_with fail
          refine hfr.mono ?_
          rintro e w5 ⟨T5, hT5d, hT5z, rfl, hb5⟩
          have HT5 := hid hT5z
          have hT5b : T5.size ≤ 137 * 64 := by omega
          clear hfr hT5z hT5d
          have hbel5 := (hbel4).trans (hb5.mono (hbel4).size)
          go_wp2_with fail
          refine (unframe_any (S.extract 0 k) w5 (by simp; omega)).mono ?_
          rintro e w6 ⟨v6, rfl, hown6, hb6⟩
          rw [HREC.out] at hown6 ⊢
          simp only at hown6
          have hbel6 := hbel5.trans (hb6.mono hbel5.size)
          obtain ⟨a6, b6, c6, hx6, hs6⟩ := hown6.strs
          rw [hx6, hT0]
          have htx := texts_same a6 b6 0 c6 a b off c (l.take n) w6 hs6 ((h.below hbel6).take n) (by omega)
          rw [hT0] at htx
          clear hown6 hx6 hs6
          go_wp2_with fail
          refine htx.mono ?_
          rintro e w7 ⟨rfl, hb7⟩
          have hfin : (decide ((Pl.log (l.take n)).length = k) == ((T5.size : Int) == (k : Int))) = true := by
            rw [HT5.out]
            by_cases hq : (Pl.log (l.take n)).length = k
            · simp [hq]
            · have : ¬ (((Pl.log (l.take n)).length : Int) = (k : Int)) := by omega
              simp [hq, this]
          generalize decide ((Pl.log (l.take n)).length = k) = wh at *
          clear htx hb5 hb6 HREC
          go_wp2
          go_ret
          exact ⟨by first | rfl | simp_all, hbel6.trans (hb7.mono hbel6.size)⟩
        · have g3 : ¬ (k : Int) < T.size := by omega
          go_wp2_with fail
          go_roundw
          case rel => exact ⟨n + 1, by go_num, by omega, by rw [← HTZ.out]; omega, hbel.trans (hb4.mono hbel.size)⟩
          case measure => simp [intOf]; omega
      · have hexit : n = l.length ∨ k < (Pl.log (l.take (n + 1))).length := .inl (by omega)
        have hT0 : (l.take n).length = n := by simp; omega
        have hle0 : ∀ r ∈ l.take n, r.length ≤ 128 := fun r hr => HLE.out r (List.mem_of_mem_take hr)
        have hs0 := (h.below hbel).take n
        have hfr := frame_str a b off c (l.take n) wr hs0 (by omega) hle0
        rw [hT0] at hfr
        have hlt0 := Pl.log_length_le (l.take n) hle0
        rw [hT0] at hlt0
        clear hle0
        have hlenS : S.data.toList.length = S.size := by simp
        have hrec := Pl.records_torn l HLE.out n k hnl hlog hexit (by rw [← HSZ.out]; exact hk) ((S.extract 0 k).size + 1) (by simp; omega)
        have hexd : (S.extract 0 k).data.toList = (Pl.log l).take k := by rw [Lib.extract_data, HSD.out, List.drop_zero, Nat.sub_zero]
        rw [← hexd] at hrec
        have HREC := hid hrec
        clear hrec hexd hlenS
        go_wp2_with fail
        refine hfr.mono ?_
        rintro e w5 ⟨T5, hT5d, hT5z, rfl, hb5⟩
        have HT5 := hid hT5z
        have hT5b : T5.size ≤ 137 * 64 := by omega
        clear hfr hT5z hT5d
        have hbel5 := (hbel).trans (hb5.mono (hbel).size)
        go_wp2_with fail
        refine (unframe_any (S.extract 0 k) w5 (by simp; omega)).mono ?_
        rintro e w6 ⟨v6, rfl, hown6, hb6⟩
        rw [HREC.out] at hown6 ⊢
        simp only at hown6
        have hbel6 := hbel5.trans (hb6.mono hbel5.size)
        obtain ⟨a6, b6, c6, hx6, hs6⟩ := hown6.strs
        rw [hx6, hT0]
        have htx := texts_same a6 b6 0 c6 a b off c (l.take n) w6 hs6 ((h.below hbel6).take n) (by omega)
        rw [hT0] at htx
        clear hown6 hx6 hs6
        go_wp2_with fail
        refine htx.mono ?_
        rintro e w7 ⟨rfl, hb7⟩
        have hfin : (decide ((Pl.log (l.take n)).length = k) == ((T5.size : Int) == (k : Int))) = true := by
          rw [HT5.out]
          by_cases hq : (Pl.log (l.take n)).length = k
          · simp [hq]
          · have : ¬ (((Pl.log (l.take n)).length : Int) = (k : Int)) := by omega
            simp [hq, this]
        generalize decide ((Pl.log (l.take n)).length = k) = wh at *
        clear htx hb5 hb6 HREC
        go_wp2
        go_ret
        exact ⟨by first | rfl | simp_all, hbel6.trans (hb7.mono hbel6.size)⟩
  · go_wp2_with fail
    refine (num_any _ _).mono ?_
    rintro e w3 ⟨rfl, rfl⟩
    rcases (show cut < 0 ∨ (0 ≤ cut ∧ (S.size : Int) < cut) from by omega) with hc1 | ⟨hc1, hc2⟩
    · have d1 : decide (cut < 0) = true := by simp; omega
      go_wp2_with fail
      refine (num_any _ _).mono ?_
      rintro e w4 ⟨rfl, rfl⟩
      go_wp2
      go_ret
      exact ⟨rfl, hb2⟩
    · have d1 : decide (cut < 0) = false := by simp; omega
      have d2 : decide ((S.size : Int) < cut) = true := by simp; omega
      have g1 : ¬ cut < 0 := by omega
      go_wp2_with fail
      refine (num_any _ _).mono ?_
      rintro e w4 ⟨rfl, rfl⟩
      go_wp2
      go_ret
      exact ⟨rfl, hb2⟩

set_option maxRecDepth 100000 in
set_option maxHeartbeats 800000 in
theorem torn_any (a : Option Addr) (b off c : Nat) (l : List (List UInt8)) (cut : Int) (w : World) (h : Strs w a b off l) (hc : l.length ≤ c) (hcm : c ≤ maxLen) :
    Calls Try.prog 7 #[.slice a l.length c, .int .i64 cut] w fun e w' => e = .returned (.bool true) ∧ Below w.heap.size w w' := by
  by_cases hn : l.length ≤ 64
  · by_cases hle : ∀ r ∈ l, r.length ≤ 128
    · exact torn_ok a b off c l cut w h hc hcm hn hle
    · have HLE := hid hle
      clear hle
      go_enter Try.func7, Try.ntmps7
      go_wp2_with fail
      refine (framed_any a b off c l w h hn).mono ?_
      rintro e w2 ⟨⟨hall, _⟩ | ⟨k2, hk2, hlong2, hbef2, rfl⟩, rfl⟩
      · exact absurd hall HLE.out
      clear hbef2
      go_wp2
      go_ret
      exact ⟨rfl, Below.refl _ _⟩
  · go_enter Try.func7, Try.ntmps7
    go_wp2_with fail
    refine (framed_many a l.length c w (by omega)).mono ?_
    rintro e w2 ⟨rfl, rfl⟩
    go_wp2
    go_ret
    exact ⟨rfl, Below.refl _ _⟩

theorem IsStrs.cap {w : World} {a : Option Addr} {len cap : Nat} {ss : List ByteArray} (h : IsStrs w a len cap ss) : len ≤ cap ∧ cap ≤ maxLen := by
  rcases h with ⟨rfl, rfl, rfl, rfl⟩ | ⟨x, rfl, hl, hm, hz, hcell, _⟩
  · exact ⟨Nat.le_refl _, Nat.zero_le _⟩
  · exact ⟨hl, hm⟩
theorem torn_in {w : World} {a : Option Addr} {len cap : Nat} {ss : List ByteArray} (h : IsStrs w a len cap ss) (cut : Int) :
    Calls Try.prog 7 #[.slice a len cap, .int .i64 cut] w fun e w' => e = .returned (.bool true) ∧ Below w.heap.size w w' := by
  obtain ⟨b, off, hl, _, hs⟩ := h.strs
  have := torn_any a b off cap _ cut w hs (by rw [hl]; exact h.cap.1) h.cap.2
  rw [hl] at this
  exact this
end Go.Proofs.Ytaboikhdomlbjaa
