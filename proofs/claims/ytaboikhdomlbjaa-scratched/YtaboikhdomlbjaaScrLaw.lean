/-
  THE WALK of the law Scratched.
-/
import Derived.Test.YtaboikhdomlbjaaTornLaw
import Derived.Test.YtaboikhdomlbjaaFlipWalk
namespace Go.Proofs.Ytaboikhdomlbjaa
open Go.RowKit
set_option linter.unusedVariables false

set_option maxRecDepth 100000 in
set_option maxHeartbeats 1600000 in
theorem scratched_ok (a : Option Addr) (b off c : Nat) (l : List (List UInt8)) (at_ mask : Int) (w : World) (h : Strs w a b off l) (hc : l.length ≤ c) (hcm : c ≤ maxLen) (hn : l.length ≤ 64) (hle : ∀ r ∈ l, r.length ≤ 128) :
    Calls Try.prog 9 #[.slice a l.length c, .int .i64 at_, .int .i64 mask] w fun e w' => e = .returned (.bool true) ∧ Below w.heap.size w w' := by
  have HLE := hid hle
  have hll := Pl.log_length_le l hle
  clear hle
  go_enter Try.func9, Try.ntmps9
  go_wp2_with fail
  refine (frame_str a b off c l _ h hn HLE.out).mono ?_
  rintro e w1 ⟨S, hSd, hSz, rfl, hb1⟩
  have h1 := h.below hb1
  have HSD := hid hSd
  have hSb : S.size ≤ 137 * 64 := by omega
  have HSZ := hid hSz
  clear hSd hSz
  go_wp2_with fail
  refine (framed_any a b off c l w1 h1 hn).mono ?_
  rintro e w2 ⟨⟨hall, rfl⟩ | ⟨k, hk, hlong, _⟩, rfl⟩
  case inr => exact absurd (HLE.out l[k] (List.getElem_mem hk)) (by omega)
  clear hall
  go_wp2_with fail
  refine (num_any _ _).mono ?_
  rintro e w3 ⟨rfl, rfl⟩
  go_wp2_with fail
  refine (flip_any S at_ mask _ (by omega)).mono ?_
  rintro e w4 ⟨T, hTz, hTb, rfl, hb4⟩
  have hb14 := hb1.trans (hb4.mono hb1.size)
  have h4 := h1.below hb4
  by_cases hTS : T = S
  · subst hTS
    by_cases hl0 : l.length = 0
    · have g0 : ((l.length : Int) == 0) = true := beq_iff_eq.2 (by omega)
      clear hTz hTb
      go_wp2
      go_ret
      exact ⟨rfl, hb14⟩
    · have g0 : ((l.length : Int) == 0) = false := beq_eq_false_iff_ne.2 (by omega)
      have hse : T.toList.isEmpty = false := by
        rw [ByteArray.toList_eq, HSD.out]
        cases l with
        | nil => simp at hl0
        | cons r rs => rw [Pl.log_cons]; simp [Pl.frame1, Pl.summed]
      clear hTz hTb
      go_wp2
      go_ret
      exact ⟨rfl, hb14⟩
  · have hne : T.data.toList ≠ Pl.log l := by
      intro e; apply hTS; apply ByteArray.ext; apply Array.toList_inj.1; rw [e, HSD.out]
    have hTl : T.data.toList.length = T.size := by simp
    have hsc := Pl.records_burst l HLE.out T.data.toList (by rw [hTl, hTz, HSZ.out]) hne (by rw [← HSD.out]; exact hTb) (T.size + 1) (by omega)
    obtain ⟨hw, n, hnl, hrs⟩ := hsc
    have gTS : (T.toList == S.toList) = false := by
      rw [ByteArray.toList_eq, ByteArray.toList_eq, HSD.out]
      exact beq_eq_false_iff_ne.2 hne
    have hTb2 : T.size ≤ 137 * 64 := by omega
    have HW := hid hw
    have HRS := hid hrs
    clear hTb hTl hw hrs hne hTz hTS
    go_wp2_with fail
    refine (unframe_any T w4 (by omega)).mono ?_
    rintro e w5 ⟨v5, rfl, hown5, hb5⟩
    rw [HRS.out] at hown5
    rw [HW.out]
    have hT0 : (l.take n).length = n := by simp; omega
    obtain ⟨a5, b5, c5, hx5, hs5⟩ := hown5.strs
    rw [hx5, hT0]
    have hb15 := hb14.trans (hb5.mono hb14.size)
    have g5 : ¬ ((l.length : Int) < n) := by omega
    have htx := texts_same a5 b5 0 c5 a b off c (l.take n) w5 hs5 ((h.below hb15).take n) (by omega)
    rw [hT0] at htx
    clear hown5 hx5 hs5
    go_wp2_with fail
    refine htx.mono ?_
    rintro e w6 ⟨rfl, hb6⟩
    clear htx
    go_wp2
    go_ret
    exact ⟨rfl, hb15.trans (hb6.mono hb15.size)⟩

set_option maxRecDepth 100000 in
set_option maxHeartbeats 800000 in
theorem scratched_any (a : Option Addr) (b off c : Nat) (l : List (List UInt8)) (at_ mask : Int) (w : World) (h : Strs w a b off l) (hc : l.length ≤ c) (hcm : c ≤ maxLen) :
    Calls Try.prog 9 #[.slice a l.length c, .int .i64 at_, .int .i64 mask] w fun e w' => e = .returned (.bool true) ∧ Below w.heap.size w w' := by
  by_cases hn : l.length ≤ 64
  · by_cases hle : ∀ r ∈ l, r.length ≤ 128
    · exact scratched_ok a b off c l at_ mask w h hc hcm hn hle
    · have HLE := hid hle
      clear hle
      go_enter Try.func9, Try.ntmps9
      go_wp2_with fail
      refine (frame_any a b off c l w h hn).mono ?_
      rintro e w1 ⟨⟨hall, _⟩ | ⟨k, hk, hlong, hbef, rfl⟩, hb1⟩
      · exact absurd hall HLE.out
      have h1 := h.below hb1
      clear hbef
      go_wp2_with fail
      refine (framed_any a b off c l w1 h1 hn).mono ?_
      rintro e w2 ⟨⟨hall, _⟩ | ⟨k2, hk2, hlong2, hbef2, rfl⟩, rfl⟩
      · exact absurd hall HLE.out
      clear hbef2
      go_wp2_with fail
      refine (num_any _ _).mono ?_
      rintro e w3 ⟨rfl, rfl⟩
      go_wp2_with fail
      refine (flip_any ⟨#[]⟩ at_ mask _ (by decide)).mono ?_
      rintro e w4 ⟨T, hTz, hTb, rfl, hb4⟩
      clear hTz hTb
      go_wp2
      go_ret
      exact ⟨rfl, hb1.trans (hb4.mono hb1.size)⟩
  · go_enter Try.func9, Try.ntmps9
    go_wp2_with fail
    refine (frame_many a l.length c w (by omega)).mono ?_
    rintro e w1 ⟨rfl, rfl⟩
    go_wp2_with fail
    refine (framed_many a l.length c _ (by omega)).mono ?_
    rintro e w2 ⟨rfl, rfl⟩
    go_wp2_with fail
    refine (num_any _ _).mono ?_
    rintro e w3 ⟨rfl, rfl⟩
    go_wp2_with fail
    refine (flip_any ⟨#[]⟩ at_ mask _ (by decide)).mono ?_
    rintro e w4 ⟨T, hTz, hTb, rfl, hb4⟩
    clear hTz hTb
    go_wp2
    go_ret
    exact ⟨rfl, hb4⟩
theorem scratched_in {w : World} {a : Option Addr} {len cap : Nat} {ss : List ByteArray} (h : IsStrs w a len cap ss) (at_ mask : Int) :
    Calls Try.prog 9 #[.slice a len cap, .int .i64 at_, .int .i64 mask] w fun e w' => e = .returned (.bool true) ∧ Below w.heap.size w w' := by
  obtain ⟨b, off, hl, _, hs⟩ := h.strs
  have := scratched_any a b off cap _ at_ mask w hs (by rw [hl]; exact h.cap.1) h.cap.2
  rw [hl] at this
  exact this
end Go.Proofs.Ytaboikhdomlbjaa
