/-
  THE WALKS of the laws Frames and Unframes.
-/
import Derived.Test.YtaboikhdomlbjaaLogWalks
import Derived.Test.YtaboikhdomlbjaaArgs
namespace Go.Proofs.Ytaboikhdomlbjaa
open Go.RowKit
set_option linter.unusedVariables false

/-- What is owned can be read. -/
theorem Owns.strs {base : Nat} {w : World} {v : Value} {l : List (List UInt8)} (h : Owns lv 9 base w v l) : ∃ a b c, v = .slice a l.length c ∧ Strs w a b 0 l := by
  by_cases hl : l = []
  · obtain ⟨a, c, rfl⟩ := h.shape
    subst hl
    exact ⟨a, 0, c, rfl, fun h => by simp at h, fun j hj => by simp at hj⟩
  · obtain ⟨g, cap, rfl, _, hc⟩ := h.open hl
    exact ⟨_, g, cap, rfl, fun _ => rfl, fun j hj => by rw [Nat.zero_add]; exact hc j hj⟩

set_option maxRecDepth 100000 in
set_option maxHeartbeats 1600000 in
theorem frames_ok (a : Option Addr) (b off c : Nat) (l : List (List UInt8)) (w : World) (h : Strs w a b off l) (hn : l.length ≤ 64) (hle : ∀ r ∈ l, r.length ≤ 128) :
    Calls Try.prog 6 #[.slice a l.length c] w fun e w' => e = .returned (.bool true) ∧ Below w.heap.size w w' := by
  have HLE := hid hle
  have hll := Pl.log_length_le l hle
  clear hle
  go_enter Try.func6, Try.ntmps6
  go_wp2_with fail
  refine (frame_any a b off c l w h hn).mono ?_
  rintro e w1 ⟨⟨_, rfl⟩ | ⟨k, hk, hlong, _⟩, hb1⟩
  case inr => exact absurd (HLE.out l[k] (List.getElem_mem hk)) (by omega)
  obtain ⟨S, hS⟩ : ∃ S : ByteArray, S = ⟨(Pl.log l).toArray⟩ := ⟨_, rfl⟩
  rw [← hS]
  have hSd : S.data.toList = Pl.log l := by rw [hS]
  have hSz : S.size ≤ 137 * 64 := by
    have : S.data.toList.length = S.size := by simp
    rw [hSd] at this; omega
  have HSD := hid hSd
  clear hS hSd
  have h1 := h.below hb1
  go_wp2_with fail
  refine (framed_any a b off c l w1 h1 hn).mono ?_
  rintro e w2 ⟨⟨_, rfl⟩ | ⟨k, hk, hlong, _⟩, rfl⟩
  case inr => exact absurd (HLE.out l[k] (List.getElem_mem hk)) (by omega)
  go_wp2_with fail
  refine (num_any _ _).mono ?_
  rintro e w3 ⟨rfl, rfl⟩
  go_wp2_with fail
  refine (joined_ok a b off c l _ h1 HLE.out (by omega)).mono ?_
  rintro e w4 ⟨T, hT, rfl, hb4⟩
  have hTS : T = S := by apply ByteArray.ext; apply Array.toList_inj.1; rw [hT, HSD.out]
  subst hTS
  clear hT
  have HREC := hid (Pl.records_log l HLE.out (T.size + 1) (by rw [← HSD.out]; have : T.data.toList.length = T.size := (by simp); omega))
  go_wp2_with fail
  refine (unframe_any T w4 (by omega)).mono ?_
  rintro e w5 ⟨v5, rfl, hown5, hb5⟩
  rw [HSD.out, HREC.out] at hown5 ⊢
  go_wp2_with fail
  refine (unframe_any T w5 (by omega)).mono ?_
  rintro e w6 ⟨v6, rfl, hown6, hb6⟩
  rw [HSD.out, HREC.out] at hown6 ⊢
  simp only at hown5 hown6
  have hb16 := ((hb1.trans (hb4.mono hb1.size)).trans (hb5.mono (Nat.le_trans hb1.size hb4.size)))
  obtain ⟨a6, c6, hx6⟩ := hown6.shape
  obtain ⟨a5, b5, c5, hx5, hs5⟩ := hown5.strs
  rw [hx6] at hown6 ⊢
  rw [hx5]
  clear hx5 hx6 hown5
  go_wp2_with fail
  go_loopw [14] (fun i wr => ∃ (k : Nat) (L : List Value), i = .int .i64 k ∧ k ≤ l.length ∧ wr.ownsRow w5.heap.size 9 1 (.slice a6 l.length c6) l.length L ∧ Below w5.heap.size w5 wr) (fun i _ => l.length - (intOf i).toNat)
  case atStart => exact ⟨0, _, rfl, Nat.zero_le _, hown6, hb6⟩
  case round =>
    obtain ⟨k, L, rfl, hk, hrow, hb7⟩ := hrel
    clear hown6 hb6
    by_cases hlt : k < l.length
    · have ha6 : ∃ g, a6 = some ⟨g, 0, none⟩ ∧ w5.heap.size ≤ g := by
        rcases hrow.2 with ⟨_, h0⟩ | ⟨g, cap, cur, hv, hg, _⟩
        · omega
        · exact ⟨g, by simp at hv; exact hv.1, hg⟩
      obtain ⟨g, hg, hbg⟩ := ha6
      subst hg
      have hcc := hrow.cellAt k (by omega)
      have hL : k < L.length := by have := hrow.1; omega
      rw [List.getElem?_eq_getElem hL] at hcc
      have hff := hrow.frozenAt k
      have hst := (hrow.stored k (.string ⟨#[63]⟩)).1
      have HST := hid hst
      clear hst
      go_wp2
      go_roundw
      case rel => exact ⟨k + 1, _, by go_num, by omega, HST.out, hb7.setCell hbg _⟩
      case measure => simp [intOf]; omega
    · have h7 := (h1.below hb4).below (hb5)
      have hbx : Below w5.heap.size w5 wr := hb7
      go_wp2_with fail
      refine (texts_same a5 b5 0 c5 a b off c l wr (hs5.below hb7) (h7.below hb7) (by omega)).mono ?_
      rintro e w8 ⟨rfl, hb8⟩
      go_wp2
      go_ret
      have hb17 := hb16.trans (hb7.mono hb16.size)
      exact ⟨by simp, hb17.trans (hb8.mono hb17.size)⟩

set_option maxRecDepth 100000 in
set_option maxHeartbeats 800000 in
theorem frames_any (a : Option Addr) (b off c : Nat) (l : List (List UInt8)) (w : World) (h : Strs w a b off l) :
    Calls Try.prog 6 #[.slice a l.length c] w fun e w' => e = .returned (.bool true) ∧ Below w.heap.size w w' := by
  by_cases hn : l.length ≤ 64
  · by_cases hle : ∀ r ∈ l, r.length ≤ 128
    · exact frames_ok a b off c l w h hn hle
    · have HLE := hid hle
      clear hle
      go_enter Try.func6, Try.ntmps6
      go_wp2_with fail
      refine (frame_any a b off c l w h hn).mono ?_
      rintro e w1 ⟨⟨hall, _⟩ | ⟨k, hk, hlong, hbef, rfl⟩, hb1⟩
      · exact absurd hall HLE.out
      have h1 := h.below hb1
      go_wp2_with fail
      refine (framed_any a b off c l w1 h1 hn).mono ?_
      rintro e w2 ⟨⟨hall, _⟩ | ⟨k2, hk2, hlong2, hbef2, rfl⟩, rfl⟩
      · exact absurd hall HLE.out
      have hkk : k2 = k := by
        rcases Nat.lt_trichotomy k k2 with h' | h' | h'
        · exact absurd (hbef2 k h') (by omega)
        · exact h'.symm
        · exact absurd (hbef k2 h') (by omega)
      subst hkk
      clear hbef hbef2 hlong hlong2
      go_wp2_with fail
      refine (num_any _ _).mono ?_
      rintro e w3 ⟨rfl, rfl⟩
      go_wp2
      go_ret
      exact ⟨rfl, hb1⟩
  · go_enter Try.func6, Try.ntmps6
    go_wp2_with fail
    refine (frame_many a l.length c w (by omega)).mono ?_
    rintro e w1 ⟨rfl, rfl⟩
    go_wp2_with fail
    refine (framed_many a l.length c _ (by omega)).mono ?_
    rintro e w2 ⟨rfl, rfl⟩
    go_wp2_with fail
    refine (num_any _ _).mono ?_
    rintro e w3 ⟨rfl, rfl⟩
    go_wp2
    go_ret
    exact ⟨rfl, Below.refl _ _⟩

theorem frames_in {w : World} {a : Option Addr} {len cap : Nat} {ss : List ByteArray} (h : IsStrs w a len cap ss) :
    Calls Try.prog 6 #[.slice a len cap] w fun e w' => e = .returned (.bool true) ∧ Below w.heap.size w w' := by
  obtain ⟨b, off, hl, _, hs⟩ := h.strs
  have := frames_any a b off cap _ w hs
  rw [hl] at this
  exact this

set_option maxRecDepth 100000 in
set_option maxHeartbeats 800000 in
theorem unframes_any (t : ByteArray) (w : World) (ht : t.size ≤ 1000000000000) :
    Calls Try.prog 8 #[.string t] w fun e w' => e = .returned (.bool true) ∧ Below w.heap.size w w' := by
  have hlen : t.data.toList.length = t.size := by simp
  obtain ⟨h128, ⟨tail, htail, hwhole⟩, hnum⟩ := Pl.records_is (t.size + 1) t.data.toList (by omega)
  obtain ⟨R, hR⟩ : ∃ R, R = Pl.records (t.size + 1) t.data.toList := ⟨_, rfl⟩
  rw [← hR] at h128 htail hwhole hnum
  rw [hlen] at hnum
  have HR := hid hR
  have H128 := hid h128
  have HT := hid htail
  have HW := hid hwhole
  have HLEN := hid hlen
  clear hR h128 htail hwhole hlen
  go_enter Try.func8, Try.ntmps8
  go_wp2_with fail
  refine (unframe_any t w ht).mono ?_
  rintro e w1 ⟨v1, rfl, hown1, hb1⟩
  rw [← HR.out] at hown1 ⊢
  obtain ⟨a1, b1, c1, rfl, hs1⟩ := hown1.strs
  clear hown1
  go_wp2_with fail
  refine (joined_ok a1 b1 0 c1 R.1 w1 hs1 H128.out (by omega)).mono ?_
  rintro e w2 ⟨S, hS, rfl, hb2⟩
  have hSl : S.data.toList.length = S.size := by simp
  have hSt : S.size ≤ t.size := by
    have := congrArg List.length HT.out
    rw [List.length_append, ← hS, hSl, HLEN.out] at this
    omega
  have hext : t.extract 0 S.size = S := by
    apply ByteArray.ext
    apply Array.toList_inj.1
    rw [Lib.extract_data, HT.out, hS, List.drop_zero, Nat.sub_zero, ← hSl, hS, List.take_left]
  have hsz : R.2 = true ↔ S.size = t.size := by
    have e := congrArg List.length HT.out
    rw [List.length_append, ← hS, hSl, HLEN.out] at e
    rw [HW.out]
    constructor
    · intro h; subst h; simp at e; omega
    · intro h; exact List.eq_nil_of_length_eq_zero (by omega)
  have g1 : ¬ ((t.size : Int) < S.size) := by omega
  have g2 : (R.2 == ((S.size : Int) == (t.size : Int))) = true := by
    cases hr : R.2
    · have : ¬ S.size = t.size := fun h => by rw [hsz.2 h] at hr; cases hr
      simp; omega
    · have := hsz.1 hr
      simp [this]
  have hb12 := hb1.trans (hb2.mono hb1.size)
  have HS := hid hS
  clear hS hsz hs1 hSl
  generalize R.2 = wh at *
  go_wp2
  go_ret
  exact ⟨by first | rfl | simp_all, hb12⟩
end Go.Proofs.Ytaboikhdomlbjaa
