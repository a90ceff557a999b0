/-
  THE WALKS of texts and joined.
-/
import Derived.Test.YtaboikhdomlbjaaUnfrWalk
import Derived.Test.YtaboikhdomlbjaaSqLaws
namespace Go.Proofs.Ytaboikhdomlbjaa
open Go.RowKit
set_option linter.unusedVariables false

set_option maxRecDepth 100000 in
set_option maxHeartbeats 800000 in
theorem texts_same (a1 : Option Addr) (b1 off1 c1 : Nat) (a2 : Option Addr) (b2 off2 c2 : Nat) (l : List (List UInt8)) (w : World) (h1 : Strs w a1 b1 off1 l) (h2 : Strs w a2 b2 off2 l) (hn : l.length ≤ 1000000000000) :
    Calls Try.prog 21 #[.slice a1 l.length c1, .slice a2 l.length c2] w fun e w' => e = .returned (.bool true) ∧ Below w.heap.size w w' := by
  go_enter Try.func21, Try.ntmps21
  go_wp2
  go_loopw [5] (fun i wr => ∃ k : Nat, i = .int .i64 k ∧ k ≤ l.length ∧ Below w.heap.size w wr) (fun i _ => l.length - (intOf i).toNat)
  case atStart => exact ⟨0, rfl, Nat.zero_le _, Below.refl _ _⟩
  case round =>
    obtain ⟨k, rfl, hk, hbel⟩ := hrel
    by_cases hlt : k < l.length
    · have ha1 := h1.addr (by omega)
      have ha2 := h2.addr (by omega)
      subst ha1 ha2
      have hc1 := (h1.below hbel).cell k hlt
      have hc2 := (h2.below hbel).cell k hlt
      obtain ⟨r, hr⟩ : ∃ r : ByteArray, lv l[k] = .string r := ⟨_, rfl⟩
      rw [hr] at hc1 hc2
      clear hr
      have g1 : (k : Int) < l.length := by omega
      go_wp2
      go_quiet (fail)
      go_wp2
      go_roundw
      case rel => exact ⟨k + 1, by go_num, by omega, below_drewN hbel _⟩
      case measure => simp [intOf]; omega
    · go_wp2
      go_ret
      exact ⟨rfl, hbel⟩

theorem frame_one (x : List UInt8) (hx : x.length ≤ 128) (w : World) :
    Calls Try.prog 17 #[.slice (some ⟨w.heap.size, 0, none⟩) 1 1] (w.alloc (.cells #[lv x] 9)) fun e w' => ∃ T : ByteArray, T.data.toList = Pl.frame1 x ∧ e = .returned (.tuple #[.string T, .int .i64 0, .int .i64 0]) ∧ Below w.heap.size w w' := by
  have hs : Strs (w.alloc (.cells #[lv x] 9)) (some ⟨w.heap.size, 0, none⟩) w.heap.size 0 [x] := by
    refine ⟨fun _ => rfl, fun j hj => ?_⟩
    have hj0 : j = 0 := by simpa using hj
    subst hj0
    exact cell_one_new w (lv x) 9 0 (lv x) rfl
  refine (frame_any _ _ _ 1 [x] _ hs (by simp)).mono ?_
  rintro e w' ⟨⟨_, rfl⟩ | ⟨k, hk, hlong, _⟩, hb⟩
  · exact ⟨⟨(Pl.log [x]).toArray⟩, by rw [Pl.log_one], rfl, ((Below.refl _ _).alloc (Nat.le_refl _) _).trans (hb.mono (by simp))⟩
  · have hk0 : k = 0 := by simpa using hk
    subst hk0
    simp at hlong
    omega

set_option maxRecDepth 100000 in
set_option maxHeartbeats 800000 in
theorem joined_ok (a : Option Addr) (b off c : Nat) (l : List (List UInt8)) (w : World) (h : Strs w a b off l) (hle : ∀ r ∈ l, r.length ≤ 128) (hn : l.length ≤ 1000000000000) :
    Calls Try.prog 19 #[.slice a l.length c] w fun e w' => ∃ S : ByteArray, S.data.toList = Pl.log l ∧ e = .returned (.tuple #[.string S, .bool true]) ∧ Below w.heap.size w w' := by
  have HLE := hid hle
  clear hle
  go_enter Try.func19, Try.ntmps19
  go_wp2
  go_loopw [4, 5] (fun x i wr => ∃ (k : Nat) (S : ByteArray), i = .int .i64 k ∧ k ≤ l.length ∧ x = .string S ∧ S.data.toList = Pl.log (l.take k) ∧ S.size ≤ 137 * k ∧ Below w.heap.size w wr) (fun _ i _ => l.length - (intOf i).toNat)
  case atStart => exact ⟨0, ⟨#[]⟩, rfl, Nat.zero_le _, rfl, rfl, by simp [ByteArray.size], Below.refl _ _⟩
  case round =>
    obtain ⟨k, S, rfl, hk, rfl, hS, hSz, hbel⟩ := hrel
    have HS := hid hS
    clear hS
    by_cases hlt : k < l.length
    · have ha := h.addr (by omega)
      subst ha
      have hc := (h.below hbel).cell k hlt
      have hk128 := HLE.out l[k] (List.getElem_mem hlt)
      obtain ⟨x, hx⟩ : ∃ x, x = l[k] := ⟨_, rfl⟩
      rw [← hx] at hc hk128
      have HX := hid hx
      clear hx
      unfold lv at hc
      go_wp2_with fail
      refine (frame_one x hk128 wr).mono ?_
      rintro e w1 ⟨T, hT, rfl, hb1⟩
      have hTz : T.size = x.length + 9 := by rw [← Pl.frame1_length, ← hT]; simp
      have hTe : T.toList.isEmpty = false := by
        rw [ByteArray.toList_eq, hT]
        cases hf : Pl.frame1 x with
        | nil => have := Pl.frame1_length x; rw [hf] at this; simp at this
        | cons _ _ => rfl
      have HT := hid hT
      have hTb : T.size ≤ 137 := by omega
      have HTZ := hid hTz
      clear hT hTz
      go_wp2_with fail
      refine (num_any _ _).mono ?_
      rintro e w2 ⟨rfl, rfl⟩
      go_wp2
      go_roundw
      case rel =>
        refine ⟨k + 1, S ++ T, by go_num, by omega, rfl, ?_, by rw [ByteArray.size_append]; omega, hbel.trans (hb1.mono hbel.size)⟩
        rw [ByteArray.data_append, Array.toList_append, HS.out, HT.out, HX.out, List.take_succ_eq_append_getElem hlt, Pl.log_append, Pl.log_one]
      case measure => simp [intOf]; omega
    · go_wp2
      go_ret2
      refine ⟨S, ?_, rfl, hbel⟩
      rw [HS.out, List.take_of_length_le (by omega)]
end Go.Proofs.Ytaboikhdomlbjaa
