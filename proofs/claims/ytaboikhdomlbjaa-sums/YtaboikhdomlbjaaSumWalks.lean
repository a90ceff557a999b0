/-
  THE WALKS of the two sums: strata.Sum, strataref.Sum.
-/
import Derived.Test.YtaboikhdomlbjaaProg
import Derived.Test.YtaboikhdomlbjaaSum
import Derived.WalkKit
import Derived.WalkLawsBesides
import Derived.WalkSpells
import Derived.Laws.BitsAllLaws
namespace Go.Proofs.Ytaboikhdomlbjaa
open Go.RowKit

theorem ret_int {k : IntKind} {a b : Int} (h : a = b) : Ending.returned (.int k a) = .returned (.int k b) := by rw [h]
theorem take_snoc (s : ByteArray) (k : Nat) (h : k < s.size) : s.data.toList.take (k + 1) = s.data.toList.take k ++ [s[k]] := by
  rw [List.take_succ_eq_append_getElem (by simpa using h)]; rfl

theorem xor_ones (a : Nat) (ha : a < 4294967296) : bits .xor .u32 (a : Int) 4294967295 = ((a ^^^ Pl.ones : Nat) : Int) :=
  u32_xor_nat a 4294967295 ha (by omega)
theorem low_bit (a : Nat) (ha : a < 4294967296) : bits .and .u32 (a : Int) 1 = ((a % 2 : Nat) : Int) := by
  rw [← nat_mask1]
  exact u32_and_nat a 1 ha (by omega)
theorem xor_step (a : Nat) (ha : a < 4294967296) : bits .xor .u32 ((a : Int) / 2) (2197175160 * ((a : Int) % 2)) = ((Pl.stepC a : Nat) : Int) := by
  have e1 : ((a : Int) / 2) = ((a / 2 : Nat) : Int) := by omega
  have e2 : (2197175160 * ((a : Int) % 2)) = ((2197175160 * (a % 2) : Nat) : Int) := by omega
  rw [e1, e2]
  exact u32_xor_nat _ _ (by omega) (by omega)

/-- exclusive-or on int, of two numbers of 32 bits -/
theorem i64_xor_nat (a b : Nat) (ha : a < 4294967296) (hb : b < 4294967296) : bits .xor .i64 (a : Int) (b : Int) = ((a ^^^ b : Nat) : Int) := by
  have hx : a ^^^ b < 4294967296 := Pl.xor_lt a b ha hb
  show IntKind.i64.wrap ((BitVec.ofInt 64 (a : Int) ^^^ BitVec.ofInt 64 (b : Int)).toNat : Int) = _
  rw [BitVec.toNat_xor, ofInt_u64 a (by omega), ofInt_u64 b (by omega)]
  have e : IntKind.i64.wrap ((a ^^^ b : Nat) : Int) = wrap64 ((a ^^^ b : Nat) : Int) := by
    unfold wrap64; simp [IntKind.wrap, IntKind.bits, IntKind.signed]; try omega
  rw [e]
  exact IntWalk.wrap64_in _ ⟨by omega, by omega⟩
theorem ref_yes (a c : Nat) (ha : a < 4294967296) (h : ((a : Int) % 2 != (c : Int) % 2) = true) : bits .xor .i64 ((a : Int) / 2) 2197175160 = ((Pl.stepR a c : Nat) : Int) := by
  have e1 : ((a : Int) / 2) = ((a / 2 : Nat) : Int) := by omega
  have h' : (a : Int) % 2 ≠ (c : Int) % 2 := by simpa using h
  rw [e1, show Pl.stepR a c = (a / 2) ^^^ Pl.poly from by unfold Pl.stepR; rw [if_neg (by omega)]]
  exact i64_xor_nat (a / 2) 2197175160 (by omega) (by omega)
theorem ref_no (a c : Nat) (h : ((a : Int) % 2 != (c : Int) % 2) = false) : ((a : Int) / 2) = ((Pl.stepR a c : Nat) : Int) := by
  have h' : (a : Int) % 2 = (c : Int) % 2 := by simpa using h
  rw [show Pl.stepR a c = a / 2 from by unfold Pl.stepR; rw [if_pos (by omega)]]
  omega
theorem ref_end (l : List UInt8) : bits .xor .i64 (Pl.runR Pl.ones l : Nat) 4294967295 = ((Pl.crc l : Nat) : Int) := by
  have hr := Pl.runR_lt l Pl.ones (by unfold Pl.ones; omega)
  unfold Pl.crc
  rw [Pl.run_same]
  exact i64_xor_nat _ 4294967295 hr (by omega)

set_option maxRecDepth 100000 in
set_option maxHeartbeats 400000 in
theorem sum_any (s : ByteArray) (w : World) (hs : s.size ≤ maxLen) :
    Calls Try.prog 11 #[.string s] w fun e w' => e = .returned (.int .i64 (Pl.crc s.data.toList : Nat)) ∧ w' = w := by
  unfold maxLen at hs
  go_enter Try.func11, Try.ntmps11
  go_wp2
  go_loop [3, 7] (fun n i => ∃ k : Nat, k ≤ s.size ∧ i = .int .i64 k ∧ n = .int .u32 (Pl.runC Pl.ones (s.data.toList.take k) : Nat)) (fun _ i => s.size - (intOf i).toNat)
  case atStart => exact ⟨0, Nat.zero_le _, rfl, rfl⟩
  case round =>
    obtain ⟨k, hk, rfl, rfl⟩ := hrel
    by_cases hlt : k < s.size
    · have hc := s[k].toNat_lt
      have hr := Pl.runC_lt (s.data.toList.take k) Pl.ones (by unfold Pl.ones; omega)
      have HN : Hid (Pl.runC Pl.ones (s.data.toList.take (k + 1)) = Pl.stepsC 8 (Pl.runC Pl.ones (s.data.toList.take k) ^^^ s[k].toNat)) := by
        rw [take_snoc s k hlt, Pl.runC_snoc]; rfl
      generalize Pl.runC Pl.ones (s.data.toList.take k) = r at *
      go_wp2
      go_loop [3, 16] (fun n i => ∃ j : Nat, j ≤ 8 ∧ i = .int .i64 j ∧ n = .int .u32 (Pl.stepsC j (r ^^^ s[k].toNat) : Nat)) (fun _ i => 8 - (intOf i).toNat)
      case atStart => exact ⟨0, by omega, rfl, by rw [u32_xor_nat r s[k].toNat hr (by omega)]; rfl⟩
      case round =>
        obtain ⟨j, hj, rfl, rfl⟩ := hrel
        have hx := Pl.stepsC_lt j (r ^^^ s[k].toNat) (Pl.xor_lt _ _ hr (by omega))
        have HJ : Hid (Pl.stepsC (j + 1) (r ^^^ s[k].toNat) = Pl.stepC (Pl.stepsC j (r ^^^ s[k].toNat))) := rfl
        by_cases hj8 : j < 8
        · generalize Pl.stepsC j (r ^^^ s[k].toNat) = a at *
          have hl := low_bit a hx
          go_wp2
          go_round
          case rel => exact ⟨j + 1, by omega, by go_num, by rw [HJ.out, ← xor_step a hx]⟩
          case measure => simp [intOf]; omega
        · go_wp2
          have hj' : j = 8 := by omega
          subst hj'
          go_round
          case rel => exact ⟨k + 1, by omega, by go_num, by rw [HN.out]⟩
          case measure => simp [intOf]; omega
    · go_wp2
      go_ret
      have hr := Pl.runC_lt s.data.toList Pl.ones (by unfold Pl.ones; omega)
      refine ⟨ret_int ?_, rfl⟩
      rw [List.take_of_length_le (by simp; omega), xor_ones _ hr]
      have := Pl.crc_lt s.data.toList
      exact IntWalk.wrap64_in _ ⟨by omega, by unfold Pl.crc at this; omega⟩

set_option maxRecDepth 100000 in
set_option maxHeartbeats 400000 in
theorem refsum_any (s : ByteArray) (w : World) (hs : s.size ≤ maxLen) :
    Calls Try.prog 12 #[.string s] w fun e w' => e = .returned (.int .i64 (Pl.crc s.data.toList : Nat)) ∧ w' = w := by
  unfold maxLen at hs
  go_enter Try.func12, Try.ntmps12
  go_wp2
  go_loop [3, 4] (fun n i => ∃ k : Nat, k ≤ s.size ∧ i = .int .i64 k ∧ n = .int .i64 (Pl.runR Pl.ones (s.data.toList.take k) : Nat)) (fun _ i => s.size - (intOf i).toNat)
  case atStart => exact ⟨0, Nat.zero_le _, rfl, rfl⟩
  case round =>
    obtain ⟨k, hk, rfl, rfl⟩ := hrel
    by_cases hlt : k < s.size
    · have hc := s[k].toNat_lt
      have hr := Pl.runR_lt (s.data.toList.take k) Pl.ones (by unfold Pl.ones; omega)
      have HN : Hid (Pl.runR Pl.ones (s.data.toList.take (k + 1)) = Pl.stepsR 8 (Pl.runR Pl.ones (s.data.toList.take k)) s[k].toNat) := by
        rw [take_snoc s k hlt, Pl.runR_snoc]; rfl
      generalize Pl.runR Pl.ones (s.data.toList.take k) = r at *
      go_wp2
      go_loop [3, 5, 6] (fun n c i => ∃ j : Nat, j ≤ 8 ∧ i = .int .i64 j ∧ c = .int .i64 (s[k].toNat / 2 ^ j : Nat) ∧ n = .int .i64 (Pl.stepsR j r s[k].toNat : Nat)) (fun _ _ i => 8 - (intOf i).toNat)
      case atStart => exact ⟨0, by omega, rfl, by simp, rfl⟩
      case round =>
        obtain ⟨j, hj, rfl, rfl, rfl⟩ := hrel
        have hx := Pl.stepsR_lt j r s[k].toNat hr
        have HJ : Hid (Pl.stepsR (j + 1) r s[k].toNat = Pl.stepR (Pl.stepsR j r s[k].toNat) (s[k].toNat / 2 ^ j)) := rfl
        have HC : Hid (s[k].toNat / 2 ^ (j + 1) = s[k].toNat / 2 ^ j / 2) := by
          unfold Hid; rw [Nat.div_div_eq_div_mul, Nat.pow_succ]
        have hcj : s[k].toNat / 2 ^ j < 256 := Nat.lt_of_le_of_lt (Nat.div_le_self _ _) (by omega)
        by_cases hj8 : j < 8
        · generalize Pl.stepsR j r s[k].toNat = a at *
          generalize s[k].toNat / 2 ^ j = c at *
          go_wp2
          all_goals
            go_round
            case rel => exact ⟨j + 1, by omega, by go_num, by rw [HC.out]; go_num, by rw [HJ.out]; first | rw [ref_yes a c hx (by assumption)] | rw [ref_no a c (by assumption)]⟩
            case measure => simp [intOf]; omega
        · go_wp2
          have hj' : j = 8 := by omega
          subst hj'
          go_round
          case rel => exact ⟨k + 1, by omega, by go_num, by rw [HN.out]⟩
          case measure => simp [intOf]; omega
    · go_wp2
      go_ret
      refine ⟨ret_int ?_, rfl⟩
      rw [List.take_of_length_le (by simp; omega)]
      exact ref_end _
end Go.Proofs.Ytaboikhdomlbjaa
