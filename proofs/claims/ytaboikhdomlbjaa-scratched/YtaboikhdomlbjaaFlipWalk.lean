/-
  THE WALK of strataref.Flip.
-/
import Derived.Test.YtaboikhdomlbjaaLogWalks
import Derived.Test.YtaboikhdomlbjaaFlip
namespace Go.Proofs.Ytaboikhdomlbjaa
open Go.RowKit
set_option linter.unusedVariables false

theorem i64_and_one (z : Int) : bits .and .i64 z 1 = z % 2 := by
  show IntKind.i64.wrap ((BitVec.ofInt 64 z &&& BitVec.ofInt 64 1).toNat : Int) = _
  have h1 : (BitVec.ofInt 64 (1 : Int)).toNat = 1 := by decide
  rw [BitVec.toNat_and, h1, nat_mask1, BitVec.toNat_ofInt]
  have e : (((z % (2 ^ 64 : Nat)).toNat % 2 : Nat) : Int) = z % 2 := by omega
  rw [e]
  simp [IntKind.wrap, IntKind.bits, IntKind.signed]
  omega

theorem xor_bit (C b : Nat) (hC : C < 256) (hb : b < 8) : bits .xor .i64 (C : Int) (wrap64 (2 ^ b)) = ((C ^^^ 2 ^ b : Nat) : Int) := by
  have hp : 2 ^ b ≤ 128 := Nat.pow_le_pow_right (n := 2) (by omega) (show b ≤ 7 by omega)
  obtain ⟨m, hm⟩ : ∃ m, m = 2 ^ b := ⟨_, rfl⟩
  have e : (2 : Int) ^ b = (m : Int) := by rw [hm]; simp
  rw [← hm] at hp ⊢
  rw [e, IntWalk.wrap64_in _ ⟨by omega, by omega⟩]
  exact i64_xor_nat C m (by omega) (by omega)

set_option maxRecDepth 100000 in
set_option maxHeartbeats 1600000 in
theorem flip_pos (s : ByteArray) (at_ mask : Int) (w : World) (hs : s.size ≤ 100000) (h0 : s.size ≠ 0) (p : Nat) (hp : p < 8 * s.size) (hat : at_.tmod (8 * (s.size : Int)) = p) :
    Calls Try.prog 22 #[.string s, .int .i64 at_, .int .i64 mask] w fun e w' => ∃ T : ByteArray, T.size = s.size ∧ Pl.ofle T.data.toList = Pl.ofle s.data.toList ^^^ (Pl.burst mask p % 2 ^ (8 * s.size)) ∧ e = .returned (.string T) ∧ Below w.heap.size w w' := by
  have g0 : ((8 * (s.size : Int)) == 0) = false := beq_eq_false_iff_ne.2 (by omega)
  have g1 : ¬ ((p : Int) < 0) := by omega
  have d1 : decide ((p : Int) < 0) = false := by simp
  go_enter Try.func22, Try.ntmps22
  go_wp2
  have hlen : s.data.toList.length = s.size := by simp
  have HLEN := hid hlen
  clear hlen
  go_loopw [8, 9] (fun o i wr => ∃ (k : Nat) (O : ByteArray), i = .int .i64 k ∧ k ≤ s.size ∧ o = .string O ∧ O.size = k ∧ Pl.ofle O.data.toList = Pl.ofle (s.data.toList.take k) ^^^ (Pl.burst mask p % 2 ^ (8 * k)) ∧ Below w.heap.size w wr) (fun _ i _ => s.size - (intOf i).toNat)
  case atStart => exact ⟨0, ⟨#[]⟩, rfl, Nat.zero_le _, rfl, rfl, by simp [Pl.ofle, Nat.mod_one], Below.refl _ _⟩
  case round =>
    obtain ⟨k, O, rfl, hk, rfl, hOz, hOo, hbel⟩ := hrel
    have HOZ := hid hOz
    have HOO := hid hOo
    have hOb : O.size ≤ 100000 := by omega
    clear hOz hOo
    by_cases hlt : k < s.size
    · have hc := s[k].toNat_lt
      have HG := hid (getD_byte s k hlt)
      obtain ⟨y, hy⟩ : ∃ y, y = Pl.burst mask p / 2 ^ (8 * k) := ⟨_, rfl⟩
      have HY := hid hy
      clear hy
      go_wp2
      go_loop [10, 11] (fun c j => ∃ b : Nat, j = .int .i64 b ∧ b ≤ 8 ∧ c = .int .i64 ((s[k].toNat ^^^ (y % 2 ^ b) : Nat) : Int)) (fun _ j => 8 - (intOf j).toNat)
      case atStart => exact ⟨0, rfl, by omega, by simp [Nat.mod_one]⟩
      case round =>
        obtain ⟨b, rfl, hb, rfl⟩ := hrel
        by_cases hb8 : b < 8
        · have hC := Pl.flip_lt (y := y) (k := b) hc hb
          have HBY : Hid (y / 2 ^ b = Pl.burst mask p / 2 ^ (8 * k + b)) := hid (by rw [HY.out, Nat.div_div_eq_div_mul, ← Nat.pow_add])
          have HF := hid (@Pl.flip_bit s[k].toNat y b)
          have HK := hid (@Pl.keep_bit s[k].toNat y b)
          obtain ⟨C, hCe⟩ : ∃ C, C = s[k].toNat ^^^ (y % 2 ^ b) := ⟨_, rfl⟩
          rw [← hCe] at hC ⊢
          have HC := hid hCe
          clear hCe
          rcases (show 8 * k + b < p ∨ (∃ e, 8 * k + b = p + e ∧ e < 32) ∨ (∃ e, 8 * k + b = p + e ∧ 32 ≤ e) from by
            rcases Nat.lt_or_ge (8 * k + b) p with h | h
            · exact .inl h
            · rcases Nat.lt_or_ge (8 * k + b - p) 32 with h' | h'
              · exact .inr (.inl ⟨8 * k + b - p, by omega, h'⟩)
              · exact .inr (.inr ⟨8 * k + b - p, by omega, h'⟩)) with hlow | ⟨e, he, he32⟩ | ⟨e, he, he32⟩
          · have d2 : decide ((0 : Int) ≤ 8 * (k : Int) + b - p) = false := by simp; omega
            have g2 : ¬ (0 : Int) ≤ 8 * (k : Int) + b - p := by omega
            have hbit : y / 2 ^ b % 2 = 0 := by rw [HBY.out]; exact Pl.bit_before hlow
            have HBIT := hid hbit
            clear hbit
            go_wp2
            go_round
            case rel => exact ⟨b + 1, by go_num, by omega, by rw [HK.out HBIT.out, ← HC.out]⟩
            case measure => simp [intOf]; omega
          · have hee : 8 * (k : Int) + b - p = e := by omega
            have hbit := Pl.bit_at (mask := mask) (p := p) he32
            rw [← he, ← HBY.out] at hbit
            have ha := i64_and_one (mask / 2 ^ e)
            have d2 : (e : Int) < 32 := by omega
            by_cases h1 : mask / 2 ^ e % 2 = 1
            · have g3 : (mask / 2 ^ e % 2 == 1) = true := by simp [h1]
              have HBIT := hid (show y / 2 ^ b % 2 = 1 by omega)
              clear hbit h1
              go_wp2
              go_round
              case rel => exact ⟨b + 1, by go_num, by omega, by rw [HF.out HBIT.out, ← HC.out, xor_bit C b hC hb8]⟩
              case measure => simp [intOf]; omega
            · have g3 : (mask / 2 ^ e % 2 == 1) = false := by simp [h1]
              have HBIT := hid (show y / 2 ^ b % 2 = 0 by omega)
              clear hbit h1
              go_wp2
              go_round
              case rel => exact ⟨b + 1, by go_num, by omega, by rw [HK.out HBIT.out, ← HC.out]⟩
              case measure => simp [intOf]; omega
          · have hee : 8 * (k : Int) + b - p = e := by omega
            have d2 : decide ((e : Int) < 32) = false := by simp; omega
            have g2 : ¬ (e : Int) < 32 := by omega
            have hbit : y / 2 ^ b % 2 = 0 := by rw [HBY.out, he]; exact Pl.bit_behind he32
            have HBIT := hid hbit
            clear hbit
            go_wp2
            go_round
            case rel => exact ⟨b + 1, by go_num, by omega, by rw [HK.out HBIT.out, ← HC.out]⟩
            case measure => simp [intOf]; omega
        · have hb' : b = 8 := by omega
          subst hb'
          have hC := Pl.flip_lt (y := y) (k := 8) hc (Nat.le_refl _)
          obtain ⟨C, hCe⟩ : ∃ C, C = s[k].toNat ^^^ (y % 2 ^ 8) := ⟨_, rfl⟩
          rw [← hCe] at hC ⊢
          have HC := hid hCe
          clear hCe
          have hcv := one_string (P := Try.prog) Try.underlying59 Try.underlying5 Try.underlying9 wr C hC
          go_wp2
          go_roundw
          case rel =>
            refine ⟨k + 1, O ++ ⟨#[UInt8.ofNat C]⟩, by go_num, by omega, rfl, ?_, ?_, hbel.alloc hbel.size _⟩
            · rw [ByteArray.size_append, HOZ.out]; rfl
            · rw [ByteArray.data_append, Array.toList_append, HC.out, HY.out, ← HG.out]
              exact Pl.flip_next (by rw [HLEN.out]; exact hlt) (by simpa using HOZ.out) HOO.out
          case measure => simp [intOf]; omega
    · go_wp2
      go_ret
      have hkk : k = s.size := by omega
      subst hkk
      rw [List.take_of_length_le (by rw [HLEN.out]; exact Nat.le_refl _)] at HOO
      exact ⟨O, HOZ.out, HOO.out, rfl, hbel⟩
set_option maxRecDepth 100000 in
set_option maxHeartbeats 1600000 in
theorem flip_neg (s : ByteArray) (at_ mask : Int) (w : World) (hs : s.size ≤ 100000) (h0 : s.size ≠ 0) (p : Nat) (hp : p < 8 * s.size) (z : Int) (hz : z < 0) (hzn : -(8 * (s.size : Int)) < z) (hat : at_.tmod (8 * (s.size : Int)) = z) (hzp : z + 8 * (s.size : Int) = p) :
    Calls Try.prog 22 #[.string s, .int .i64 at_, .int .i64 mask] w fun e w' => ∃ T : ByteArray, T.size = s.size ∧ Pl.ofle T.data.toList = Pl.ofle s.data.toList ^^^ (Pl.burst mask p % 2 ^ (8 * s.size)) ∧ e = .returned (.string T) ∧ Below w.heap.size w w' := by
  have g0 : ((8 * (s.size : Int)) == 0) = false := beq_eq_false_iff_ne.2 (by omega)
  have d1 : decide (z < 0) = true := by simp; omega
  go_enter Try.func22, Try.ntmps22
  go_wp2
  have hlen : s.data.toList.length = s.size := by simp
  have HLEN := hid hlen
  clear hlen
  go_loopw [8, 9] (fun o i wr => ∃ (k : Nat) (O : ByteArray), i = .int .i64 k ∧ k ≤ s.size ∧ o = .string O ∧ O.size = k ∧ Pl.ofle O.data.toList = Pl.ofle (s.data.toList.take k) ^^^ (Pl.burst mask p % 2 ^ (8 * k)) ∧ Below w.heap.size w wr) (fun _ i _ => s.size - (intOf i).toNat)
  case atStart => exact ⟨0, ⟨#[]⟩, rfl, Nat.zero_le _, rfl, rfl, by simp [Pl.ofle, Nat.mod_one], Below.refl _ _⟩
  case round =>
    obtain ⟨k, O, rfl, hk, rfl, hOz, hOo, hbel⟩ := hrel
    have HOZ := hid hOz
    have HOO := hid hOo
    have hOb : O.size ≤ 100000 := by omega
    clear hOz hOo
    by_cases hlt : k < s.size
    · have hc := s[k].toNat_lt
      have HG := hid (getD_byte s k hlt)
      obtain ⟨y, hy⟩ : ∃ y, y = Pl.burst mask p / 2 ^ (8 * k) := ⟨_, rfl⟩
      have HY := hid hy
      clear hy
      go_wp2
      go_loop [10, 11] (fun c j => ∃ b : Nat, j = .int .i64 b ∧ b ≤ 8 ∧ c = .int .i64 ((s[k].toNat ^^^ (y % 2 ^ b) : Nat) : Int)) (fun _ j => 8 - (intOf j).toNat)
      case atStart => exact ⟨0, rfl, by omega, by simp [Nat.mod_one]⟩
      case round =>
        obtain ⟨b, rfl, hb, rfl⟩ := hrel
        by_cases hb8 : b < 8
        · have hC := Pl.flip_lt (y := y) (k := b) hc hb
          have HBY : Hid (y / 2 ^ b = Pl.burst mask p / 2 ^ (8 * k + b)) := hid (by rw [HY.out, Nat.div_div_eq_div_mul, ← Nat.pow_add])
          have HF := hid (@Pl.flip_bit s[k].toNat y b)
          have HK := hid (@Pl.keep_bit s[k].toNat y b)
          obtain ⟨C, hCe⟩ : ∃ C, C = s[k].toNat ^^^ (y % 2 ^ b) := ⟨_, rfl⟩
          rw [← hCe] at hC ⊢
          have HC := hid hCe
          clear hCe
          rcases (show 8 * k + b < p ∨ (∃ e, 8 * k + b = p + e ∧ e < 32) ∨ (∃ e, 8 * k + b = p + e ∧ 32 ≤ e) from by
            rcases Nat.lt_or_ge (8 * k + b) p with h | h
            · exact .inl h
            · rcases Nat.lt_or_ge (8 * k + b - p) 32 with h' | h'
              · exact .inr (.inl ⟨8 * k + b - p, by omega, h'⟩)
              · exact .inr (.inr ⟨8 * k + b - p, by omega, h'⟩)) with hlow | ⟨e, he, he32⟩ | ⟨e, he, he32⟩
          · have d2 : decide ((0 : Int) ≤ 8 * (k : Int) + b - p) = false := by simp; omega
            have g2 : ¬ (0 : Int) ≤ 8 * (k : Int) + b - p := by omega
            have hbit : y / 2 ^ b % 2 = 0 := by rw [HBY.out]; exact Pl.bit_before hlow
            have HBIT := hid hbit
            clear hbit
            go_wp2
            go_round
            case rel => exact ⟨b + 1, by go_num, by omega, by rw [HK.out HBIT.out, ← HC.out]⟩
            case measure => simp [intOf]; omega
          · have hee : 8 * (k : Int) + b - p = e := by omega
            have hbit := Pl.bit_at (mask := mask) (p := p) he32
            rw [← he, ← HBY.out] at hbit
            have ha := i64_and_one (mask / 2 ^ e)
            have d2 : (e : Int) < 32 := by omega
            by_cases h1 : mask / 2 ^ e % 2 = 1
            · have g3 : (mask / 2 ^ e % 2 == 1) = true := by simp [h1]
              have HBIT := hid (show y / 2 ^ b % 2 = 1 by omega)
              clear hbit h1
              go_wp2
              go_round
              case rel => exact ⟨b + 1, by go_num, by omega, by rw [HF.out HBIT.out, ← HC.out, xor_bit C b hC hb8]⟩
              case measure => simp [intOf]; omega
            · have g3 : (mask / 2 ^ e % 2 == 1) = false := by simp [h1]
              have HBIT := hid (show y / 2 ^ b % 2 = 0 by omega)
              clear hbit h1
              go_wp2
              go_round
              case rel => exact ⟨b + 1, by go_num, by omega, by rw [HK.out HBIT.out, ← HC.out]⟩
              case measure => simp [intOf]; omega
          · have hee : 8 * (k : Int) + b - p = e := by omega
            have d2 : decide ((e : Int) < 32) = false := by simp; omega
            have g2 : ¬ (e : Int) < 32 := by omega
            have hbit : y / 2 ^ b % 2 = 0 := by rw [HBY.out, he]; exact Pl.bit_behind he32
            have HBIT := hid hbit
            clear hbit
            go_wp2
            go_round
            case rel => exact ⟨b + 1, by go_num, by omega, by rw [HK.out HBIT.out, ← HC.out]⟩
            case measure => simp [intOf]; omega
        · have hb' : b = 8 := by omega
          subst hb'
          have hC := Pl.flip_lt (y := y) (k := 8) hc (Nat.le_refl _)
          obtain ⟨C, hCe⟩ : ∃ C, C = s[k].toNat ^^^ (y % 2 ^ 8) := ⟨_, rfl⟩
          rw [← hCe] at hC ⊢
          have HC := hid hCe
          clear hCe
          have hcv := one_string (P := Try.prog) Try.underlying59 Try.underlying5 Try.underlying9 wr C hC
          go_wp2
          go_roundw
          case rel =>
            refine ⟨k + 1, O ++ ⟨#[UInt8.ofNat C]⟩, by go_num, by omega, rfl, ?_, ?_, hbel.alloc hbel.size _⟩
            · rw [ByteArray.size_append, HOZ.out]; rfl
            · rw [ByteArray.data_append, Array.toList_append, HC.out, HY.out, ← HG.out]
              exact Pl.flip_next (by rw [HLEN.out]; exact hlt) (by simpa using HOZ.out) HOO.out
          case measure => simp [intOf]; omega
    · go_wp2
      go_ret
      have hkk : k = s.size := by omega
      subst hkk
      rw [List.take_of_length_le (by rw [HLEN.out]; exact Nat.le_refl _)] at HOO
      exact ⟨O, HOZ.out, HOO.out, rfl, hbel⟩

theorem flip_any (s : ByteArray) (at_ mask : Int) (w : World) (hs : s.size ≤ 100000) :
    Calls Try.prog 22 #[.string s, .int .i64 at_, .int .i64 mask] w fun e w' => ∃ T : ByteArray, T.size = s.size ∧ Pl.IsBurst (Pl.ofle s.data.toList ^^^ Pl.ofle T.data.toList) ∧ e = .returned (.string T) ∧ Below w.heap.size w w' := by
  have back : ∀ (p : Nat) (T : ByteArray), Pl.ofle T.data.toList = Pl.ofle s.data.toList ^^^ (Pl.burst mask p % 2 ^ (8 * s.size)) → Pl.IsBurst (Pl.ofle s.data.toList ^^^ Pl.ofle T.data.toList) := by
    intro p T h
    rw [h, ← Nat.xor_assoc, Nat.xor_self, Nat.zero_xor]
    exact (Pl.burst_is mask p).mod _
  by_cases h0 : s.size = 0
  · have g0 : ((8 * (s.size : Int)) == 0) = true := beq_iff_eq.2 (by omega)
    clear back
    go_enter Try.func22, Try.ntmps22
    go_wp2
    go_ret
    exact ⟨s, rfl, ⟨0, 0, by omega, by rw [Nat.xor_self]⟩, rfl, Below.refl _ _⟩
  · have hb1 := Int.tmod_lt_of_pos at_ (show (0 : Int) < 8 * (s.size : Int) by omega)
    have hb2 := Int.lt_tmod_of_pos at_ (show (0 : Int) < 8 * (s.size : Int) by omega)
    rcases Int.lt_or_le (at_.tmod (8 * (s.size : Int))) 0 with hneg | hpos
    · obtain ⟨p, hp⟩ := Int.eq_ofNat_of_zero_le (show 0 ≤ at_.tmod (8 * (s.size : Int)) + 8 * (s.size : Int) by omega)
      refine (flip_neg s at_ mask w hs h0 p (by omega) _ hneg hb2 rfl hp).mono ?_
      rintro e w' ⟨T, h1, h2, rfl, h3⟩
      exact ⟨T, h1, back p T h2, rfl, h3⟩
    · obtain ⟨p, hp⟩ := Int.eq_ofNat_of_zero_le hpos
      refine (flip_pos s at_ mask w hs h0 p (by omega) hp).mono ?_
      rintro e w' ⟨T, h1, h2, rfl, h3⟩
      exact ⟨T, h1, back p T h2, rfl, h3⟩
end Go.Proofs.Ytaboikhdomlbjaa
