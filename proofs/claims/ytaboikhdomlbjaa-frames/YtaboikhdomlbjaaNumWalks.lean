/-
  THE WALK of appendNumber.
-/
import Derived.Test.YtaboikhdomlbjaaProg
import Derived.Test.YtaboikhdomlbjaaOwn
import Derived.Test.YtaboikhdomlbjaaNum
import Derived.WalkKit
import Derived.WalkLawsBesides
import Derived.WalkSpells
namespace Go.Proofs.Ytaboikhdomlbjaa
open Go.RowKit
set_option linter.unusedVariables false

theorem Try.info5 : (Try.prog.info? 5).map (fun i => (i.zero, i.size, i.bytes)) = some (some (.int .u8 0), 1, 1) := by kernel_rfl

theorem u8_nat (n k : Nat) : Value.int .u8 ((n : Int) / 2 ^ k % 256) = bv (UInt8.ofNat (n / 2 ^ k)) := by
  unfold bv
  congr 1

set_option maxRecDepth 100000 in
set_option maxHeartbeats 400000 in
theorem appendNumber_any (base : Nat) (v : Value) (l : List UInt8) (n size : Nat) (w : World) (hown : Owns bv 5 base w v l) (hb : base ≤ w.heap.size) (hl : l.length ≤ 1000000000) (hs : size ≤ 4) (hn : n < 4294967296) :
    Calls Try.prog 28 #[v, .int .i64 n, .int .i64 size] w fun e w' => ∃ v', e = .returned v' ∧ Owns bv 5 base w' v' (l ++ Pl.le size n) ∧ Kept 5 base w w' := by
  obtain ⟨i0, hi, hz0, hz1, hz2⟩ := info_parts Try.info5
  go_enter Try.func28, Try.ntmps28
  go_wp2
  go_loopw [0, 9] (fun x i wr => ∃ k : Nat, k ≤ size ∧ i = .int .i64 k ∧ Owns bv 5 base wr x (l ++ Pl.le k n) ∧ Kept 5 base w wr) (fun _ i _ => size - (intOf i).toNat)
  case atStart => exact ⟨0, Nat.zero_le _, rfl, by simpa [Pl.le] using hown, Kept.refl _ _ _⟩
  case round =>
    obtain ⟨k, hk, rfl, hown', hkept⟩ := hrel
    clear hown
    have hsz := hkept.size
    have HL : Hid ((l ++ Pl.le k n).length = l.length + k) := (by simp [Pl.le_length] : (l ++ Pl.le k n).length = l.length + k)
    by_cases hlt : k < size
    · have HS : Hid (l ++ Pl.le (k + 1) n = l ++ Pl.le k n ++ [UInt8.ofNat (n / 2 ^ (8 * k))]) := (by simp [Pl.le] : l ++ Pl.le (k + 1) n = l ++ Pl.le k n ++ [UInt8.ofNat (n / 2 ^ (8 * k))])
      go_wp2_with (at_builtin; refine wpList_append_src (f := bv) _ rfl _ _ 59 59 rfl base 5 i0 (.int .u8 0) 1 Try.underlying59 hi hz0 hz1 hz2 rfl _ _ rfl (hown'.alloc _) _ [UInt8.ofNat (n / 2 ^ (8 * k))] rfl (src_one Try.underlying59 (u8_nat n (8 * k)) rfl) (by rw [HL.out]; simp; omega) (by decide) (by simp; omega) ?_; intro v' w1 hown1 hk1)
      have hkept1 := (hkept.alloc (by omega) _).trans hk1
      rw [← HS.out] at hown1
      clear hown' hk1 hkept
      go_wp2
      go_roundw
      case rel => exact ⟨k + 1, by omega, by go_num, hown1, hkept1⟩
      case measure => simp [intOf]; omega
    · go_wp2
      go_ret
      have : k = size := by omega
      subst this
      exact ⟨_, rfl, hown', hkept⟩
end Go.Proofs.Ytaboikhdomlbjaa
