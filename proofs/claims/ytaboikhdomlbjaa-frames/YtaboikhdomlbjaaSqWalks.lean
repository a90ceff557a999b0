/-
  THE WALKS of appendPlain, appendCopy, alike.
-/
import Derived.Test.YtaboikhdomlbjaaNumWalks
import Derived.Test.YtaboikhdomlbjaaSumWalks
import Derived.Test.YtaboikhdomlbjaaSq
import Derived.BigQuiet
import Derived.Deep.QuietTactic
import Derived.Lib.Strings
import Derived.Lib.IndexBytes
namespace Go.Proofs.Ytaboikhdomlbjaa
open Go.RowKit
set_option linter.unusedVariables false

theorem u8_int (n : Nat) : Value.int .u8 ((n : Int) % 256) = bv (UInt8.ofNat n) := by
  unfold bv
  congr 1

theorem copy_mark (n : Nat) (h4 : 4 ≤ n) (h : n ≤ 131) : Value.int .u8 (128 + (n : Int) - 4) = bv (UInt8.ofNat (124 + n)) := by
  unfold bv
  congr 1
  simp; omega

set_option maxRecDepth 100000 in
set_option maxHeartbeats 400000 in
theorem appendCopy_any (base : Nat) (v : Value) (l : List UInt8) (d n : Nat) (w : World) (hown : Owns bv 5 base w v l) (hb : base ≤ w.heap.size) (hl : l.length ≤ 1000000) (hd : d ≤ 1024) (hn4 : 4 ≤ n) (hn : n ≤ 131) :
    Calls Try.prog 31 #[v, .int .i64 d, .int .i64 n] w fun e w' => ∃ v', e = .returned v' ∧ Owns bv 5 base w' v' (l ++ (UInt8.ofNat (124 + n) :: Pl.le 2 d)) ∧ Kept 5 base w w' := by
  obtain ⟨i0, hi, hz0, hz1, hz2⟩ := info_parts Try.info5
  go_enter Try.func31, Try.ntmps31
  go_wp2_with (first | (at_builtin; refine wpList_append_src (f := bv) _ rfl _ _ 59 59 rfl base 5 i0 (.int .u8 0) 1 Try.underlying59 hi hz0 hz1 hz2 rfl _ _ rfl (hown.alloc _) _ [UInt8.ofNat (124 + n)] rfl (src_one Try.underlying59 (copy_mark n hn4 hn) rfl) (by simp; omega) (by decide) (by simp; omega) ?_; intro v' w1 hown1 hk1) | (go_at_call 28; refine (appendNumber_any base _ _ _ 2 _ hown1 (by have := hk1.size; simp at this; omega) (by simp; omega) (by omega) (by omega)).mono ?_; rintro e w' ⟨v2, rfl, hown2, hk2⟩))
  go_ret
  exact ⟨_, rfl, by simpa using hown2, ((Kept.refl _ _ _).alloc hb _).trans (hk1.trans hk2)⟩

theorem mark_full : Value.int .u8 127 = bv 127 := by unfold bv; congr 1
theorem plains_all (f : Nat) (d cur : List UInt8) (h0 : d.length ≠ 0) (h1 : d.length ≤ 128) (hf : d.length ≤ f) : cur ++ Pl.plains f d = (cur ++ [UInt8.ofNat (d.length - 1)] ++ d) ++ Pl.plains (f - 1) [] := by
  cases f with
  | zero => omega
  | succ f => simp [Pl.plains, h0, Nat.min_eq_left h1, Pl.plains_nil]
theorem plains_full (f : Nat) (d cur : List UInt8) (h1 : 128 < d.length) (hf : d.length ≤ f) : cur ++ Pl.plains f d = (cur ++ [127] ++ d.take 128) ++ Pl.plains (f - 1) (d.drop 128) := by
  cases f with
  | zero => omega
  | succ f => simp [Pl.plains, show d ≠ [] from (by intro e; simp [e] at h1), Nat.min_eq_right (Nat.le_of_lt h1)]
theorem plain_mark (n : Nat) (h : 1 ≤ n) (h1 : n ≤ 128) : Value.int .u8 ((n : Int) - 1) = bv (UInt8.ofNat (n - 1)) := by
  unfold bv
  congr 1
  simp; omega

set_option maxRecDepth 100000 in
set_option maxHeartbeats 400000 in
theorem appendPlain_any (base : Nat) (v : Value) (l : List UInt8) (s : ByteArray) (w : World) (hown : Owns bv 5 base w v l) (hb : base ≤ w.heap.size) (hl : l.length ≤ 1000000) (hs : s.size ≤ 1024) :
    Calls Try.prog 30 #[v, .string s] w fun e w' => ∃ v', e = .returned v' ∧ Owns bv 5 base w' v' (l ++ Pl.plains s.size s.data.toList) ∧ Kept 5 base w w' := by
  obtain ⟨i0, hi, hz0, hz1, hz2⟩ := info_parts Try.info5
  go_enter Try.func30, Try.ntmps30
  go_wp2
  go_loopw [0, 1] (fun x y wr => ∃ (f : Nat) (r : ByteArray) (cur : List UInt8), y = .string r ∧ r.size ≤ f ∧ f ≤ 1024 ∧ Owns bv 5 base wr x cur ∧ cur ++ Pl.plains f r.data.toList = l ++ Pl.plains s.size s.data.toList ∧ Kept 5 base w wr) (fun _ y _ => strLen y)
  case atStart => exact ⟨s.size, s, l, rfl, Nat.le_refl _, hs, hown, rfl, Kept.refl _ _ _⟩
  case round =>
    obtain ⟨f, r, cur, rfl, hf, hf2, hown', heq, hkept⟩ := hrel
    clear hown
    have hsz := hkept.size
    have HE := hid heq
    clear heq
    have hcl : cur.length ≤ 1003000 := by
      have e := congrArg List.length HE.out
      have e2 := Pl.plains_length s.size s.data.toList
      simp only [List.length_append, Array.length_toList] at e e2
      have : s.data.size = s.size := rfl
      omega
    by_cases h0 : r.size = 0
    · go_wp2
      go_ret
      have hr : r.data.toList = [] := List.eq_nil_of_length_eq_zero h0
      have e := HE.out
      rw [hr, Pl.plains_nil, List.append_nil] at e
      exact ⟨_, rfl, e ▸ hown', hkept⟩
    · by_cases h1 : r.size ≤ 128
      · go_wp2_with (first | (at_builtin; refine wpList_append_src (f := bv) _ rfl (.tmp 12) (.tmp 16) 59 59 rfl base 5 i0 (.int .u8 0) 1 Try.underlying59 hi hz0 hz1 hz2 rfl _ _ rfl (hown'.alloc _) _ [UInt8.ofNat (r.size - 1)] rfl (src_one Try.underlying59 (plain_mark r.size (by omega) h1) rfl) (by simp; omega) (by decide) (by simp; omega) ?_; intro v1 w1 hown1 hk1) | (at_builtin; refine wpList_append_src (f := bv) _ rfl (.tmp 18) (.tmp 21) 59 9 rfl base 5 i0 (.int .u8 0) 1 Try.underlying59 hi hz0 hz1 hz2 rfl _ _ rfl hown1 _ _ rfl (src_string _ Try.underlying9) (by simp; omega) (by decide) (by have := hk1.size; simp at this; omega) ?_; intro v2 w2 hown2 hk2))
        go_roundw
        case rel => exact ⟨f - 1, ByteArray.empty, _, rfl, by simp, by omega, hown2, by rw [← HE.out, plains_all f r.data.toList cur h0 h1 hf]; rfl, hkept.trans (((Kept.refl _ _ _).alloc (by omega) _).trans (hk1.trans hk2))⟩
        case measure => simp [strLen]; omega
      · have h1' : (128 : Int) < (r.size : Int) := by omega
        go_wp2_with (first | (at_builtin; refine wpList_append_src (f := bv) _ rfl (.tmp 12) (.tmp 16) 59 59 rfl base 5 i0 (.int .u8 0) 1 Try.underlying59 hi hz0 hz1 hz2 rfl _ _ rfl (hown'.alloc _) _ [(127 : UInt8)] rfl (src_one Try.underlying59 mark_full rfl) (by simp; omega) (by decide) (by simp; omega) ?_; intro v1 w1 hown1 hk1) | (at_builtin; refine wpList_append_src (f := bv) _ rfl (.tmp 18) (.tmp 21) 59 9 rfl base 5 i0 (.int .u8 0) 1 Try.underlying59 hi hz0 hz1 hz2 rfl _ _ rfl hown1 _ _ rfl (src_string _ Try.underlying9) (by simp; omega) (by decide) (by have := hk1.size; simp at this; omega) ?_; intro v2 w2 hown2 hk2))
        go_roundw
        case rel => exact ⟨f - 1, r.extract 128 r.size, _, rfl, by simp; omega, by omega, hown2, by rw [← HE.out, plains_full f r.data.toList cur (Nat.lt_of_not_le h1) hf, Lib.extract_data, Lib.extract_to_end]; rfl, hkept.trans (((Kept.refl _ _ _).alloc (by omega) _).trans (hk1.trans hk2))⟩
        case measure => simp [strLen]; omega

theorem wrap_small (x : Int) (h0 : 0 ≤ x) (h : x ≤ 1000000000000) : IntKind.i64.wrap x = x := by
  simp [IntKind.wrap, IntKind.bits, IntKind.signed]; omega
/-- s[i], as an equation for the walk -/
theorem index_at {P : Program} {t : TypeId} (ht : P.underlying t = some .string) (s : ByteArray) (z : Int) (k : Nat) (h : k < s.size) (hz : z = (k : Int)) (w : World) : (Instr.index t (.string s) (.int .i64 z)).run P w = .ok (.int .u8 (s[k].toNat : Int)) w := by
  subst hz
  rw [run_index_string w t s .i64 _ ht, dif_pos ⟨by omega, by omega⟩]
  simp
/-- The byte at a place, as the walk writes it. -/
theorem getD_byte (s : ByteArray) (k : Nat) (h : k < s.size) : s.data.toList.getD k 0 = s[k] := by
  simp only [List.getD_eq_getElem?_getD]
  rw [List.getElem?_eq_getElem (by simpa using h)]
  rfl

set_option maxRecDepth 100000 in
set_option maxHeartbeats 400000 in
theorem alike_any (s : ByteArray) (src a : Nat) (w : World) (hs : s.size ≤ 1024) (ha : a ≤ s.size) (hf : src ≤ a) :
    Calls Try.prog 29 #[.string s, .int .i64 src, .int .i64 a] w fun e w' => ∃ n : Nat, e = .returned (.int .i64 n) ∧ Pl.Alike s.data.toList src a n ∧ Below w.heap.size w w' := by
  have hlen : s.data.toList.length = s.size := by simp
  go_enter Try.func29, Try.ntmps29
  go_wp2
  go_loopw [7] (fun i wr => ∃ n : Nat, i = .int .i64 n ∧ n ≤ 131 ∧ a + n ≤ s.size ∧ (∀ j, j < n → s.data.toList.getD (src + j) 0 = s.data.toList.getD (a + j) 0) ∧ Below w.heap.size w wr) (fun i _ => 131 - (intOf i).toNat)
  case atStart => exact ⟨0, rfl, by omega, by omega, fun j hj => by omega, Below.refl _ _⟩
  case round =>
    obtain ⟨n, rfl, hn, han, heq, hbel⟩ := hrel
    have HQ := hid heq
    clear heq hlen
    by_cases h1 : n < 131
    · by_cases h2 : a + n < s.size
      · have hA : s.data.toList.getD (a + n) 0 = s[a + n] := getD_byte s _ h2
        have hB : s.data.toList.getD (src + n) 0 = s[src + n] := getD_byte s _ (by omega)
        have HA := hid hA
        have HB := hid hB
        clear hA hB
        have d1 : (n : Int) < 131 := by omega
        have d2 : (a : Int) + n < s.size := by omega
        have d4 : (src : Int) + n < s.size := by omega
        have e1 := wrap_small ((a : Int) + n) (by omega) (by omega)
        have e2 := wrap_small ((src : Int) + n) (by omega) (by omega)
        have i1 := index_at (P := Try.prog) Try.underlying9 s ((a : Int) + n) (a + n) h2 (by omega)
        have i2 := index_at (P := Try.prog) Try.underlying9 s ((src : Int) + n) (src + n) (by omega) (by omega)
        by_cases h3 : (s[src + n].toNat : Int) = (s[a + n].toNat : Int)
        · have d3 : ((s[src + n].toNat : Int) == (s[a + n].toNat : Int)) = true := by simp [h3]
          clear h3
          go_wp2
          go_quiet (fail)
          go_wp2
          go_roundw
          case rel =>
            refine ⟨n + 1, by go_num, by omega, by omega, fun j hj => ?_, below_drewN hbel _⟩
            rcases Nat.lt_or_ge j n with h | h
            · exact HQ.out j h
            · have : j = n := by omega
              subst this
              rw [HA.out, HB.out]
              exact UInt8.toNat_inj.1 (by have := beq_iff_eq.1 d3; omega)
          case measure => simp [intOf]; omega
        · have d3 : ((s[src + n].toNat : Int) == (s[a + n].toNat : Int)) = false := by simpa using h3
          clear h3
          go_wp2
          go_quiet (fail)
          go_wp2
          go_ret
          refine ⟨n, rfl, ⟨hn, by simpa using han, HQ.out, .inr (.inr ?_)⟩, below_drewN hbel _⟩
          rw [HA.out, HB.out]
          intro e
          rw [e] at d3
          simp at d3
      · have d1 : (n : Int) < 131 := by omega
        have e1 := wrap_small ((a : Int) + n) (by omega) (by omega)
        have d2 : decide ((a : Int) + n < s.size) = false := by simp; omega
        go_wp2
        go_quiet (fail)
        go_wp2
        go_ret
        exact ⟨n, rfl, ⟨hn, by simpa using han, HQ.out, .inr (.inl (by simp; omega))⟩, below_drewN hbel _⟩
    · have d1 : decide ((n : Int) < 131) = false := by simp; omega
      go_wp2
      go_quiet (fail)
      go_wp2
      go_ret
      exact ⟨n, rfl, ⟨hn, by simpa using han, HQ.out, .inl (by omega)⟩, below_drewN hbel _⟩
end Go.Proofs.Ytaboikhdomlbjaa
