/-
  THE WALKS of appendSummed, Frame and framed; a slice of strings that is read.
-/
import Derived.Test.YtaboikhdomlbjaaCurWalks
import Derived.Test.YtaboikhdomlbjaaLog
namespace Go.Proofs.Ytaboikhdomlbjaa
open Go.RowKit
set_option linter.unusedVariables false

/-- A string of these bytes. -/
def lv (r : List UInt8) : Value := .string ⟨r.toArray⟩
theorem lv_data (s : ByteArray) : lv s.data.toList = .string s := rfl

/-- The slice v is these strings. -/
structure Strs (w : World) (a : Option Addr) (b off : Nat) (l : List (List UInt8)) : Prop where
  addr : 0 < l.length → a = some ⟨b, off, none⟩
  cell : ∀ j (hj : j < l.length), w.cell? ⟨b, off + j, none⟩ = some (lv l[j])
theorem Strs.below {w w' : World} {a : Option Addr} {b off : Nat} {l : List (List UInt8)} (h : Strs w a b off l) (hb : Below w.heap.size w w') : Strs w' a b off l :=
  ⟨h.addr, fun j hj => by
    have hc := h.cell j hj
    rw [hb.cell (p := ⟨b, off + j, none⟩) (World.block_lt_of_cell? w _ hc)]
    exact hc⟩
theorem Strs.take {w : World} {a : Option Addr} {b off : Nat} {l : List (List UInt8)} (h : Strs w a b off l) (n : Nat) : Strs w a b off (l.take n) :=
  ⟨fun hl => h.addr (by simp at hl; omega), fun j hj => by
    have hj' : j < l.length := by simp at hj; omega
    rw [h.cell j hj']; simp⟩

set_option maxRecDepth 100000 in
set_option maxHeartbeats 400000 in
theorem appendSummed_any (base : Nat) (v : Value) (l : List UInt8) (s : ByteArray) (w : World) (hown : Owns bv 5 base w v l) (hb : base ≤ w.heap.size) (hl : l.length ≤ 1000000) (hs : s.size ≤ 1024) :
    Calls Try.prog 37 #[v, .string s] w fun e w' => ∃ v', e = .returned v' ∧ Owns bv 5 base w' v' (l ++ Pl.summed s.data.toList) ∧ Kept 5 base w w' := by
  obtain ⟨i0, hi, hz0, hz1, hz2⟩ := info_parts Try.info5
  have hc := Pl.crc_lt s.data.toList
  go_enter Try.func37, Try.ntmps37
  go_wp2_with (first | (at_builtin; refine wpList_append_src (f := bv) _ rfl _ _ 59 9 rfl base 5 i0 (.int .u8 0) 1 Try.underlying59 hi hz0 hz1 hz2 rfl _ _ rfl hown _ _ rfl (src_string _ Try.underlying9) (by simp; omega) (by decide) hb ?_; intro v1 w1 hown1 hk1) | (go_at_call 11; refine (sum_any _ _ (by unfold maxLen; omega)).mono ?_; rintro e w' ⟨rfl, rfl⟩))
  refine (appendNumber_any base _ _ _ 4 _ hown1 (by have := hk1.size; omega) (by simp; omega) (by omega) hc).mono ?_
  rintro e w2 ⟨v2, rfl, hown2, hk2⟩
  go_wp2
  go_ret
  exact ⟨_, rfl, by rw [Pl.summed, ← List.append_assoc]; exact hown2, hk1.trans hk2⟩

set_option maxRecDepth 100000 in
set_option maxHeartbeats 400000 in
theorem framed_many (a : Option Addr) (n c : Nat) (w : World) (hn : 64 < n) :
    Calls Try.prog 18 #[.slice a n c] w fun e w' => e = .returned (.tuple #[.int .i64 8, .int .i64 0]) ∧ w' = w := by
  have g : (64 : Int) < n := by omega
  go_enter Try.func18, Try.ntmps18
  go_wp2
  go_ret2
  exact ⟨rfl, rfl⟩

set_option maxRecDepth 100000 in
set_option maxHeartbeats 400000 in
theorem framed_any (a : Option Addr) (b off c : Nat) (l : List (List UInt8)) (w : World) (h : Strs w a b off l) (hn : l.length ≤ 64) :
    Calls Try.prog 18 #[.slice a l.length c] w fun e w' => ((∀ r ∈ l, r.length ≤ 128) ∧ e = .returned (.tuple #[.int .i64 0, .int .i64 0]) ∨ ∃ k : Nat, ∃ hk : k < l.length, 128 < l[k].length ∧ (∀ j (hj : j < k), l[j].length ≤ 128) ∧ e = .returned (.tuple #[.int .i64 1, .int .i64 k])) ∧ w' = w := by
  have g : ¬ (64 : Int) < l.length := by omega
  go_enter Try.func18, Try.ntmps18
  go_wp2
  go_loop [4] (fun i => ∃ k : Nat, i = .int .i64 k ∧ k ≤ l.length ∧ ∀ j (hj : j < l.length), j < k → l[j].length ≤ 128) (fun i => l.length - (intOf i).toNat)
  case atStart => exact ⟨0, rfl, Nat.zero_le _, fun j hj h => by omega⟩
  case round =>
    obtain ⟨k, rfl, hk, hle⟩ := hrel
    have HQ := hid hle
    clear hle
    by_cases hlt : k < l.length
    · have ha := h.addr (by omega)
      subst ha
      have hc := h.cell k hlt
      obtain ⟨r, hr⟩ : ∃ r : ByteArray, lv l[k] = .string r ∧ r.size = l[k].length := ⟨⟨l[k].toArray⟩, rfl, by simp [ByteArray.size]⟩
      rw [hr.1] at hc
      have HR := hid hr.2
      clear hr
      by_cases h128 : 128 < r.size
      · have g2 : (128 : Int) < r.size := by omega
        go_wp2
        go_ret2
        exact ⟨.inr ⟨k, hlt, by rw [← HR.out]; exact h128, fun j hj => HQ.out j (by omega) hj, rfl⟩, rfl⟩
      · have g2 : ¬ (128 : Int) < r.size := by omega
        go_wp2
        go_round
        case rel =>
          refine ⟨k + 1, by go_num, by omega, fun j hj hjk => ?_⟩
          rcases Nat.lt_or_ge j k with h' | h'
          · exact HQ.out j hj h'
          · have : j = k := by omega
            subst this
            rw [← HR.out]; omega
        case measure => simp [intOf]; omega
    · go_wp2
      go_ret2
      refine ⟨.inl ⟨fun r hr => ?_, rfl⟩, rfl⟩
      obtain ⟨j, hj, rfl⟩ := List.mem_iff_getElem.1 hr
      exact HQ.out j hj (by omega)

/-- string([]byte{c}) -/
theorem one_string {P : Program} {src dst e : TypeId} (hs : P.underlying src = some (.slice e)) (he : P.underlying e = some (.int .u8)) (hd : P.underlying dst = some .string) (w : World) (n : Nat) (hn : n < 256) :
    (convert src dst (.slice (some ⟨w.heap.size, 0, none⟩) 1 1)).run P (w.alloc (.cells #[.int .u8 (n : Int)] e)) = .ok (.string ⟨#[UInt8.ofNat n]⟩) (w.alloc (.cells #[.int .u8 (n : Int)] e)) := by
  have hb : (UInt8.ofNat n).toNat = n := by simp; omega
  refine run_convert_bytes_back (w.alloc (.cells #[.int .u8 (n : Int)] e)) src dst e ⟨w.heap.size, 0, none⟩ 1 [UInt8.ofNat n] hs he hd (fun j hj => ?_)
  have hj0 : j = 0 := by simpa using hj
  subst hj0
  have := cell_one_new w (.int .u8 (n : Int)) e 0 (.int .u8 (n : Int)) rfl
  simpa [hb] using this

set_option maxRecDepth 100000 in
set_option maxHeartbeats 400000 in
theorem frame_many (a : Option Addr) (n c : Nat) (w : World) (hn : 64 < n) :
    Calls Try.prog 17 #[.slice a n c] w fun e w' => e = .returned (.tuple #[.string ⟨#[]⟩, .int .i64 8, .int .i64 0]) ∧ w' = w := by
  have g : (64 : Int) < n := by omega
  go_enter Try.func17, Try.ntmps17
  go_wp2
  go_ret3
  exact ⟨rfl, rfl⟩

set_option maxRecDepth 100000 in
set_option maxHeartbeats 800000 in
theorem frame_any (a : Option Addr) (b off c : Nat) (l : List (List UInt8)) (w : World) (h : Strs w a b off l) (hn : l.length ≤ 64) :
    Calls Try.prog 17 #[.slice a l.length c] w fun e w' => ((∀ r ∈ l, r.length ≤ 128) ∧ e = .returned (.tuple #[.string ⟨(Pl.log l).toArray⟩, .int .i64 0, .int .i64 0]) ∨ ∃ k : Nat, ∃ hk : k < l.length, 128 < l[k].length ∧ (∀ j (hj : j < k), l[j].length ≤ 128) ∧ e = .returned (.tuple #[.string ⟨#[]⟩, .int .i64 1, .int .i64 k])) ∧ Below w.heap.size w w' := by
  have g : ¬ (64 : Int) < l.length := by omega
  go_enter Try.func17, Try.ntmps17
  go_wp2_with fail
  go_loopw [5, 13] (fun x i wr => ∃ k : Nat, i = .int .i64 k ∧ k ≤ l.length ∧ (∀ j (hj : j < l.length), j < k → l[j].length ≤ 128) ∧ Owns bv 5 w.heap.size wr x (Pl.log (l.take k)) ∧ Below w.heap.size w wr) (fun _ i _ => l.length - (intOf i).toNat)
  case atStart => exact ⟨0, rfl, Nat.zero_le _, fun j hj h => by omega, Owns.nil _ _ _ _, Below.refl _ _⟩
  case round =>
    obtain ⟨k, rfl, hk, hle, hown, hbel⟩ := hrel
    have HQ := hid hle
    clear hle
    have hws := hbel.size
    have hll : (Pl.log (l.take k)).length ≤ 137 * 64 := by
      have := Pl.log_length_le (l.take k) (fun r hr => by
        obtain ⟨j, hj, rfl⟩ := List.mem_iff_getElem.1 hr
        simp at hj
        rw [List.getElem_take]
        exact HQ.out j (by omega) (by omega))
      have h2 : (l.take k).length ≤ 64 := by simp; omega
      omega
    by_cases hlt : k < l.length
    · have ha := h.addr (by omega)
      subst ha
      have hc := (h.below hbel).cell k hlt
      obtain ⟨r, hr⟩ : ∃ r : ByteArray, lv l[k] = .string r ∧ r.data.toList = l[k] := ⟨⟨l[k].toArray⟩, rfl, rfl⟩
      rw [hr.1] at hc
      have hrl : r.size = l[k].length := by rw [← hr.2]; simp
      have HR := hid hr.2
      have HRL := hid hrl
      clear hr hrl
      by_cases h128 : 128 < r.size
      · have g2 : (128 : Int) < r.size := by omega
        go_wp2
        go_ret3
        exact ⟨.inr ⟨k, hlt, by rw [← HRL.out]; exact h128, fun j hj => HQ.out j (by omega) hj, rfl⟩, hbel⟩
      · have g2 : ¬ (128 : Int) < r.size := by omega
        have hcv := one_string (P := Try.prog) Try.underlying59 Try.underlying5 Try.underlying9 wr r.size (by omega)
        go_wp2_with fail
        refine (appendSummed_any w.heap.size _ _ ⟨#[UInt8.ofNat r.size]⟩ _ (hown.alloc _) (by simp; omega) (by omega) (by show 1 ≤ 1024; omega)).mono ?_
        rintro e w1 ⟨v1, rfl, hown1, hk1⟩
        have hb1 := (hbel.alloc hws _).trans hk1.below
        have hws1 := hb1.size
        clear hcv hown hk1
        go_wp2_with fail
        refine (appendSummed_any w.heap.size _ _ r _ hown1 (by omega) (by simp [Pl.summed_length]; omega) (by omega)).mono ?_
        rintro e w2 ⟨v2, rfl, hown2, hk2⟩
        have hb2 := hb1.trans hk2.below
        clear hown1 hk2
        go_wp2_with fail
        go_roundw
        case rel =>
          refine ⟨k + 1, by go_num, by omega, fun j hj hjk => ?_, ?_, hb2⟩
          · rcases Nat.lt_or_ge j k with h' | h'
            · exact HQ.out j hj h'
            · have : j = k := by omega
              subst this
              rw [← HRL.out]; omega
          · rw [List.take_succ_eq_append_getElem hlt, Pl.log_append, Pl.log_one, Pl.frame1, ← HRL.out, ← HR.out, ← List.append_assoc]
            exact hown2
        case measure => simp [intOf]; omega
    · have hcv := run_string_own (P := Try.prog) wr Try.underlying59 Try.underlying5 Try.underlying9 hown
      go_wp2
      go_ret3
      have hkl : k = l.length := by omega
      subst hkl
      rw [List.take_length]
      refine ⟨.inl ⟨fun r hr => ?_, rfl⟩, hbel⟩
      obtain ⟨j, hj, rfl⟩ := List.mem_iff_getElem.1 hr
      exact HQ.out j hj hj
end Go.Proofs.Ytaboikhdomlbjaa
