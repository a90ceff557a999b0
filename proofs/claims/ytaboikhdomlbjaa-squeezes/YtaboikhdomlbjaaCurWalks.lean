/-
  THE CURSOR: what is known of it, and the walks of need, left, take, number.
-/
import Derived.Test.YtaboikhdomlbjaaSqWalks
namespace Go.Proofs.Ytaboikhdomlbjaa
open Go.RowKit
set_option linter.unusedVariables false

/-- What a cursor panics with. -/
def bad : List PanicEntry := [{ v := .iface 9 (.string ⟨#[116, 104, 101, 32, 98, 121, 116, 101, 115, 32, 101, 110, 100, 32, 116, 111, 111, 32, 101, 97, 114, 108, 121, 32, 111, 114, 32, 109, 97, 107, 101, 32, 110, 111, 32, 115, 101, 110, 115, 101]⟩), recovered := false }]

/-- Below block number B no block but b has turned. -/
structure Turned (B b : Nat) (w w' : World) : Prop where
  os : w'.os = w.os
  tape : w'.tape = w.tape
  output : w'.output = w.output
  size : w.heap.size ≤ w'.heap.size
  block : ∀ k : Nat, k < B → k ≠ b → w'.heap[k]? = w.heap[k]?
theorem Turned.refl (B b : Nat) (w : World) : Turned B b w w := ⟨rfl, rfl, rfl, Nat.le_refl _, fun _ _ _ => rfl⟩
theorem Turned.trans {B b : Nat} {x y z : World} (h : Turned B b x y) (k : Turned B b y z) : Turned B b x z :=
  ⟨k.os.trans h.os, k.tape.trans h.tape, k.output.trans h.output, Nat.le_trans h.size k.size, fun i hi hb => (k.block i hi hb).trans (h.block i hi hb)⟩
theorem Turned.of_below {B b : Nat} {w w' : World} (h : Below B w w') : Turned B b w w' := ⟨h.os, h.tape, h.output, h.size, fun k hk _ => h.block k hk⟩
theorem Turned.of_grown {B b : Nat} {w w' : World} (h : w.grownBy w' (some b)) (hB : B ≤ w.heap.size) : Turned B b w w' :=
  ⟨h.os, h.tape, h.output, h.size, fun k hk hb => h.block k (by omega) (fun e => hb (Option.some.inj e))⟩
theorem Turned.mono {B B' b : Nat} {w w' : World} (h : Turned B b w w') (hB : B' ≤ B) : Turned B' b w w' := ⟨h.os, h.tape, h.output, h.size, fun k hk hb => h.block k (by omega) hb⟩
theorem grown_drewN (w : World) (n : Nat) (row : Option Nat) : w.grownBy (w.drewN n) row := ⟨rfl, rfl, rfl, Nat.le_refl _, fun _ _ _ => rfl⟩
theorem grown_setCell (w : World) (b o : Nat) (u : Value) : w.grownBy (w.setCell ⟨b, o, none⟩ u) (some b) :=
  ⟨rfl, rfl, rfl, by simp, fun k _ hk => Below.heap_setCell _ _ _ _ (fun e => hk (by rw [e]))⟩
theorem grown_below {w w' : World} (h : Below w.heap.size w w') (row : Option Nat) : w.grownBy w' row := ⟨h.os, h.tape, h.output, h.size, fun k hk _ => h.block k hk⟩

/-- The cursor in block b reads that text, and stands there. -/
structure Cur (w : World) (b : Nat) (text : ByteArray) (p : Nat) : Prop where
  cells : w.heap[b]? = some (.cells #[.string text, .int .i64 p] 66 (0, 0))
  le : p ≤ text.size
theorem Cur.text {w : World} {b : Nat} {t : ByteArray} {p : Nat} (h : Cur w b t p) : w.cell? ⟨b, 0, none⟩ = some (.string t) := by simp [World.cell?, h.cells]
theorem Cur.pos {w : World} {b : Nat} {t : ByteArray} {p : Nat} (h : Cur w b t p) : w.cell? ⟨b, 1, none⟩ = some (.int .i64 p) := by simp [World.cell?, h.cells]
theorem Cur.free {w : World} {b : Nat} {t : ByteArray} {p : Nat} (h : Cur w b t p) (o : Nat) : w.frozen? ⟨b, o, none⟩ = false := by simp [World.frozen?, h.cells]
theorem Cur.kept {w w' : World} {b : Nat} {t : ByteArray} {p : Nat} (h : Cur w b t p) (hk : w'.heap[b]? = w.heap[b]?) : Cur w' b t p := ⟨by rw [hk]; exact h.cells, h.le⟩
theorem Cur.lt {w : World} {b : Nat} {t : ByteArray} {p : Nat} (h : Cur w b t p) : b < w.heap.size := lt_of_block h.cells
theorem Cur.moved {w : World} {b : Nat} {t : ByteArray} {p q : Nat} (h : Cur w b t p) (hq : q ≤ t.size) : Cur (w.setCell ⟨b, 1, none⟩ (.int .i64 q)) b t q := by
  refine ⟨?_, hq⟩
  have := heap_setCell_same w b 1 #[.string t, .int .i64 p] 66 (.int .i64 q) h.cells
  rw [this]
  simp
/-- A row of bytes, beside the cursor's block. -/
theorem Owns.beside {α : Type} {f : α → Value} {E : TypeId} {base : Nat} {w w' : World} {v : Value} {l : List α} (h : Owns f E base w v l) {b : Nat} {t : ByteArray} {p : Nat} (hc : Cur w b t p) (hE : E ≠ 66) (hg : w.grownBy w' (some b)) : Owns f E base w' v l := by
  refine World.ownsRow.kept h hg ?_
  rcases h.2 with ⟨rfl, _⟩ | ⟨g, cap, cur, rfl, _, hgg, _⟩
  · exact .inl rfl
  · refine .inr (fun e => ?_)
    simp only [Value.ownBlock, Option.some.injEq] at e
    subst e
    rw [hc.cells] at hgg
    simp only [Option.some.injEq, Obj.cells.injEq] at hgg
    exact hE hgg.2.1.symm
theorem Cur.under {w w' : World} {b : Nat} {t : ByteArray} {p : Nat} (h : Cur w b t p) {E : TypeId} {B : Nat} (hk : Kept E B w w') (hE : E ≠ 66) : Cur w' b t p :=
  ⟨hk.other _ _ h.cells (fun c f e => by simp only [Obj.cells.injEq] at e; exact hE e.2.1.symm), h.le⟩

theorem need_yes (x : Value) (w : World) : Calls Try.prog 34 #[x, .bool true] w fun e w' => e = .returned (.tuple #[]) ∧ w' = w := by
  go_enter Try.func34, Try.ntmps34
  go_wp2
  go_end0
  exact ⟨rfl, rfl⟩
theorem need_no (x : Value) (w : World) : Calls Try.prog 34 #[x, .bool false] w fun e w' => e = .panicked bad ∧ w' = w := by
  go_enter Try.func34, Try.ntmps34
  go_wp2
  exact ⟨rfl, rfl, rfl⟩
theorem left_any (b : Nat) (t : ByteArray) (p : Nat) (w : World) (hc : Cur w b t p) (ht : t.size ≤ maxLen) :
    Calls Try.prog 36 #[.pointer (some ⟨b, 0, none⟩)] w fun e w' => e = .returned (.int .i64 (t.size - p : Nat)) ∧ ∃ n, w' = w.drewN n := by
  unfold maxLen at ht
  have h1 := hc.text
  have h2 := hc.pos
  have h3 := hc.le
  have hw : IntKind.i64.wrap ((t.size : Int) - p) = ((t.size - p : Nat) : Int) := by
    simp [IntKind.wrap, IntKind.bits, IntKind.signed]; omega
  go_enter Try.func36, Try.ntmps36
  go_wp2
  go_quiet (fail)
  go_wp2
  go_ret
  exact ⟨rfl, nq, rfl⟩

set_option maxRecDepth 100000 in
set_option maxHeartbeats 400000 in
theorem take_no (b : Nat) (t : ByteArray) (p n : Nat) (w : World) (hc : Cur w b t p) (ht : t.size ≤ maxLen) (hn : t.size < p + n) :
    Calls Try.prog 49 #[.pointer (some ⟨b, 0, none⟩), .int .i64 n] w fun e w' => e = .panicked bad ∧ ∃ m, w' = w.drewN m := by
  have h3 := hc.le
  have g0 : (0 : Int) ≤ n := by omega
  have g1 : decide (n ≤ t.size - p) = false := by simp; omega
  go_enter Try.func49, Try.ntmps49
  go_wp2_with (first | (go_at_call 36; refine (left_any b t p _ hc ht).mono ?_; rintro e w' ⟨rfl, m, rfl⟩) | (go_at_call 34; refine (need_no _ _).mono ?_; rintro e w' ⟨rfl, rfl⟩))
  exact ⟨rfl, rfl, m, rfl⟩

set_option maxRecDepth 100000 in
set_option maxHeartbeats 400000 in
theorem take_yes (b : Nat) (t : ByteArray) (p n : Nat) (w : World) (hc : Cur w b t p) (ht : t.size ≤ maxLen) (hn : p + n ≤ t.size) :
    Calls Try.prog 49 #[.pointer (some ⟨b, 0, none⟩), .int .i64 n] w fun e w' => e = .returned (.string (t.extract p (p + n))) ∧ Cur w' b t (p + n) ∧ w.grownBy w' (some b) := by
  have h1 := hc.text
  have h2 := hc.pos
  have h3 := hc.le
  have h4 := hc.free 1
  have g0 : (0 : Int) ≤ n := by omega
  have g1 : decide (n ≤ t.size - p) = true := by simp; omega
  go_enter Try.func49, Try.ntmps49
  unfold maxLen at ht
  go_wp2_with (first | (go_at_call 36; refine (left_any b t p _ hc ht).mono ?_; rintro e w' ⟨rfl, m, rfl⟩) | (go_at_call 34; refine (need_yes _ _).mono ?_; rintro e w' ⟨rfl, rfl⟩))
  have hw : IntKind.i64.wrap (p : Int) = p := by simp [IntKind.wrap, IntKind.bits, IntKind.signed]; omega
  have hw2 : IntKind.i64.wrap ((p : Int) + n - n) = p := by simp [IntKind.wrap, IntKind.bits, IntKind.signed]; omega
  go_quiet (fail)
  go_wp2
  go_ret
  rw [show ((p : Int) + n) = ((p + n : Nat) : Int) from by omega]
  exact ⟨rfl, (Cur.moved (w := w.drewN m) ⟨hc.cells, hc.le⟩ hn).kept rfl, ((grown_drewN w m _).trans (grown_setCell _ b 1 _)).trans (grown_drewN _ nq _)⟩

theorem bytes_world (w : World) (s : ByteArray) (cap : Nat) {E : TypeId} :
    Below w.heap.size w (w.alloc (Obj.cells (bytesRow s cap) E ((bytesRow s cap).size, (bytesRow s cap).size + 1))).drew ∧
    ∀ k, k < s.size → (w.alloc (Obj.cells (bytesRow s cap) E ((bytesRow s cap).size, (bytesRow s cap).size + 1))).drew.cell? ⟨w.heap.size, k, none⟩ = some (.int .u8 (s.data.toList.getD k 0).toNat) := by
  refine ⟨((Below.refl _ _).alloc (Nat.le_refl _) _).drew, fun k hk => ?_⟩
  show (w.alloc _).cell? _ = _
  rw [World.cell?_alloc_mark, bytesRow_at s cap k hk]
  simp only [List.getD_eq_getElem?_getD]
  rw [List.getElem?_eq_getElem (by simpa using hk)]
  rfl

theorem i64_or_nat (a b : Nat) (ha : a < 4294967296) (hb : b < 4294967296) : bits .or .i64 (a : Int) (b : Int) = ((a ||| b : Nat) : Int) := by
  have hx : a ||| b < 2 ^ 32 := Nat.or_lt_two_pow ha hb
  show IntKind.i64.wrap ((BitVec.ofInt 64 (a : Int) ||| BitVec.ofInt 64 (b : Int)).toNat : Int) = _
  rw [BitVec.toNat_or, ofInt_u64 a (by omega), ofInt_u64 b (by omega)]
  generalize a ||| b = x at *
  simp [IntKind.wrap, IntKind.bits, IntKind.signed]; omega
theorem or_low (x c k : Nat) (hx : x < 2 ^ (8 * k)) (hc : c < 2 ^ 8) (hk : k < 4) : bits .or .i64 (x : Int) (wrap64 ((c : Int) * 2 ^ (8 * k))) = ((x + 2 ^ (8 * k) * c : Nat) : Int) := by
  have hp : 2 ^ (8 * k) ≤ 16777216 := by
    have : 8 * k ≤ 24 := by omega
    exact Nat.pow_le_pow_right (by omega) this
  have hm : 2 ^ (8 * k) * c < 4294967296 := by
    have := Nat.mul_le_mul hp (show c ≤ 255 by omega)
    omega
  have e : (c : Int) * 2 ^ (8 * k) = ((2 ^ (8 * k) * c : Nat) : Int) := by
    rw [Int.natCast_mul, Int.mul_comm]; simp
  rw [e, IntWalk.wrap64_in _ ⟨by omega, by omega⟩, i64_or_nat x _ (by omega) hm]
  rw [Nat.or_comm, nat_join (8 * k) _ _ (Nat.mul_mod_right _ _) hx]
  omega

theorem number_no (b : Nat) (t : ByteArray) (p n : Nat) (w : World) (hc : Cur w b t p) (ht : t.size ≤ maxLen) (hn : t.size < p + n) :
    Calls Try.prog 33 #[.pointer (some ⟨b, 0, none⟩), .int .i64 n] w fun e w' => e = .panicked bad ∧ ∃ m, w' = w.drewN m := by
  go_enter Try.func33, Try.ntmps33
  go_wp2_with (go_at_call 49; refine (take_no b t p n _ hc ht hn).mono ?_; rintro e w' ⟨rfl, m, rfl⟩)
  exact ⟨rfl, rfl, m, rfl⟩

set_option maxRecDepth 100000 in
set_option maxHeartbeats 400000 in
theorem number_yes (b : Nat) (t : ByteArray) (p n : Nat) (w : World) (hc : Cur w b t p) (ht : t.size ≤ maxLen) (hn : p + n ≤ t.size) (h4 : n ≤ 4) :
    Calls Try.prog 33 #[.pointer (some ⟨b, 0, none⟩), .int .i64 n] w fun e w' => e = .returned (.int .i64 (Pl.ofle ((t.data.toList.drop p).take n) : Nat)) ∧ Cur w' b t (p + n) ∧ w.grownBy w' (some b) := by
  have hcv := fun (w : World) => run_bytes_of_string (P := Try.prog) w 9 59 5 (t.extract p (p + n)) Try.underlying9 Try.underlying59 Try.underlying5
  go_enter Try.func33, Try.ntmps33
  go_wp2_with (go_at_call 49; refine (take_yes b t p n _ hc ht hn).mono ?_; rintro e w1 ⟨rfl, hc1, hg1⟩)
  obtain ⟨hb2, hcell⟩ := bytes_world w1 (t.extract p (p + n)) (grownCap w1 n 0 5)
  generalize ((w1.alloc (Obj.cells (bytesRow (t.extract p (p + n)) (grownCap w1 n 0 5)) 5 ((bytesRow (t.extract p (p + n)) (grownCap w1 n 0 5)).size, (bytesRow (t.extract p (p + n)) (grownCap w1 n 0 5)).size + 1))).drew) = w2 at *
  have hc2 : Cur w2 b t (p + n) := hc1.kept (hb2.block b hc1.lt)
  have hg2 := hg1.trans (grown_below hb2 (some b))
  have HX := hid (show (t.extract p (p + n)).data.toList = (t.data.toList.drop p).take n by rw [Lib.extract_data]; congr 1; omega)
  have hxl : ((t.data.toList.drop p).take n).length = n := by
    have : t.data.toList.length = t.size := by simp
    rw [List.length_take, List.length_drop]; omega
  have hxs : (t.extract p (p + n)).size = n := by simp; omega
  rw [HX.out, hxs] at hcell
  generalize hB : (t.data.toList.drop p).take n = B at *
  have HB := hid hB
  clear hcv hb2 hg1 hc1 hc
  have HC := hid hcell
  have HXL := hid hxl
  clear hcell hxl hxs hB
  go_loop [5, 13] (fun x i => ∃ k : Nat, k ≤ n ∧ i = .int .i64 k ∧ x = .int .i64 (Pl.ofle (B.take k) : Nat)) (fun _ i => n - (intOf i).toNat)
  case atStart => exact ⟨0, Nat.zero_le _, rfl, rfl⟩
  case round =>
    obtain ⟨k, hk, rfl, rfl⟩ := hrel
    by_cases hlt : k < n
    · have hce := HC.out k hlt
      have hlow := Pl.ofle_lt (B.take k)
      have HN : Hid (Pl.ofle (B.take (k + 1)) = Pl.ofle (B.take k) + 2 ^ (8 * k) * (B.getD k 0).toNat) := by
        have hkB : k < B.length := by rw [HXL.out]; exact hlt
        rw [List.take_succ_eq_append_getElem hkB, Pl.ofle_snoc]
        simp [Hid, List.getD_eq_getElem?_getD, List.getElem?_eq_getElem hkB, Nat.min_eq_left (Nat.le_of_lt hkB)]
      have hb8 := (B.getD k 0).toNat_lt
      rw [List.length_take, HXL.out, Nat.min_eq_left hk] at hlow
      generalize Pl.ofle (B.take k) = x at *
      generalize (B.getD k 0).toNat = c at *
      go_wp2
      go_roundw
      case rel => exact ⟨k + 1, by omega, by go_num, by rw [HN.out, or_low x c k hlow hb8 (by omega)]⟩
      case measure => simp [intOf]; omega
    · go_wp2
      go_ret
      have : k = n := by omega
      subst this
      rw [List.take_of_length_le (by rw [HXL.out]; exact Nat.le_refl _), HB.out]
      exact ⟨rfl, hc2, hg2⟩
end Go.Proofs.Ytaboikhdomlbjaa
