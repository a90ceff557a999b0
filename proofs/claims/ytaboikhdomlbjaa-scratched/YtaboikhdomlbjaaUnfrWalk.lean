/-
  THE WALK of Unframe: a cursor that gives up by panic, caught in a deferred function.
-/
import Derived.Test.YtaboikhdomlbjaaRecWalks
import Derived.Defers
import Derived.Recover
import Derived.Laws.Pointers
namespace Go.Proofs.Ytaboikhdomlbjaa
open Go.RowKit
set_option linter.unusedVariables false

theorem Try.info9 : (Try.prog.info? 9).map (fun i => (i.zero, i.size, i.bytes)) = some (some (.string ⟨#[]⟩), 1, 16) := by kernel_rfl

theorem whole_panicking (p : Addr) (x : Value) (u : TypeId) (pv : Value) (older : List PanicEntry) (w : World) (hp : w.cell? p = some x) (hpz : w.frozen? p = false) :
    CallsD Try.prog 38 #[.pointer (some p)] (.panicking ({ v := .iface u pv, recovered := false } :: older)) w fun e u' w' =>
      e = .returned (.tuple #[]) ∧ u' = .panicking ({ v := .iface u pv, recovered := true } :: older) ∧ w' = w.setCell p (.bool false) := by
  refine callsD_of_wpS Try.func38 rfl fun c₀ cs hu => ?_
  apply wpS_seq
  apply wpS_region
  simp [wpOpsS, go_sem, recoverD, hu, Try.ntmps38, Exit.thenS]
  refine wpS_cond (t := true) (by simp [Act.eval, Array.replicate]) ?_
  simp only [if_true]
  apply wpS_region
  simp [wpOpsS, go_sem, hp, hpz, bodyPostS, results, Try.results38]
theorem whole_idle (p : Addr) (w : World) :
    CallsD Try.prog 38 #[.pointer (some p)] .returning w fun e u' w' => e = .returned (.tuple #[]) ∧ u' = .returning ∧ w' = w := by
  refine callsD_of_wpS Try.func38 rfl fun c₀ cs hu => ?_
  apply wpS_seq
  apply wpS_region
  simp [wpOpsS, go_sem, recoverD, hu, Try.ntmps38, Exit.thenS]
  refine wpS_cond (t := false) (by simp [Act.eval, Array.replicate]) ?_
  simp only [Bool.false_eq_true, if_false]
  refine wpS_of_wp (wp_skip ?_)
  cases c₀
  simp_all [bodyPostS, results, Try.results38]

theorem Owns.setBelow {α : Type} {f : α → Value} {E : TypeId} {base : Nat} {w : World} {v : Value} {l : List α} (h : Owns f E base w v l) {a : Addr} (ha : a.block < base) (u : Value) : Owns f E base (w.setCell a u) v l := ownsRow_setCell_below h ha u

/-- The call's own blocks: the result, the cursor. -/
structure Reads (w0 : World) (N : Nat) (t : ByteArray) (p : Nat) (w : World) : Prop where
  c0 : w.heap[N]? = some (.cells #[.bool false] 4 (0, 0))
  cur : Cur w (N + 1) t p
  below : Below N w0 w
  size : N + 2 ≤ w.heap.size
theorem Reads.start (w : World) (t : ByteArray) : Reads w w.heap.size t 0 ((w.alloc (Obj.cells #[Value.bool false] 4)).alloc (Obj.cells #[Value.string t, Value.int IntKind.i64 0] 66)) := by
  have h1 : (w.alloc (Obj.cells #[Value.bool false] 4)).heap.size = w.heap.size + 1 := by simp
  refine ⟨?_, ⟨?_, Nat.zero_le _⟩, ((Below.refl _ _).alloc (Nat.le_refl _) _).alloc (by omega) _, by simp⟩
  · rw [Below.heap_alloc _ _ _ (by omega)]
    exact heap_alloc_new w _
  · rw [← h1]
    exact heap_alloc_new _ _
theorem Reads.step {w0 w w' : World} {N : Nat} {t : ByteArray} {p q : Nat} (h : Reads w0 N t p w) (hT : Turned (N + 2) (N + 1) w w') (hc : Cur w' (N + 1) t q) : Reads w0 N t q w' :=
  ⟨by rw [hT.block N (by omega) (by omega)]; exact h.c0, hc, h.below.trans ⟨hT.os, hT.tape, hT.output, hT.size, fun k hk => hT.block k (by omega) (by omega)⟩, Nat.le_trans h.size hT.size⟩

/-- The door, where the body panics. -/
theorem rdoor_bad {W : World} {N : Nat} (h0 : W.heap[N]? = some (.cells #[.bool false] 4 (0, 0))) (tmps : Array Value) {x : Value} (h2 : tmps[2]?.getD undef = x) (h3 : tmps[3]?.getD undef = .pointer (some ⟨N, 0, none⟩)) (Q : Ending → World → Prop)
    (hQ : Q (.returned (.tuple #[x, .bool false])) (W.setCell ⟨N, 0, none⟩ (.bool false))) :
    Leaves Try.prog Try.f20 tmps Q [{ target := Target.fn (Fn.func 38) #[.pointer (some ⟨N, 0, none⟩)], args := #[] }] (.panicking bad) W := by
  refine leaves_cons (f := 38) (args := #[.pointer (some ⟨N, 0, none⟩)]) (by simp) (by simp [go_sem]) ?_
  refine (whole_panicking ⟨N, 0, none⟩ _ 9 _ [] _ (cell_of_one h0) (free_of_one h0)).mono ?_
  rintro e u' w'' ⟨rfl, rfl, rfl⟩
  have hl := cell_of_one (one_setCell (u := .bool false) h0)
  generalize W.setCell ⟨N, 0, none⟩ (.bool false) = W' at hl hQ ⊢
  simp [Leaves, settle, results, Try.results20, go_sem, h2, h3, hl]
  exact hQ
/-- The door, where the body returns. -/
theorem rdoor_ok {W : World} {N : Nat} {y : Value} (h0 : W.cell? ⟨N, 0, none⟩ = some y) (tmps : Array Value) {x : Value} (h2 : tmps[2]?.getD undef = x) (h3 : tmps[3]?.getD undef = .pointer (some ⟨N, 0, none⟩)) (Q : Ending → World → Prop)
    (hQ : Q (.returned (.tuple #[x, y])) W) :
    Leaves Try.prog Try.f20 tmps Q [{ target := Target.fn (Fn.func 38) #[.pointer (some ⟨N, 0, none⟩)], args := #[] }] .returning W := by
  refine leaves_cons (f := 38) (args := #[.pointer (some ⟨N, 0, none⟩)]) (by simp) (by simp [go_sem]) ?_
  refine (whole_idle ⟨N, 0, none⟩ _).mono ?_
  rintro e u' w'' ⟨rfl, rfl, rfl⟩
  simp [Leaves, settle, results, Try.results20, go_sem, h2, h3, h0]
  exact hQ

theorem records_step {f : Nat} {t : List UInt8} (h : t.length ≠ 0) (hf : t.length < f) : Pl.records f t = match Pl.record t with | none => ([], false) | some (r, rest) => (r :: (Pl.records (f - 1) rest).1, (Pl.records (f - 1) rest).2) := by
  cases f with
  | zero => omega
  | succ f => simp only [Pl.records]; rw [if_neg h]; rfl
theorem records_nil {f : Nat} (hf : 0 < f) : Pl.records f [] = ([], true) := by
  cases f with
  | zero => omega
  | succ f => rfl

set_option maxRecDepth 100000 in
set_option maxHeartbeats 800000 in
theorem unframe_any (t : ByteArray) (w : World) (ht : t.size ≤ 1000000000000) :
    Calls Try.prog 20 #[.string t] w fun e w' => ∃ v, e = .returned (.tuple #[v, .bool (Pl.records (t.size + 1) t.data.toList).2]) ∧ Owns lv 9 w.heap.size w' v (Pl.records (t.size + 1) t.data.toList).1 ∧ Below w.heap.size w w' := by
  have hmf : ∀ (fn : Fn) (first cap : Array Value) (w : World), (Instr.makeFunc fn first cap).run Try.prog w = .ok (.func fn first cap) w := fun _ _ _ _ => rfl
  have HLEN := hid (show t.data.toList.length = t.size by simp)
  obtain ⟨i0, hi, hz0, hz1, hz2⟩ := info_parts Try.info9
  have htm : t.size ≤ maxLen := by unfold maxLen; omega
  have hr0 := Reads.start w t
  obtain ⟨R, hR⟩ : ∃ R, R = Pl.records (t.size + 1) t.data.toList := ⟨_, rfl⟩
  rw [← hR]
  have HR := hid hR
  clear hR
  go_enter_defers Try.func20, Try.ntmps20
  go_wp2_with fail
  go_loopw [2] (fun x wr => ∃ (p f : Nat) (acc : List (List UInt8)), Owns lv 9 (w.heap.size + 2) wr x acc ∧ Reads w w.heap.size t p wr ∧ 9 * acc.length ≤ p ∧ t.size - p < f ∧ R = (acc ++ (Pl.records f (t.data.toList.drop p)).1, (Pl.records f (t.data.toList.drop p)).2)) (fun x _ => t.size - sliceLen x)
  case atStart => exact ⟨0, t.size + 1, [], Owns.nil _ _ _ _, hr0, by simp, by omega, by rw [HR.out]; rfl⟩
  case round =>
    obtain ⟨p, f, acc, hown, hr, hacc, hf, hRe⟩ := hrel
    have HRE := hid hRe
    clear hRe hr0
    obtain ⟨va, vc, hx⟩ := hown.shape
    rw [hx] at hown ⊢
    have hcle := hr.cur.le
    have hdl : (t.data.toList.drop p).length = t.size - p := by rw [List.length_drop, HLEN.out]
    by_cases hp : p < t.size
    · have g : (0 : Int) < ((t.size - p : Nat) : Int) := by omega
      have HST := hid (records_step (f := f) (t := t.data.toList.drop p) (by omega) (by omega))
      clear hdl
      go_wp2_with fail
      refine (left_any _ t p _ hr.cur htm).mono ?_
      rintro e w1 ⟨rfl, m, rfl⟩
      have hT1 := Turned.of_grown (B := w.heap.size + 2) (b := w.heap.size + 1) (grown_drewN wr m _) hr.size
      have hr1 := hr.step hT1 (hr.cur.kept rfl)
      have hown1 := hown.below (below_drewN (Below.refl _ wr) m)
      clear hr hown hT1
      go_wp2_with fail
      refine (record_any hr1.cur htm).mono ?_
      rintro e w2 ⟨⟨hn, rfl⟩ | ⟨r, q, hs, rfl, hc2⟩, hg2⟩
      · have hown2 := hown1.beside hr1.cur (by decide) hg2
        have hT2 := Turned.of_grown (B := w.heap.size + 2) hg2 hr1.size
        have hc0 : w2.heap[w.heap.size]? = some (.cells #[.bool false] 4 (0, 0)) := by rw [hT2.block _ (by omega) (by omega)]; exact hr1.c0
        have hb2 : Below w.heap.size w w2 := hr1.below.trans ⟨hT2.os, hT2.tape, hT2.output, hT2.size, fun k hk => hT2.block k (by omega) (by omega)⟩
        refine rdoor_bad hc0 _ (x := .slice va acc.length vc) rfl rfl _ ⟨.slice va acc.length vc, ?_, ?_, hb2.setCell (by simp) _⟩
        · rw [HRE.out, HST.out, hn]
        · rw [HRE.out, HST.out, hn]
          simp only [List.append_nil]
          exact (hown2.setBelow (a := ⟨w.heap.size, 0, none⟩) (by simp) _).mono (by omega)
      · have hown2 := hown1.beside hr1.cur (by decide) hg2
        have hr2 := hr1.step (Turned.of_grown hg2 hr1.size) hc2
        have hsh := Pl.record_shorter hs
        rw [List.length_drop, List.length_drop, HLEN.out] at hsh
        have hRE2 := HRE.out
        rw [HST.out, hs] at hRE2
        have HRE2 := hid hRE2
        have hc2le := hc2.le
        have hsz2 := hr2.size
        clear hRE2 hown1 hr1 hg2 hs hc2
        go_wp2_with (at_builtin; refine wpList_append_src (f := lv) _ rfl _ _ 31 31 rfl (w.heap.size + 2) 9 i0 (.string ⟨#[]⟩) 16 Try.underlying31 hi hz0 hz1 hz2 rfl _ _ rfl (hown2.alloc _) _ [r.data.toList] rfl (src_one (f := lv) Try.underlying31 rfl rfl) (by simp; omega) (by decide) (by simp; omega) ?_; intro v3 w3 hown3 hk3)
        have hk3' := ((Kept.refl 9 (w.heap.size + 2) w2).alloc hsz2 _).trans hk3
        have hr3 := hr2.step (Turned.of_below hk3'.below) (hr2.cur.kept (hk3'.below.block _ (by omega)))
        obtain ⟨va', vc', hx'⟩ := hown3.shape
        clear hown2 hr2 hk3 hk3'
        go_wp2_with fail
        go_roundw
        case rel => exact ⟨q, f - 1, acc ++ [r.data.toList], hown3, hr3, by rw [List.length_append]; show 9 * (acc.length + 1) ≤ q; omega, by omega, by rw [HRE2.out]; simp⟩
        case measure => rw [hx']; simp only [sliceLen, List.length_append, List.length_singleton]; omega
    · have g : ¬ (0 : Int) < ((t.size - p : Nat) : Int) := by omega
      have hnil : t.data.toList.drop p = [] := List.drop_eq_nil_of_le (by rw [HLEN.out]; omega)
      have hfin : R = (acc, true) := by rw [HRE.out, hnil, records_nil (by omega)]; simp
      have HFIN := hid hfin
      clear hfin hnil hdl
      go_wp2_with fail
      refine (left_any _ t p _ hr.cur htm).mono ?_
      rintro e w1 ⟨rfl, m, rfl⟩
      have c0 : (wr.drewN m).heap[w.heap.size]? = some (.cells #[.bool false] 4 (0, 0)) := hr.c0
      have c1 := cell_of_one c0
      have f1 := free_of_one c0
      have hl := cell_of_one (one_setCell (u := .bool true) c0)
      have HL := hid hl
      clear hl
      go_wp2
      refine rdoor_ok HL.out _ (x := .slice va acc.length vc) rfl rfl _ ⟨.slice va acc.length vc, ?_, ?_, (below_drewN hr.below m).setCell (by simp) _⟩
      · rw [HFIN.out]
      · rw [HFIN.out]
        exact ((hown.below (below_drewN (Below.refl _ wr) m)).setBelow (a := ⟨w.heap.size, 0, none⟩) (by simp) _).mono (by omega)
end Go.Proofs.Ytaboikhdomlbjaa
