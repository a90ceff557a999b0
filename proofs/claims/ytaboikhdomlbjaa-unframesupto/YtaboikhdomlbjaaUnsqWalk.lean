/-
  THE WALK of Unsqueeze: a cursor that gives up by panic, caught in a deferred function.
-/
import Derived.Test.YtaboikhdomlbjaaPartWalk
import Derived.Defers
import Derived.Recover
import Derived.Laws.Pointers
namespace Go.Proofs.Ytaboikhdomlbjaa
open Go.RowKit
set_option linter.unusedVariables false

theorem catch_panicking (p q : Addr) (x y : Value) (u : TypeId) (pv : Value) (older : List PanicEntry) (w : World) (hp : w.cell? p = some x) (hpz : w.frozen? p = false) (hq : w.cell? q = some y) (hqz : w.frozen? q = false) (hne : p.block ≠ q.block) :
    CallsD Try.prog 32 #[.pointer (some p), .pointer (some q)] (.panicking ({ v := .iface u pv, recovered := false } :: older)) w fun e u' w' =>
      e = .returned (.tuple #[]) ∧ u' = .panicking ({ v := .iface u pv, recovered := true } :: older) ∧ w' = (w.setCell p (.string ⟨#[]⟩)).setCell q (.int .i64 5) := by
  refine callsD_of_wpS Try.func32 rfl fun c₀ cs hu => ?_
  apply wpS_seq
  apply wpS_region
  simp [wpOpsS, go_sem, recoverD, hu, Try.ntmps32, Exit.thenS]
  refine wpS_cond (t := true) (by simp [Act.eval, Array.replicate]) ?_
  simp only [if_true]
  apply wpS_region
  have hq' : (w.setCell p (.string ⟨#[]⟩)).cell? q = some y := by
    rw [World.cell?_of_block (Below.heap_setCell w p _ q.block (fun e => hne e.symm))]; exact hq
  simp [wpOpsS, go_sem, hp, hpz, hq', hqz, bodyPostS, results, Try.results32]

theorem catch_idle (p q : Addr) (w : World) :
    CallsD Try.prog 32 #[.pointer (some p), .pointer (some q)] .returning w fun e u' w' => e = .returned (.tuple #[]) ∧ u' = .returning ∧ w' = w := by
  refine callsD_of_wpS Try.func32 rfl fun c₀ cs hu => ?_
  apply wpS_seq
  apply wpS_region
  simp [wpOpsS, go_sem, recoverD, hu, Try.ntmps32, Exit.thenS]
  refine wpS_cond (t := false) (by simp [Act.eval, Array.replicate]) ?_
  simp only [Bool.false_eq_true, if_false]
  refine wpS_of_wp (wp_skip ?_)
  cases c₀
  simp_all [bodyPostS, results, Try.results32]

/-- The call's own blocks: the two results, the cursor. -/
structure Ready (w0 : World) (N : Nat) (t : ByteArray) (p : Nat) (w : World) : Prop where
  c0 : w.heap[N]? = some (.cells #[.string ⟨#[]⟩] 9 (0, 0))
  c1 : w.heap[N + 1]? = some (.cells #[.int .i64 0] 24 (0, 0))
  cur : Cur w (N + 1 + 1) t p
  below : Below N w0 w
  size : N + 3 ≤ w.heap.size
theorem Ready.start (w : World) (t : ByteArray) : Ready w w.heap.size t 0 (((w.alloc (Obj.cells #[Value.string ⟨#[]⟩] 9)).alloc (Obj.cells #[Value.int IntKind.i64 0] 24)).alloc (Obj.cells #[Value.string t, Value.int IntKind.i64 0] 66)) := by
  have h1 : (w.alloc (Obj.cells #[Value.string ⟨#[]⟩] 9)).heap.size = w.heap.size + 1 := by simp
  have h2 : ((w.alloc (Obj.cells #[Value.string ⟨#[]⟩] 9)).alloc (Obj.cells #[Value.int IntKind.i64 0] 24)).heap.size = w.heap.size + 1 + 1 := by simp
  refine ⟨?_, ?_, ⟨?_, Nat.zero_le _⟩, (((Below.refl _ _).alloc (Nat.le_refl _) _).alloc (by omega) _).alloc (by omega) _, by simp⟩
  · rw [Below.heap_alloc _ _ _ (by omega), Below.heap_alloc _ _ _ (by omega)]
    exact heap_alloc_new w _
  · rw [Below.heap_alloc _ _ _ (by omega), ← h1]
    exact heap_alloc_new _ _
  · rw [← h2]
    exact heap_alloc_new _ _
theorem Ready.step {w0 w w' : World} {N : Nat} {t : ByteArray} {p q : Nat} (h : Ready w0 N t p w) (hT : Turned (N + 3) (N + 1 + 1) w w') (hc : Cur w' (N + 1 + 1) t q) : Ready w0 N t q w' :=
  ⟨by rw [hT.block N (by omega) (by omega)]; exact h.c0, by rw [hT.block (N + 1) (by omega) (by omega)]; exact h.c1, hc, h.below.trans ⟨hT.os, hT.tape, hT.output, hT.size, fun k hk => hT.block k (by omega) (by omega)⟩, Nat.le_trans h.size hT.size⟩
/-- What is left of the blocks where the text is given up. -/
structure Given (w0 : World) (N : Nat) (w : World) : Prop where
  c0 : w.heap[N]? = some (.cells #[.string ⟨#[]⟩] 9 (0, 0))
  c1 : w.heap[N + 1]? = some (.cells #[.int .i64 0] 24 (0, 0))
  below : Below N w0 w
theorem Ready.give {w0 w w' : World} {N : Nat} {t : ByteArray} {p : Nat} (h : Ready w0 N t p w) (hT : Turned (N + 3) (N + 1 + 1) w w') : Given w0 N w' :=
  ⟨by rw [hT.block N (by omega) (by omega)]; exact h.c0, by rw [hT.block (N + 1) (by omega) (by omega)]; exact h.c1, h.below.trans ⟨hT.os, hT.tape, hT.output, hT.size, fun k hk => hT.block k (by omega) (by omega)⟩⟩
/-- The two results, laid. -/
theorem Given.laid {w0 w : World} {N : Nat} (h : Given w0 N w) (x y : Value) :
    ((w.setCell ⟨N, 0, none⟩ x).setCell ⟨N + 1, 0, none⟩ y).cell? ⟨N, 0, none⟩ = some x ∧ ((w.setCell ⟨N, 0, none⟩ x).setCell ⟨N + 1, 0, none⟩ y).cell? ⟨N + 1, 0, none⟩ = some y ∧ Below N w0 ((w.setCell ⟨N, 0, none⟩ x).setCell ⟨N + 1, 0, none⟩ y) := by
  have h1 := one_setCell (u := x) h.c0
  have h2 : (w.setCell ⟨N, 0, none⟩ x).heap[N + 1]? = _ := (Below.heap_setCell w ⟨N, 0, none⟩ x (N + 1) (by simp)).trans h.c1
  have h3 := one_setCell (u := y) h2
  refine ⟨?_, cell_of_one h3, (h.below.setCell (by simp) _).setCell (by simp) _⟩
  rw [World.cell?_of_block (w := w.setCell ⟨N, 0, none⟩ x) (Below.heap_setCell _ _ _ _ (by simp))]
  exact cell_of_one h1

/-- The door, where the body panics. -/
theorem door_bad {w0 W : World} {N : Nat} (hg : Given w0 N W) (tmps : Array Value) (h4 : tmps[4]?.getD undef = .pointer (some ⟨N, 0, none⟩)) (h5 : tmps[5]?.getD undef = .pointer (some ⟨N + 1, 0, none⟩)) (Q : Ending → World → Prop)
    (hQ : ∀ W', Below N w0 W' → Q (.returned (.tuple #[.string ⟨#[]⟩, .int .i64 5])) W') :
    Leaves Try.prog Try.f16 tmps Q [{ target := Target.fn (Fn.func 32) #[.pointer (some ⟨N, 0, none⟩), .pointer (some ⟨N + 1, 0, none⟩)], args := #[] }] (.panicking bad) W := by
  refine leaves_cons (f := 32) (args := #[.pointer (some ⟨N, 0, none⟩), .pointer (some ⟨N + 1, 0, none⟩)]) (by simp) (by simp [go_sem]) ?_
  refine (catch_panicking ⟨N, 0, none⟩ ⟨N + 1, 0, none⟩ _ _ 9 _ [] _ (cell_of_one hg.c0) (free_of_one hg.c0) (cell_of_one hg.c1) (free_of_one hg.c1) (by simp)).mono ?_
  rintro e u' w'' ⟨rfl, rfl, rfl⟩
  have hl := hg.laid (.string ⟨#[]⟩) (.int .i64 5)
  have hq := hQ _ hl.2.2
  generalize (W.setCell ⟨N, 0, none⟩ (.string ⟨#[]⟩)).setCell ⟨N + 1, 0, none⟩ (.int .i64 5) = W' at hl hq ⊢
  obtain ⟨hl1, hl2, _⟩ := hl
  simp [Leaves, settle, results, Try.results16, go_sem, h4, h5, hl1, hl2]
  exact hq

/-- The door, where the body returns. -/
theorem door_ok {W : World} {N : Nat} {x y : Value} (h0 : W.cell? ⟨N, 0, none⟩ = some x) (h1 : W.cell? ⟨N + 1, 0, none⟩ = some y) (tmps : Array Value) (h4 : tmps[4]?.getD undef = .pointer (some ⟨N, 0, none⟩)) (h5 : tmps[5]?.getD undef = .pointer (some ⟨N + 1, 0, none⟩)) (Q : Ending → World → Prop)
    (hQ : Q (.returned (.tuple #[x, y])) W) :
    Leaves Try.prog Try.f16 tmps Q [{ target := Target.fn (Fn.func 32) #[.pointer (some ⟨N, 0, none⟩), .pointer (some ⟨N + 1, 0, none⟩)], args := #[] }] .returning W := by
  refine leaves_cons (f := 32) (args := #[.pointer (some ⟨N, 0, none⟩), .pointer (some ⟨N + 1, 0, none⟩)]) (by simp) (by simp [go_sem]) ?_
  refine (catch_idle ⟨N, 0, none⟩ ⟨N + 1, 0, none⟩ _).mono ?_
  rintro e u' w'' ⟨rfl, rfl, rfl⟩
  simp [Leaves, settle, results, Try.results16, go_sem, h4, h5, h0, h1]
  exact hQ

set_option maxRecDepth 100000 in
set_option maxHeartbeats 800000 in
theorem unsq_any (t : ByteArray) (most : Int) (w : World) (ht : t.size ≤ maxLen) :
    Calls Try.prog 16 #[.string t, .int .i64 most] w fun e w' =>
      ((Pl.unsq t.data.toList most = none ∧ e = .returned (.tuple #[.string ⟨#[]⟩, .int .i64 5])) ∨ ∃ d, Pl.unsq t.data.toList most = some d ∧ e = .returned (.tuple #[.string ⟨d.toArray⟩, .int .i64 0])) ∧ Below w.heap.size w w' := by
  have hmf : ∀ (fn : Fn) (first cap : Array Value) (w : World), (Instr.makeFunc fn first cap).run Try.prog w = .ok (.func fn first cap) w := fun _ _ _ _ => rfl
  have hlen : t.data.toList.length = t.size := by simp
  have HLEN := hid hlen
  clear hlen
  have hr0 := Ready.start w t
  by_cases h2 : t.size < 2
  · have hn : Pl.unsq t.data.toList most = none := by unfold Pl.unsq; rw [if_pos (by rw [HLEN.out]; exact h2)]
    have HN := hid hn
    clear hn
    go_enter_defers Try.func16, Try.ntmps16
    go_wp2_with fail
    refine (number_no _ t 0 2 _ hr0.cur ht (by omega)).mono ?_
    rintro e w1 ⟨rfl, m, rfl⟩
    exact door_bad (hr0.give (Turned.of_grown (grown_drewN _ m _) hr0.size)) _ rfl rfl _ (fun W' hb => ⟨.inl ⟨HN.out, rfl⟩, hb⟩)
  · obtain ⟨size, hsz⟩ : ∃ n, n = Pl.ofle ((t.data.toList.drop 0).take 2) := ⟨_, rfl⟩
    have hu : Pl.unsq t.data.toList most = if size ≤ 1024 ∧ (size : Int) ≤ most then Pl.parts size (t.data.toList.drop 2, []) size else none := by
      unfold Pl.unsq; rw [if_neg (by rw [HLEN.out]; exact h2), hsz]; simp
    have hs16 : size < 65536 := by
      rw [hsz]; have := Pl.ofle_lt ((t.data.toList.drop 0).take 2)
      have h16 : ((t.data.toList.drop 0).take 2).length ≤ 2 := by simp; omega
      have hp : 2 ^ (8 * ((t.data.toList.drop 0).take 2).length) ≤ 2 ^ 16 := Nat.pow_le_pow_right (by omega) (by omega)
      omega
    have HS := hid hsz
    have HU := hid hu
    clear hsz hu
    by_cases hfit : size ≤ 1024 ∧ (size : Int) ≤ most
    · obtain ⟨hs1, hs2⟩ := hfit
      have g1 : (size : Int) ≤ 1024 := by omega
      have g2 : decide ((size : Int) ≤ most) = true := by simp; omega
      go_enter_defers Try.func16, Try.ntmps16
      go_wp2_with fail
      refine (number_yes _ t 0 2 _ hr0.cur ht (by omega) (by omega)).mono ?_
      rintro e w1 ⟨rfl, hc1, hg1⟩
      rw [← HS.out]
      have hr1 := hr0.step (Turned.of_grown hg1 hr0.size) hc1
      clear hr0 hg1 hc1
      go_wp2_with fail
      refine (need_yes _ _).mono ?_
      rintro e w2 ⟨rfl, rfl⟩
      go_wp2_with fail
      go_loopw [8] (fun x wr => ∃ (p f : Nat) (out : List UInt8), Owns bv 5 (w.heap.size + 3) wr x out ∧ Ready w w.heap.size t p wr ∧ out.length ≤ size + 131 ∧ size ≤ out.length + f ∧ Pl.parts f (t.data.toList.drop p, out) size = Pl.unsq t.data.toList most) (fun x _ => size - sliceLen x)
      case atStart => exact ⟨0 + 2, size, [], Owns.nil _ _ _ _, hr1, by simp, by simp, by rw [HU.out, if_pos ⟨hs1, hs2⟩]⟩
      case round =>
        obtain ⟨p, f, out, hown, hr, hol, hf, hpe⟩ := hrel
        have HP := hid hpe
        clear hpe hr1
        obtain ⟨va, vc, hx⟩ := hown.shape
        rw [hx] at hown ⊢
        by_cases hlt : out.length < size
        · go_wp2_with fail
          refine (part_any hr.cur ht hown hr.size (by omega) (by omega)).mono ?_
          rintro e w3 (⟨hpn, rfl, hT⟩ | ⟨q, out', v', hps, rfl, hown', hc', hT⟩)
          · refine door_bad (hr.give hT) _ rfl rfl _ (fun W' hb => ⟨.inl ⟨?_, rfl⟩, hb⟩)
            rw [← HP.out, Pl.parts_step hlt hf, hpn]; rfl
          · have hr' := hr.step hT hc'
            have hg := Pl.part_grows hps
            have hbo := Pl.part_bound hps
            have HP' := hid (show Pl.parts (f - 1) (t.data.toList.drop q, out') size = Pl.unsq t.data.toList most by rw [← HP.out, Pl.parts_step (x := (t.data.toList.drop p, out)) hlt hf, hps]; rfl)
            obtain ⟨va', vc', hx'⟩ := hown'.shape
            clear hr hown hps hT hc'
            go_wp2_with fail
            go_roundw
            case rel => exact ⟨q, f - 1, out', hx' ▸ hown', hr', by omega, by omega, HP'.out⟩
            case measure => simp only [sliceLen]; omega
        · have HE := hid (Pl.parts_end (f := f) (x := (t.data.toList.drop p, out)) hlt)
          by_cases he : out.length = size
          · have g3 : ((out.length : Int) == (size : Int)) = true := by simp [he]
            have hcle := hr.cur.le
            by_cases hp : t.size - p = 0
            · have g4 : (((t.size - p : Nat) : Int) == 0) = true := by simp [hp]
              have hsome : Pl.unsq t.data.toList most = some out := by
                rw [← HP.out, HE.out, if_pos ⟨he, List.drop_eq_nil_of_le (by rw [HLEN.out]; omega)⟩]
              have HSM := hid hsome
              clear hsome he hp
              go_wp2_with fail
              refine (left_any _ t p _ hr.cur ht).mono ?_
              rintro e w3 ⟨rfl, m, rfl⟩
              go_wp2_with fail
              refine (need_yes _ _).mono ?_
              rintro e w4 ⟨rfl, rfl⟩
              have hcv := run_string_own (P := Try.prog) (wr.drewN m) Try.underlying59 Try.underlying5 Try.underlying9 (hown.below (below_drewN (Below.refl _ _) m))
              have hgv := hr.give (Turned.of_grown (grown_drewN _ m _) hr.size)
              have c0 := cell_of_one hgv.c0
              have c1 := cell_of_one hgv.c1
              have f0 := free_of_one hgv.c0
              have f1 := free_of_one hgv.c1
              have hl := hgv.laid (.string ⟨out.toArray⟩) (.int .i64 0)
              have HLD := hid hl
              clear hl hr hown
              go_wp2
              exact door_ok HLD.out.1 HLD.out.2.1 _ rfl rfl _ ⟨.inr ⟨out, HSM.out, rfl⟩, HLD.out.2.2⟩
            · have g4 : (((t.size - p : Nat) : Int) == 0) = false := by simp; omega
              have hnn : Pl.unsq t.data.toList most = none := by
                rw [← HP.out, HE.out, if_neg (fun h => by have := congrArg List.length h.2; simp [HLEN.out] at this; omega)]
              have HNN := hid hnn
              clear hnn he hp
              go_wp2_with fail
              refine (left_any _ t p _ hr.cur ht).mono ?_
              rintro e w3 ⟨rfl, m, rfl⟩
              go_wp2_with fail
              refine (need_no _ _).mono ?_
              rintro e w4 ⟨rfl, rfl⟩
              exact door_bad (hr.give (Turned.of_grown (grown_drewN _ m _) hr.size)) _ rfl rfl _ (fun W' hb => ⟨.inl ⟨HNN.out, rfl⟩, hb⟩)
          · have hnn : Pl.unsq t.data.toList most = none := by
              rw [← HP.out, HE.out, if_neg (fun h => he h.1)]
            have HNN := hid hnn
            have g3 : ((out.length : Int) == (size : Int)) = false := by simp; omega
            clear hnn
            go_wp2_with fail
            refine (need_no _ _).mono ?_
            rintro e w3 ⟨rfl, rfl⟩
            exact door_bad (hr.give (Turned.refl _ _ _)) _ rfl rfl _ (fun W' hb => ⟨.inl ⟨HNN.out, rfl⟩, hb⟩)
    · have hn : Pl.unsq t.data.toList most = none := by rw [HU.out, if_neg hfit]
      have HN := hid hn
      clear hn
      by_cases hs1 : size ≤ 1024
      · have g1 : (size : Int) ≤ 1024 := by omega
        have g2 : decide ((size : Int) ≤ most) = false := by simp; omega
        go_enter_defers Try.func16, Try.ntmps16
        go_wp2_with fail
        refine (number_yes _ t 0 2 _ hr0.cur ht (by omega) (by omega)).mono ?_
        rintro e w1 ⟨rfl, hc1, hg1⟩
        rw [← HS.out]
        have hr1 := hr0.step (Turned.of_grown hg1 hr0.size) hc1
        clear hr0 hg1 hc1
        go_wp2_with fail
        refine (need_no _ _).mono ?_
        rintro e w2 ⟨rfl, rfl⟩
        exact door_bad (hr1.give (Turned.refl _ _ _)) _ rfl rfl _ (fun W' hb => ⟨.inl ⟨HN.out, rfl⟩, hb⟩)
      · have g1 : decide ((size : Int) ≤ 1024) = false := by simp; omega
        go_enter_defers Try.func16, Try.ntmps16
        go_wp2_with fail
        refine (number_yes _ t 0 2 _ hr0.cur ht (by omega) (by omega)).mono ?_
        rintro e w1 ⟨rfl, hc1, hg1⟩
        rw [← HS.out]
        have hr1 := hr0.step (Turned.of_grown hg1 hr0.size) hc1
        clear hr0 hg1 hc1
        go_wp2_with fail
        refine (need_no _ _).mono ?_
        rintro e w2 ⟨rfl, rfl⟩
        exact door_bad (hr1.give (Turned.refl _ _ _)) _ rfl rfl _ (fun W' hb => ⟨.inl ⟨HN.out, rfl⟩, hb⟩)
end Go.Proofs.Ytaboikhdomlbjaa
