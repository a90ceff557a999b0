/-
  ROWS THAT THE CALL OWNS, AND WHAT STAYS: a frame that composes by the kind of a block; one law for 'append' onto an owned row of one-cell elements, whatever is appended (a slice, a string, nothing).
-/
import Derived.WalkKit
import Derived.Deep.AppendSrc
import Derived.Maps.AppendAt
import Derived.Laws.IdiomStrings
namespace Go.Proofs.Ytaboikhdomlbjaa
open Go.RowKit

/-- Below block B nothing has turned; and from B on no block has turned but rows of elements of type E. -/
structure Kept (E : TypeId) (B : Nat) (w w' : World) : Prop where
  below : Below B w w'
  other : ∀ (k : Nat) (o : Obj), w.heap[k]? = some o → (∀ cur fr, o ≠ Obj.cells cur E fr) → w'.heap[k]? = some o

theorem Kept.refl (E : TypeId) (B : Nat) (w : World) : Kept E B w w := ⟨Below.refl _ _, fun _ _ h _ => h⟩
theorem Kept.trans {E : TypeId} {B : Nat} {a b c : World} (h : Kept E B a b) (k : Kept E B b c) : Kept E B a c :=
  ⟨h.below.trans k.below, fun i o hi ho => k.other i o (h.other i o hi ho) ho⟩
theorem Kept.drew {E : TypeId} {B : Nat} {a w : World} (h : Kept E B a w) : Kept E B a w.drew := ⟨h.below.drew, h.other⟩
theorem Kept.of_below {E : TypeId} {B : Nat} {w w' : World} (h : Below w.heap.size w w') (hB : B ≤ w.heap.size) : Kept E B w w' :=
  ⟨h.mono hB, fun k o hk _ => by rw [h.block k (lt_of_block hk)]; exact hk⟩
theorem Kept.alloc {E : TypeId} {B : Nat} {a w : World} (h : Kept E B a w) (hB : B ≤ w.heap.size) (o : Obj) : Kept E B a (w.alloc o) :=
  h.trans (Kept.of_below ((Below.refl _ _).alloc (Nat.le_refl _) o) hB)
theorem Kept.mono {E : TypeId} {B B' : Nat} {w w' : World} (h : Kept E B w w') (hB : B' ≤ B) : Kept E B' w w' := ⟨h.below.mono hB, h.other⟩
theorem Kept.size {E : TypeId} {B : Nat} {w w' : World} (h : Kept E B w w') : w.heap.size ≤ w'.heap.size := h.below.size

/-- What an owned row's growth leaves. -/
theorem Kept.grown {E : TypeId} {B base : Nat} {w w' : World} {v : Value} {n size : Nat} {xs : List Value} (hg : w.grownBy w' v.ownBlock) (hown : w.ownsRow base E size v n xs) (hB : B ≤ w.heap.size) (hbase : B ≤ base) : Kept E B w w' := by
  refine ⟨(Below.refl _ _).grown hg hB (fun k hk => Nat.le_trans hbase (hown.lt k hk).1), fun k o hk ho => ?_⟩
  rw [hg.block k (lt_of_block hk) (fun e => ?_)]
  · exact hk
  · rcases hown.2 with ⟨rfl, _⟩ | ⟨g, cap, cur, rfl, _, hgg, _⟩
    · simp [Value.ownBlock] at e
    · simp only [Value.ownBlock, Option.some.injEq] at e
      subst e
      rw [hgg] at hk
      exact ho cur (0, 0) (Option.some.inj hk).symm

/-- A row of another element type stays owned. -/
theorem Kept.owns {E E' : TypeId} {B base : Nat} {w w' : World} {v : Value} {n size : Nat} {xs : List Value} (h : Kept E B w w') (hne : E' ≠ E) (hown : w.ownsRow base E' size v n xs) : w'.ownsRow base E' size v n xs := by
  refine ⟨hown.1, ?_⟩
  rcases hown.2 with hn | ⟨g, cap, cur, rfl, hb, hg, r⟩
  · exact .inl hn
  · exact .inr ⟨g, cap, cur, rfl, hb, h.other _ _ hg (fun c f e => by simp at e; exact hne e.2.1), r⟩

theorem ownsRow_below {base : Nat} {E : TypeId} {w w' : World} {v : Value} {n size : Nat} {xs : List Value} (h : Below w.heap.size w w') (hown : w.ownsRow base E size v n xs) : w'.ownsRow base E size v n xs := by
  refine ⟨hown.1, ?_⟩
  rcases hown.2 with hn | ⟨g, cap, cur, rfl, hb, hg, r⟩
  · exact .inl hn
  · exact .inr ⟨g, cap, cur, rfl, hb, by rw [h.block g (lt_of_block hg)]; exact hg, r⟩

theorem hid {p : Prop} (h : p) : Hid p := h
/-- How long a string in a slot is: for a loop's measure. -/
def strLen : Value → Nat
  | .string s => s.size
  | _ => 0
/-- How long a slice in a slot is: for a loop's measure. -/
def sliceLen : Value → Nat
  | .slice _ n _ => n
  | _ => 0
/-- A byte, a string, as a cell. -/
def bv (b : UInt8) : Value := .int .u8 b.toNat
def sv (s : ByteArray) : Value := .string s
theorem byteCells_eq (s : ByteArray) : byteCells s = s.data.toList.map bv := rfl
/-- The slice value v owns a row of just these elements. -/
def Owns {α : Type} (f : α → Value) (E : TypeId) (base : Nat) (w : World) (v : Value) (l : List α) : Prop := w.ownsRow base E 1 v l.length (l.map f)
section
variable {α : Type} {f : α → Value} {E : TypeId} {base : Nat} {w w' : World} {v : Value} {l : List α}
theorem Owns.nil (f : α → Value) (E : TypeId) (base : Nat) (w : World) : Owns f E base w (.slice none 0 0) [] := World.ownsRow_nil w base E 1
theorem Owns.alloc (h : Owns f E base w v l) (o : Obj) : Owns f E base (w.alloc o) v l := World.ownsRow.alloc h o
theorem Owns.drew (h : Owns f E base w v l) : Owns f E base w.drew v l := h
theorem Owns.below (h : Owns f E base w v l) (hb : Below w.heap.size w w') : Owns f E base w' v l := ownsRow_below hb h
theorem Owns.kept {E' : TypeId} {B : Nat} (h : Owns f E base w v l) (hk : Kept E' B w w') (hne : E ≠ E') : Owns f E base w' v l := hk.owns hne h
theorem Owns.shape (h : Owns f E base w v l) : ∃ a c, v = .slice a l.length c := by
  rcases h.2 with ⟨rfl, h0⟩ | ⟨g, cap, cur, rfl, _⟩
  · exact ⟨none, 0, by rw [h0]⟩
  · exact ⟨_, _, rfl⟩
theorem Owns.mono (h : Owns f E base w v l) {base' : Nat} (hb : base' ≤ base) : Owns f E base' w v l := by
  refine ⟨h.1, ?_⟩
  rcases h.2 with h' | ⟨g, cap, cur, h1, h2, r⟩
  · exact .inl h'
  · exact .inr ⟨g, cap, cur, h1, Nat.le_trans hb h2, r⟩
end

section
variable {P : Program} (w : World)

theorem run_append_src (base : Nat) (t tx ty e : TypeId) (i : TypeInfo) (z : Value) (bytes : Nat) (ht : P.underlying t = some (.slice e)) (hi : P.info? e = some i) (hz : i.zero = some z)
    (hsize : i.size = 1) (hby : i.bytes = bytes) (hzs : z.cells.size = 1)
    (v : Value) (n : Nat) (xs : List Value) (hown : w.ownsRow base e 1 v n xs)
    (x : Value) (m : Nat) (news : List Value) (hs : Src P 1 tx x m news w)
    (h63 : n + m ≤ maxLen) (hbytes : (n + m) * bytes ≤ 140737488355328) (hbase : base ≤ w.heap.size) :
    ∃ v' w', (Builtin.append_ #[t, tx] ty #[v, x]).run P w = .ok v' w' ∧ w'.ownsRow base e 1 v' (n + m) (xs ++ news) ∧ w.grownBy w' v.ownBlock := by
  subst hby
  have hxl : xs.length = n := by simpa using hown.1
  have hnl : news.length = m := by simpa using hs.newsLen
  have hsmall : ((n + m : Nat) : Int) ≤ 9223372036854775807 := by simp only [maxLen] at h63; omega
  have hs' : Src P i.size tx x m news w := by rw [hsize]; exact hs
  have fresh : ∀ (old : Nat) (row : Option Nat), old < n + m →
      (w.drew.alloc (.cells ((xs ++ news).toArray ++ Builtin.zeroCells z.cells (grownCap w (n + m) old e - (n + m))) e)).ownsRow base e 1 (.slice (some ⟨w.heap.size, 0, none⟩) (n + m) (grownCap w (n + m) old e)) (n + m) (xs ++ news) ∧
      w.grownBy (w.drew.alloc (.cells ((xs ++ news).toArray ++ Builtin.zeroCells z.cells (grownCap w (n + m) old e - (n + m))) e)) row := by
    intro old row _
    have hge := grownCap_ge w (n + m) old e
    refine ⟨⟨by simp [hxl, hnl], .inr ⟨w.heap.size, _, _, rfl, hbase, heap_alloc_new w.drew _, hge, grownCap_le_maxLen w (n + m) old e h63, ?_, ?_⟩⟩, ⟨rfl, rfl, rfl, by simp, fun k hk _ => Below.heap_alloc w.drew _ k hk⟩⟩
    · simp only [Array.size_append, List.size_toArray, List.length_append, size_zeroCells, hzs, hxl, hnl]
      omega
    · rw [Nat.mul_one, Array.toList_append, List.take_append_of_le_length (by simp [hxl, hnl]), List.take_of_length_le (by simp [hxl, hnl])]
  rcases hown.2 with ⟨rfl, rfl⟩ | ⟨g, cap, cur, rfl, hbg, hg, hnc, hcm, hcs, htake⟩
  · have hx : xs = [] := List.eq_nil_of_length_eq_zero hxl
    subst hx
    by_cases hm : m = 0
    · subst hm
      have hn : news = [] := List.eq_nil_of_length_eq_zero hnl
      subst hn
      refine ⟨.slice none 0 0, w, ?_, World.ownsRow_nil w base e 1, ⟨rfl, rfl, rfl, Nat.le_refl _, fun _ _ _ => rfl⟩⟩
      rcases hs.kind with ⟨e', hk⟩ | hk <;> simp [Builtin.append_, run_underlying ht, run_underlying hk, sizeOf, typeInfo, hi, hs'.len, hs'.cells]
    · have hold : (Builtin.firstCells i.size 0 (.slice none 0 0)).run P w.drew = .ok ([] : List Value).toArray w.drew := run_firstCells_none w.drew i.size 0 0 0
      have hr := run_append_grow_src (P := P) w t tx ty e i z ht hi hz none 0 0 [] hold x m news hs' (by omega) (by simpa using hsmall) (growslice_fits (by omega) hbytes)
      have hf := fresh 0 (Value.ownBlock (.slice none 0 0)) (by omega)
      exact ⟨_, _, hr, hf.1, hf.2⟩
  · by_cases hroom : n + m ≤ cap
    · have hfit : n * i.size + 0 + news.length ≤ cur.size := by rw [hsize, hnl, hcs]; omega
      have hst := run_storeCells_at P g (n * i.size) e news 0 cur w hg hfit hs.one
      simp only [Nat.add_zero] at hst
      refine ⟨.slice (some ⟨g, 0, none⟩) (n + m) cap, w.setRow g (cur.toList.take (n * i.size) ++ news ++ cur.toList.drop (n * i.size + news.length)).toArray, ?_, ⟨by simp [hxl, hnl], .inr ⟨g, cap, _, rfl, hbg, setRow_heap w g cur _ e _ hg, hroom, hcm, ?_, ?_⟩⟩,
        ⟨rfl, rfl, rfl, by simp, fun k _ hk => setRow_other w g k _ (fun e => hk (by simp [Value.ownBlock, e]))⟩⟩
      · rcases hs.kind with ⟨e', hk⟩ | hk <;> simp [Builtin.append_, run_underlying ht, run_underlying hk, sizeOf, typeInfo, hi, hs'.len, hroom, hs'.cells, Addr.add_lit, hst]
      · simp only [List.size_toArray, List.length_append, List.length_take, List.length_drop, Array.length_toList]
        rw [hsize]; omega
      · rw [hsize, htake]
        rw [List.take_append_of_le_length (by simp [hxl, hnl]), List.take_of_length_le (by simp [hxl, hnl])]
    · have holds : ∀ j u, xs[j]? = some u → w.drew.cell? ((⟨g, 0, none⟩ : Addr).add j) = some u := by simpa using hown.cells (g := g) rfl
      have hold : (Builtin.firstCells i.size n (.slice (some ⟨g, 0, none⟩) n cap)).run P w.drew = .ok xs.toArray w.drew := run_firstCells_some w.drew i.size n ⟨g, 0, none⟩ n cap xs (by rw [hsize, hxl, Nat.mul_one]) holds
      have hr := run_append_grow_src (P := P) w t tx ty e i z ht hi hz (some ⟨g, 0, none⟩) n cap xs hold x m news hs' (by omega) hsmall (growslice_fits (by omega) hbytes)
      have hf := fresh cap (Value.ownBlock (.slice (some ⟨g, 0, none⟩) n cap)) (by omega)
      exact ⟨_, _, hr, hf.1, hf.2⟩

/-- 'append' onto an owned row, whatever is appended. -/
theorem wpList_append_src {α : Type} {f : α → Value} {ops : Array Oper} {rest : List Oper} {o : Oper} {a : Act} {Q : Exit → Act → World → Prop} (hgd : o.guard = none) (s x : Operand) (t tx : TypeId)
    (ho : o.op = .call { callee := .builtin .append, args := #[s, x], argTypes := #[t, tx] })
    (base : Nat) (e : TypeId) (i : TypeInfo) (z : Value) (bytes : Nat) (ht : P.underlying t = some (.slice e)) (hi : P.info? e = some i) (hz : i.zero = some z)
    (hsize : i.size = 1) (hby : i.bytes = bytes) (hzs : z.cells.size = 1)
    (v : Value) (l : List α) (hs : a.eval s = v) (hown : Owns f e base w v l)
    (xv : Value) (new : List α) (hx : a.eval x = xv) (hsrc : Src P 1 tx xv new.length (new.map f) w)
    (hbytes : (l.length + new.length) * 16 ≤ 140737488355328) (hb16 : bytes ≤ 16) (hbase : base ≤ w.heap.size)
    (h : ∀ v' w', Owns f e base w' v' (l ++ new) → Kept e base w w' → wpList P ops Q rest (a.put o.dst v') w') : wpList P ops Q (o :: rest) a w := by
  refine wpList_plain hgd fun K hK' => ?_
  have h1 : (l.length + new.length) * bytes ≤ (l.length + new.length) * 16 := Nat.mul_le_mul_left _ hb16
  obtain ⟨v', w', hr, h2, h3⟩ := run_append_src (P := P) w base t tx o.type e i z bytes ht hi hz hsize hby hzs v _ _ hown xv _ _ hsrc (by unfold maxLen; omega) (by omega) hbase
  unfold Oper.wp
  simp [execOp, ho, resolve, invoke, builtin, hs, hx, hr, Result.andThen]
  refine hK' _ _ (h v' w' ?_ (Kept.grown h3 hown hbase (Nat.le_refl _)))
  unfold Owns
  rw [List.length_append, List.map_append]
  exact h2

/-- 'string(b)', b a row of bytes that is owned (or nil). -/
theorem run_string_own {base : Nat} {src dst e : TypeId} (hsrc : P.underlying src = some (.slice e)) (he : P.underlying e = some (.int .u8)) (hd : P.underlying dst = some .string)
    {v : Value} {l : List UInt8} (hown : Owns bv e base w v l) : (convert src dst v).run P w = .ok (.string ⟨l.toArray⟩) w := by
  rcases hown.2 with ⟨rfl, hl⟩ | ⟨g, cap, cur, rfl, hb, hg, hnc, hcm, hcs, htake⟩
  · have : l = [] := List.eq_nil_of_length_eq_zero hl
    subst this
    rw [run_convert_bytes_string w src dst e none 0 0 hsrc he hd]
    simp [Conv.bytesToString, Sem.run_pure]
    rfl
  · refine run_convert_bytes_back w src dst e ⟨g, 0, none⟩ cap l hsrc he hd (fun j hj => ?_)
    exact World.ownsRow.cells hown (g := g) rfl j (.int .u8 l[j].toNat) (by simp [bv, hj])
/-- one element, laid in a block of its own -/
theorem src_one {α : Type} {f : α → Value} {tx e e' : TypeId} {w : World} {x : Value} {c : α} (hk : P.underlying tx = some (.slice e')) (hx : x = f c) (h1 : x.oneCell' = true) : Src P 1 tx (.slice (some ⟨w.heap.size, 0, none⟩) 1 1) [c].length ([c].map f) (w.alloc (.cells #[x] e)) := by
  subst hx
  exact Src.ofSlice (w.alloc (.cells #[f c] e)) hk ⟨w.heap.size, 0, none⟩ 1 1 [f c] rfl (cell_one_new w _ e) (fun u hu => by simp at hu; subst hu; exact h1)
/-- the bytes of a string -/
theorem src_string {tx : TypeId} {s : ByteArray} (hk : P.underlying tx = some .string) : Src P 1 tx (.string s) s.data.toList.length (s.data.toList.map bv) w := by
  have := Src.ofString (P := P) w hk s
  rwa [byteCells_eq, show s.size = s.data.toList.length from by simp] at this
end
end Go.Proofs.Ytaboikhdomlbjaa
