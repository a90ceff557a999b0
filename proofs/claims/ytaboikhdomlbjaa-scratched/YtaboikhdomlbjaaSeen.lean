/-
  THE MAP THAT Squeeze KEEPS: what is known of it.
-/
import Derived.Test.YtaboikhdomlbjaaOwn
import Derived.Test.YtaboikhdomlbjaaSq
import Derived.Maps.OwnSet
import Derived.Maps.OwnOps
import Derived.Maps.Views
namespace Go.Proofs.Ytaboikhdomlbjaa
open Go.RowKit Go.Maps
set_option linter.unusedVariables false

/-- Each entry is a place behind which its four bytes lie; where all bytes are the same the four are in it once a place has been looked at. -/
structure Seen (data : List UInt8) (a : Nat) (D : DataW Unit) : Prop where
  map : IsMap D
  at_ : ∀ kl, Maps.has D kl = true → ∃ v : Nat, (∀ z, D.atKey kl z = .lit (.int .i64 v)) ∧ v < a ∧ v + 4 ≤ data.length ∧ kl = .string ((data.drop v).take 4)
  all : Pl.same data → 0 < a → 4 ≤ data.length → Maps.has D (.string (data.take 4)) = true

theorem Seen.start (data : List UInt8) : Seen data 0 (.map []) :=
  ⟨⟨[], rfl⟩, fun kl h => by simp [Maps.has] at h, fun _ h => by omega⟩
theorem Seen.mono {data : List UInt8} {a b : Nat} {D : DataW Unit} (h : Seen data a D) (ha : 0 < a) (hab : a ≤ b) : Seen data b D :=
  ⟨h.map, fun kl hk => by obtain ⟨v, h1, h2, h3, h4⟩ := h.at_ kl hk; exact ⟨v, h1, by omega, h3, h4⟩, fun hs _ h4 => h.all hs ha h4⟩
theorem same_head {data : List UInt8} {a : Nat} (hs : Pl.same data) (h4 : a + 4 ≤ data.length) : (data.drop a).take 4 = data.take 4 := by
  apply List.ext_getElem
  · simp; omega
  · intro i h1 h2
    simp only [List.length_take, List.length_drop] at h1 h2
    have := hs (a + i) i (by omega) (by omega)
    simp only [List.getD_eq_getElem?_getD] at this
    rw [List.getElem?_eq_getElem (by omega), List.getElem?_eq_getElem (by omega)] at this
    simpa using this
theorem Seen.put {data : List UInt8} {a : Nat} {D : DataW Unit} (h : Seen data a D) (h4 : a + 4 ≤ data.length) : Seen data (a + 1) (D.put (.string ((data.drop a).take 4)) (.lit (.int .i64 a))) := by
  have hk : WideAt.IsKeyLit (.string ((data.drop a).take 4)) := trivial
  refine ⟨h.map.put _ _, fun kl hh => ?_, fun hs _ _ => ?_⟩
  · by_cases e : kl = .string ((data.drop a).take 4)
    · subst e
      exact ⟨a, fun z => atKey_put_same h.map hk _ z, by omega, h4, rfl⟩
    · rw [has_put_other e] at hh
      obtain ⟨v, h1, h2, h3, h5⟩ := h.at_ kl hh
      exact ⟨v, fun z => by rw [atKey_put_other e]; exact h1 z, by omega, h3, h5⟩
  · rw [same_head hs h4]
    rw [same_head hs h4] at hk
    exact has_put_same h.map hk _

theorem map_kept {H : Type} {P : Program} {k : TypeId} {R : Value → Option (DataW H × List MemPlace)} {b n : Nat} {D : DataW H} {E : TypeId} {B : Nat} {w w' : World} (h : w.ownsMap P k R b n D) (hk : Kept E B w w') : w'.ownsMap P k R b n D := by
  obtain ⟨es, clock, hb, F, hs, hD⟩ := h
  exact ⟨es, clock, hk.other _ _ hb (fun c f e => by cases e), F, hs, hD⟩
theorem owns_beside_map {H : Type} {P : Program} {k : TypeId} {R : Value → Option (DataW H × List MemPlace)} {b n : Nat} {D : DataW H} {α : Type} {f : α → Value} {E : TypeId} {base : Nat} {w w' : World} {v : Value} {l : List α}
    (h : Owns f E base w v l) (hm : w.ownsMap P k R b n D) (hg : w.grownBy w' (some b)) : Owns f E base w' v l := by
  refine World.ownsRow.kept h hg ?_
  rcases h.2 with ⟨rfl, _⟩ | ⟨g, cap, cur, rfl, _, hgg, _⟩
  · exact .inl rfl
  · refine .inr (fun e => ?_)
    simp only [Value.ownBlock, Option.some.injEq] at e
    subst e
    obtain ⟨es, clock, hb, _⟩ := hm
    rw [hb] at hgg
    cases hgg
end Go.Proofs.Ytaboikhdomlbjaa
