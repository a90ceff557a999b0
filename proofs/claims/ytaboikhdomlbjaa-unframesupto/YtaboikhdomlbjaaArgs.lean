/-
  A SLICE OF STRINGS THAT CAME IN.
-/
import Derived.Test.YtaboikhdomlbjaaFrWalks
import Derived.OpenShut
namespace Go.Proofs.Ytaboikhdomlbjaa
open Go.RowKit
set_option linter.unusedVariables false

def IsStrs (w : World) (a : Option Addr) (len cap : Nat) (ss : List ByteArray) : Prop :=
  (a = none ∧ len = 0 ∧ cap = 0 ∧ ss = []) ∨
  ∃ x, a = some x ∧ len ≤ cap ∧ cap ≤ maxLen ∧ ss.length = cap ∧ (∀ i, i < ss.length → w.cell? (x.add i) = some (.string (ss.getD i ByteArray.empty))) ∧ ∀ s ∈ ss, s.size ≤ maxLen

theorem IsStrs.strs {w : World} {a : Option Addr} {len cap : Nat} {ss : List ByteArray} (h : IsStrs w a len cap ss) :
    ∃ b off, ((ss.take len).map (fun s => s.data.toList)).length = len ∧ len ≤ maxLen ∧ Strs w a b off ((ss.take len).map (fun s => s.data.toList)) := by
  rcases h with ⟨rfl, rfl, rfl, rfl⟩ | ⟨x, rfl, hl, hm, hz, hcell, _⟩
  · exact ⟨0, 0, rfl, Nat.zero_le _, fun h => by simp at h, fun j hj => by simp at hj⟩
  · have hlen : ((ss.take len).map (fun s => s.data.toList)).length = len := by simp; omega
    by_cases h0 : len = 0
    · exact ⟨0, 0, hlen, Nat.le_trans hl hm, fun h => by omega, fun j hj => by omega⟩
    · obtain ⟨b, off, spot⟩ := x
      have hspot : spot = none := by simpa [Addr.add] using World.cell?_spot (hcell 0 (by omega))
      subst hspot
      refine ⟨b, off, hlen, Nat.le_trans hl hm, fun _ => rfl, fun j hj => ?_⟩
      have hc := hcell j (by omega)
      rw [Go.WideShapes.add_plain] at hc
      rw [hc]
      have hjs : j < ss.length := by omega
      simp only [List.getElem_map, List.getElem_take, lv_data]
      simp [List.getD_eq_getElem?_getD, List.getElem?_eq_getElem hjs]
end Go.Proofs.Ytaboikhdomlbjaa
