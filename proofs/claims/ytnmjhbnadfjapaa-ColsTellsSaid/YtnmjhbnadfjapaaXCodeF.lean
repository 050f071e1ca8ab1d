/-
  ARGUMENTS that a law looks at as far as their shape: one cell, or a row of cells. No program is named here.
-/
import Derived.Test.YtnmjhbnadfjapaaXCodeE
namespace GoX
open Go

theorem ok_cell {P : Program} {w : World} {r : Reach} {base : Nat} {t : TypeId} {v : Value} (h : Cell.okWide P w r base t v) : v.oneCell' = true := by
  cases v <;> first | rfl | skip
  all_goals
    exfalso
    unfold Cell.okWide at h
    split at h
    all_goals first | (cases ‹Value.agg _ = _›; done) | (cases ‹Value.tuple _ = _›; done) | skip
    all_goals
      unfold Cell.ok at h
      split at h
      all_goals first | exact h | (cases ‹Value.agg _ = _›; done) | (cases ‹Value.tuple _ = _›; done) | skip

/-- An argument of one cell. -/
theorem arg_cell {P : Program} {w : World} {r : Reach} {base : Nat} {t : TypeId} {v : Value} (hs : (match P.underlying t with | some (.struct _) | some (.array _ _) => false | _ => true) = true) (h : Value.okWide P w r base t v) :
    v.oneCell' = true := by
  unfold Value.okWide at h
  split at h
  · rename_i hu; rw [hu] at hs; cases hs
  · rename_i hu; rw [hu] at hs; cases hs
  · exact ok_cell h

/-- A struct: a row of n cells. -/
theorem arg_agg {P : Program} {w : World} {r : Reach} {base : Nat} {t : TypeId} {v : Value} {n : Nat} (hs : (match P.underlying t with | some (.struct _) | some (.array _ _) => true | _ => false) = true) (hn : P.cellsOf t = n)
    (h : Value.okWide P w r base t v) : ∃ l : List Value, l.length = n ∧ v = .agg l.toArray ∧ ∀ x ∈ l, x.oneCell' = true := by
  have key : (∃ cs, v = .agg cs ∧ cs.size = P.cellsOf t ∧ Row.okWide P w r base t cs) → ∃ l : List Value, l.length = n ∧ v = .agg l.toArray ∧ ∀ x ∈ l, x.oneCell' = true := by
    rintro ⟨cs, rfl, hsz, ts, _, _, hall⟩
    refine ⟨cs.toList, by simpa using hsz.trans hn, by simp, fun x hx => ?_⟩
    obtain ⟨i, hi⟩ := List.mem_iff_getElem?.1 hx
    obtain ⟨u, _, hu⟩ := hall i x (by simpa using hi)
    exact ok_cell hu
  unfold Value.okWide at h
  split at h
  · exact key h
  · exact key h
  · rename_i h1 h2
    exfalso
    revert hs
    cases hp : P.underlying t with
    | none => simp
    | some d => cases d <;> simp_all

theorem concs_opq {φ : Phi} : ∀ {l : List Value}, (∀ x ∈ l, x.oneCell' = true) → concs φ (l.map AV.opq) = some l
  | [], _ => rfl
  | x :: l, h => concs_cons_mk (by simp [conc, h x (by simp)]) (concs_opq fun y hy => h y (by simp [hy]))
theorem conc_opqs {φ : Phi} {l : List Value} (h : ∀ x ∈ l, x.oneCell' = true) : conc φ (.agg (l.map AV.opq)) = some (.agg l.toArray) := by
  simp [conc, concs_opq h]
end GoX
