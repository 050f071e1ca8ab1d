/-
  SIGNS OF CODES: the program's and the reference's, by contract.
-/
import Derived.Test.YtfjhiaafabmpbaaDoorRows1
namespace Go.Proofs.YtfjhiaafabmpbaaDoor
open Go.ChangeShapes Go.WideShapes Go.ChangeAt Go.RowKit

/-- The signs, by code. -/
def sgn : Nat → ByteArray
  | 1 => ⟨#[61]⟩
  | 2 => ⟨#[60, 62]⟩
  | 3 => ⟨#[60]⟩
  | 4 => ⟨#[60, 61]⟩
  | 5 => ⟨#[62]⟩
  | 6 => ⟨#[62, 61]⟩
  | _ => ⟨#[]⟩
def signV (o : Int) : ByteArray := if o < 1 ∨ 6 < o then ⟨#[]⟩ else sgn o.toNat
set_option maxHeartbeats 800000 in
theorem vsign_c (o : Int) (w : World) (hsig : ∀ k, k ≤ 6 → w.cell? ⟨0, k, none⟩ = some (.string (sgn k))) :
    Calls Tryd.prog 9 #[.int .i64 o] w fun e w' => e = .returned (.string (signV o)) ∧ Below w.heap.size w w' := by
  by_cases h2 : o < 1
  · rw [show signV o = ⟨#[]⟩ by simp [signV, h2]]
    go_enter Tryd.func9, Tryd.ntmps9
    go_wp2
    go_ret
    exact ⟨rfl, Below.refl _ _⟩
  by_cases h3 : 6 < o
  · rw [show signV o = ⟨#[]⟩ by simp [signV, h3]]
    go_enter Tryd.func9, Tryd.ntmps9
    go_wp2
    go_ret
    exact ⟨rfl, Below.refl _ _⟩
  obtain ⟨k, hk, hk1, hk2⟩ : ∃ k : Nat, o = (k : Int) ∧ 1 ≤ k ∧ k ≤ 6 := ⟨o.toNat, by omega, by omega, by omega⟩
  have hc := hsig k hk2
  have e : signV o = sgn k := by subst hk; simp [signV, h2, h3]
  rw [e]
  clear e hsig
  subst hk
  generalize sgn k = t at *
  go_enter Tryd.func9, Tryd.ntmps9
  go_wp2
  go_ret
  exact ⟨rfl, Below.refl _ _⟩
theorem sgn_at (k : Nat) (hk : k < 6) : ([Value.string ⟨#[61]⟩, .string ⟨#[60, 62]⟩, .string ⟨#[60]⟩, .string ⟨#[60, 61]⟩, .string ⟨#[62]⟩, .string ⟨#[62, 61]⟩] : List Value)[k]? = some (.string (sgn (k + 1))) := by
  rcases k with _ | _ | _ | _ | _ | _ | k <;> first | rfl | omega
set_option maxHeartbeats 800000 in
theorem rvsign_c (o : Int) (w : World) : Calls Tryd.prog 10 #[.int .i64 o] w fun e w' => e = .returned (.string (signV o)) ∧ Below w.heap.size w w' := by
  by_cases h2 : o < 1
  · rw [show signV o = ⟨#[]⟩ by simp [signV, h2]]
    go_enter Tryd.func10, Tryd.ntmps10
    go_wp2
    go_ret
    exact ⟨rfl, Below.refl _ _⟩
  by_cases h3 : 6 < o
  · rw [show signV o = ⟨#[]⟩ by simp [signV, h3]]
    go_enter Tryd.func10, Tryd.ntmps10
    go_wp2
    go_ret
    exact ⟨rfl, Below.refl _ _⟩
  obtain ⟨k, hk, hk2⟩ : ∃ k : Nat, o = ((k : Int) + 1) ∧ k < 6 := ⟨o.toNat - 1, by omega, by omega⟩
  have e : signV o = sgn (k + 1) := by subst hk; simp only [signV, h2, h3, or_self, if_false]; congr 1
  rw [e]
  clear e
  subst hk
  go_enter Tryd.func10, Tryd.ntmps10
  go_wp2
  go_ret
  have h := sgn_at k hk2
  rw [List.getElem?_eq_getElem (by simpa using hk2)] at h
  exact ⟨congrArg Ending.returned (Option.some.inj h), (Below.refl _ _).alloc (Nat.le_refl _) _⟩
end Go.Proofs.YtfjhiaafabmpbaaDoor
