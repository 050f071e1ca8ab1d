/-
  LINKS COPIED, by contract.
-/
import Derived.Test.YtnecfgmbfkocnadLinkR
namespace Go.Proofs.Ytnecfgmbfkocnad
open Go.ChangeShapes Go.WideShapes Go.ChangeAt Go.RowKit
set_option maxHeartbeats 3200000 in
set_option maxRecDepth 100000 in
theorem lclone_c (a : Option Addr) (c : Nat) (ps : List Lk) (w : World) (hv : RowAt w a (linkR.flat ps)) (hx : ps.length ≤ 1000) (hc : a = none → c = 0) :
    Calls Try.prog 19 #[.slice a ps.length c] w fun e w' => ∃ a' n' c', e = .returned (.slice a' n' c') ∧ HoldsR linkR w' (.slice a' n' c') ps ∧ Below w.heap.size w w' := by
  obtain ⟨i0, hi, hz0, hz1, hz2⟩ := info_parts infoL
  match a, hv, hc with
  | none, hv, hc =>
    obtain rfl := hc rfl
    obtain rfl : ps = [] := by
      rcases hv with h0 | ⟨b, off, h, _⟩
      · have := congrArg List.length h0
        rw [Rec.flat_len] at this
        have : ps.length * 4 = 0 := this
        exact List.eq_nil_of_length_eq_zero (by omega)
      · cases h
    have hB : Hid (Below w.heap.size w w) := Below.refl _ _
    have hne : ∀ x : World, Sem.run Try.prog (binOp BinOp.eql 22 (.slice none 0 0) (.slice none 0 0)) x = .ok (.bool true) x := fun x => by rfl
    simp only [List.length_nil]
    go_enter Try.func19, Try.ntmps19
    go_wp2
    go_ret
    exact ⟨_, _, _, rfl, ⟨none, 0, rfl, .inl rfl⟩, hB.out⟩
  | some ad, hv, _ =>
    have hnews : ∀ j u, (linkR.flat ps)[j]? = some u → w.cell? (ad.add j) = some u := by
      intro j u hj
      rcases hv with h0 | ⟨b, off, h, _, h3⟩
      · rw [h0] at hj; cases hj
      · cases h
        rw [add_plain]; exact h3 j u hj
    have hbl : ∀ j u, (linkR.flat ps)[j]? = some u → (w.alloc (.cells #[] 28)).cell? (ad.add j) = some u := fun j u hj => by
      have h := hnews j u hj
      rcases hv with h0 | ⟨b, off, h', hb, h3⟩
      · rw [h0] at hj; cases hj
      · cases h'
        exact (((Below.refl w.heap.size w).alloc (Nat.le_refl _) _).cell (p := (⟨b, off, none⟩ : Addr).add j) (by rw [add_plain]; exact hb)).trans h
    have hne : ∀ x : World, Sem.run Try.prog (binOp BinOp.eql 22 (.slice (some ad) ps.length c) (.slice none 0 0)) x = .ok (.bool false) x := fun x => by rfl
    replace hnews := hidden hnews
    replace hv := hidden hv
    replace hbl := hidden hbl
    go_enter Try.func19, Try.ntmps19
    go_wp2_with (at_builtin; go_loud (refine wpList_append_own _ rfl _ _ 22 rfl w.heap.size 28 i0 (.agg #[.int .i64 0, .int .i64 0, .int .i64 0, .int .u64 0]) 4 32 Try.underlying22 hi hz0 hz1 hz2 rfl (by decide) _ _ _ rfl (World.ownsRow_made w #[] 0 (Nat.le_refl _) (by unfold maxLen; omega) rfl) ad ps.length c (linkR.flat ps) rfl (Rec.flat_len ps) hbl.out (Rec.flat_one_cell ps) (by unfold maxLen; omega) (by omega) (by simp) ?_); intro v' w1 hown' hgrow _)
    have hB3 : Hid (Below w.heap.size w w1) := ((Below.refl _ _).alloc (Nat.le_refl _) _).grown hgrow (by simp) (fun j hj => by cases hj; exact Nat.le_refl _)
    simp only [Nat.zero_add, List.nil_append] at hown'
    have hH := hidden (holdsR_of_owns hown')
    obtain ⟨a1, c1, rfl⟩ : ∃ a c, v' = .slice a ps.length c := by
      obtain ⟨a, c, h, _⟩ := hH.out
      exact ⟨a, c, h⟩
    clear hgrow hown'
    go_wp2
    go_ret
    exact ⟨_, _, _, rfl, hH.out, hB3.out⟩
end Go.Proofs.Ytnecfgmbfkocnad
