/-
  slices.SortFunc AND slices.Compact OF NO STEPS: nothing turns.
-/
import Derived.Test.YtjgddkbpfpgaoafDoorREach3
namespace Go.Proofs.YtjgddkbpfpgaoafDoor
open Go.ChangeShapes Go.WideShapes Go.ChangeAt Go.RowKit

set_option maxHeartbeats 2000000 in
theorem ins0_c (p : Option Addr) (cap : Nat) (fv : Value) (w : World) :
    Calls Tryd.prog 29 #[.slice p 0 cap, .int .i64 0, .int .i64 0, fv] w fun e w' => e = .returned (.tuple #[]) ∧ w' = w := by
  go_enter Tryd.func29, Tryd.ntmps29
  go_wp2
  refine wp_loop_rounds 1 ?_
  rw [rounds_succ]
  go_wp2
  go_end0
  exact ⟨rfl, rfl⟩
set_option maxHeartbeats 2000000 in
set_option maxRecDepth 100000 in
theorem pdq0_c (p : Option Addr) (cap : Nat) (lim : Int) (fv : Value) (w : World) :
    Calls Tryd.prog 19 #[.slice p 0 cap, .int .i64 0, .int .i64 0, .int .i64 lim, fv] w fun e w' => e = .returned (.tuple #[]) ∧ w' = w := by
  have hi := fun W => ins0_c p cap fv W
  go_enter Tryd.func19, Tryd.ntmps19
  go_wp2
  refine wp_loop_rounds 1 ?_
  rw [rounds_succ]
  go_wp2_with (go_at_call 29; refine (hi _).mono ?_; rintro e w' ⟨rfl, rfl⟩)
  (try simp only [Exit.inBlock, Exit.then]); refine bodyPost_ret (results_none rfl _ _ _) rfl ?_
  exact ⟨rfl, rfl⟩
set_option maxHeartbeats 2000000 in
theorem sort0_c (p : Option Addr) (cap : Nat) (fv : Value) (w : World) :
    Calls Tryd.prog 11 #[.slice p 0 cap, fv] w fun e w' => e = .returned (.tuple #[]) ∧ w' = w := by
  have hp := fun lim W => pdq0_c p cap lim fv W
  have hl := fun W => Tryd.bits_Len 0 W (by omega) (by omega)
  go_enter Tryd.func11, Tryd.ntmps11
  go_wp2_with (first | (go_at_call 20; refine (hl _).mono ?_; rintro e w' ⟨rfl, rfl⟩) | (go_at_call 19; refine (hp _ _).mono ?_; rintro e w' ⟨rfl, rfl⟩) | fail)
  go_end0
  exact ⟨rfl, rfl⟩
theorem compact0_c (p : Option Addr) (cap : Nat) (w : World) :
    Calls Tryd.prog 13 #[.slice p 0 cap] w fun e w' => e = .returned (.slice p 0 cap) ∧ w' = w := by
  go_enter Tryd.func13, Tryd.ntmps13
  go_wp2
  go_ret
  exact ⟨rfl, rfl⟩
end Go.Proofs.YtjgddkbpfpgaoafDoor
/-
  regex.Syms, by contract.
-/
namespace Go.Proofs.YtjgddkbpfpgaoafDoor
open Go.ChangeShapes Go.WideShapes Go.ChangeAt Go.RowKit

/-- What it answers. -/
structure SymsOf (N : Nat) (w w' : World) (r : Rx) (a : Option Addr) (n : Nat) : Prop where
  is : ∃ L' : List Sy, n = (cpt L').length ∧ RowAt w' a (syR.flat (cpt L')) ∧ L'.Perm r.syms ∧ ∀ i j, i < j → j < L'.length → ¬ sycmp (L'.getD j sy0) (L'.getD i sy0) < 0
  below : Below N w w'
set_option maxHeartbeats 3200000 in
set_option maxRecDepth 100000 in
theorem syms_c (N D : Nat) (v : RxV) (r : Rx) (w : World) (hv : HeldX (fun b => b < N) w D v r) (hN : N ≤ w.heap.size) (hn : r.nodes ≤ 1000) :
    Calls Tryd.prog 5 #[.agg #[.int .i64 v.k, .string v.s, .bool v.b, .slice v.a v.n v.c]] w fun e w' => ∃ a n cap, e = .returned (.slice a n cap) ∧ SymsOf N w w' r a n := by
  obtain ⟨w1, hw1⟩ : ∃ w1, Hid (w1 = (w.alloc (.cells #[.int .i64 v.k, .string v.s, .bool v.b, .slice v.a v.n v.c] TX)).alloc (.cells #[.slice none 0 0] 28)) := ⟨_, hidden rfl⟩
  have hB1 : Below w.heap.size w w1 := by
    rw [hw1.out]; exact ((Below.refl _ _).alloc (Nat.le_refl _) _).alloc (by show _ ≤ (w.heap.push _).size; simp) _
  have hs1 : w1.heap.size = w.heap.size + 2 := by rw [hw1.out]; simp
  have hX : w1.heap[w.heap.size]? = some (Obj.cells #[.int .i64 v.k, .string v.s, .bool v.b, .slice v.a v.n v.c] TX) := by
    rw [hw1.out]; exact (heap_alloc_old _ _ (by simp)).trans (heap_alloc_new _ _)
  have hc : w1.heap[w.heap.size + 1]? = some (Obj.cells #[.slice none 0 0] 28) := by
    have := heap_alloc_new (w.alloc (.cells #[.int .i64 v.k, .string v.s, .bool v.b, .slice v.a v.n v.c] TX)) (.cells #[.slice none 0 0] 28)
    rw [hw1.out]
    rwa [show (w.alloc (.cells #[.int .i64 v.k, .string v.s, .bool v.b, .slice v.a v.n v.c] TX)).heap.size = w.heap.size + 1 by simp] at this
  have hT : Told N w1 (w.heap.size + 1) [] := ⟨by omega, _, hc, World.ownsRow_nil ..⟩
  have heach := each_c N (w.heap.size + 1) D v r w1 [] (heldN (hB1.mono hN) hN hv) (by omega) hT hn (by simp)
  obtain ⟨⟨x0, x1, x2, x3⟩, -⟩ := box4f hX
  have hbw := hidden (hB1.mono hN)
  clear hX hc hT hv
  go_enter Tryd.func5, Tryd.ntmps5
  go_wp2_with fail
  rw [← hw1.out]
  refine heach.mono ?_
  rintro e z ⟨rfl, ⟨L, hTz, hp⟩, hBz⟩
  obtain ⟨hcN, u, hcu, hown⟩ := hTz
  obtain ⟨a, cap, rfl⟩ := own_shape hown
  have c0 : z.cell? ⟨w.heap.size + 1, 0, none⟩ = some (.slice a L.length cap) := by simp [World.cell?, hcu]
  have hBw := hbw.out.trans hBz
  have hlen : L.length ≤ 1000 := by have h1 := hp.length_eq; have h2 := syms_len r; simp at h1; omega
  clear heach x0 x1 x2 x3 hbw
  by_cases h0 : L.length = 0
  · have hfin : Hid (SymsOf N w z r a 0) := by
      have hL : L = [] := List.eq_nil_of_length_eq_zero h0
      subst hL
      exact ⟨⟨[], rfl, .inl rfl, by simpa using hp, fun i j h1 h2 => by simp at h2⟩, hBw⟩
    rw [h0] at c0
    have hs := fun fv => sort0_c a cap fv z
    have hcm := compact0_c a cap z
    clear hown hcu hp hBw hBz
    go_wp2_with fail
    refine (hs _).mono ?_
    rintro e z2 ⟨rfl, rfl⟩
    go_wp2_with fail
    refine hcm.mono ?_
    rintro e z3 ⟨rfl, rfl⟩
    go_wp2
    go_ret
    exact ⟨a, 0, cap, rfl, hfin.out⟩
  · obtain ⟨g, rfl⟩ : ∃ g, a = some ⟨g, 0, none⟩ := by
      rcases hown.2 with ⟨e, h1⟩ | ⟨g, cap2, cur, e, _⟩
      · exact absurd h1 h0
      · simp only [Value.slice.injEq] at e; exact ⟨g, e.1⟩
    obtain ⟨hBg, hcap⟩ : N ≤ g ∧ L.length ≤ cap := by
      rcases hown.2 with ⟨e, h1⟩ | ⟨g2, cap2, cur, e, h1, h2, h3, _⟩
      · cases e
      · simp only [Value.slice.injEq, Option.some.injEq, Addr.mk.injEq, and_true, true_and] at e
        obtain ⟨rfl, rfl⟩ := e
        exact ⟨h1, h3⟩
    have hne : g ≠ w.heap.size + 1 := fun e => row_neX hown hcu (by decide) (by rw [e]; rfl)
    have hs := sort_c z N g L.length cap L hown rfl (by omega) hBg
    have hcl := (Array.getElem?_eq_some_iff.1 hcu).1
    clear hown
    generalize hnn : L.length = n at *
    replace hnn := hidden hnn
    go_wp2_with fail
    refine hs.mono ?_
    rintro e z2 ⟨rfl, L2, hown2, hp2, hso, hB2, hoth⟩
    have hcu2 := (hoth _ hcl (Ne.symm hne)).trans hcu
    have d0 : z2.cell? ⟨w.heap.size + 1, 0, none⟩ = some (.slice (some ⟨g, 0, none⟩) n cap) := by simp [World.cell?, hcu2]
    have hl2 : L2.length = n := by rw [← hnn.out]; exact hp2.length_eq
    have hcm := compact_c z2 N g cap L2 (RS.of_own hown2) (by omega) (by omega) hBg
    rw [hl2] at hcm
    have hfin : Hid (∀ z3, RS z3 g (cpt L2) → Below N z2 z3 → SymsOf N w z3 r (some ⟨g, 0, none⟩) (cpt L2).length) := fun z3 h1 h2 =>
      ⟨⟨L2, rfl, h1.holds, hp2.trans (by simpa using hp), fun i j h3 h4 => by have h5 := hso i j h3 (by omega); unfold sy0; omega⟩, (hBw.trans hB2).trans h2⟩
    clear hs hown2 hp2 hso hB2 hoth hcu hcu2 hp hBw hBz c0
    go_wp2_with fail
    refine hcm.mono ?_
    rintro e z3 ⟨rfl, h1, h2⟩
    have hfin := hidden (hfin.out z3 h1 h2)
    clear hcm h1 h2
    go_wp2
    go_ret
    exact ⟨_, _, cap, rfl, hfin.out⟩
end Go.Proofs.YtjgddkbpfpgaoafDoor
