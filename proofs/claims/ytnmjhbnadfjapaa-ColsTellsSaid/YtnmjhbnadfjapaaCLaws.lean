/-
  COLUMNS, what else they tell: Having, Label, Get; rows that may be written.
-/
import Derived.Test.YtnmjhbnadfjapaaRVals
import Derived.Test.YtnmjhbnadfjapaaGRCheck
import Derived.Test.YtnmjhbnadfjapaaGOwnC
import Derived.Test.YtnmjhbnadfjapaaGFew
import Derived.Test.YtnmjhbnadfjapaaTEach5
namespace Go.Proofs.Ytnmjhbnadfjapaa
open Go.ChangeShapes Go.WideShapes Go.ChangeAt Go.RowKit Go.Maps

set_option maxHeartbeats 1600000 in
set_option maxRecDepth 100000 in
theorem having_c (ns : List Nd) (C : ColX) (B : Nat) (s : ByteArray) (k n : Int) (t : ByteArray) (w : World) (hC : ColAt ns C B w) (hs : s.size ≤ maxLen) (hN : ns.length ≤ 1000) (hps : ∀ i, (ns.getD i Nd.none).ps.length ≤ 1000) :
    Calls Try.prog 22 #[.pointer (some ⟨C.gb, 0, none⟩), .string s, .agg #[.int .i64 k, .int .i64 n, .string t]] w fun e w' => ∃ v, e = .returned v ∧ w'.ownsRow w.heap.size 3 1 v (colT ns s 1 k n t).length (intR.flat (colT ns s 1 k n t)) ∧ Below w.heap.size w w' := by
  obtain ⟨x, hx⟩ : ∃ x, x = w.alloc (.cells #[.int .i64 k, .int .i64 n, .string t] 27) := ⟨_, rfl⟩
  have hB0 : Below w.heap.size w x := by rw [hx]; exact (Below.refl _ _).alloc (Nat.le_refl _) _
  have hX0 : x.heap[w.heap.size]? = some (.cells #[.int .i64 k, .int .i64 n, .string t] 27) := by rw [hx]; exact heap_alloc_new w _
  have hc := coltest_c ns C B s 1 k n t x (hC.step hB0) hs hN hps
  obtain ⟨⟨b0, b1, b2⟩, -⟩ := box3n hX0
  replace hB0 := hidden hB0
  generalize colT ns s 1 k n t = L at *
  clear hC hX0
  subst hx
  go_enter Try.func22, Try.ntmps22
  go_wp2_with fail
  refine hc.mono ?_
  rintro e w2 ⟨v, rfl, hown, hB2⟩
  have hfin := hidden (own_le2 hown hB0.out.size)
  have hbf := hidden (hB0.out.trans (hB2.mono hB0.out.size))
  obtain ⟨oa, oc, rfl⟩ := own_shape hown
  clear hown hB2 hc b0 b1 b2
  go_wp2
  go_ret
  exact ⟨_, rfl, hfin.out, hbf.out⟩
theorem node_atC {ns : List Nd} {C : ColX} {B : Nat} {z : World} (h : ColAt ns C B z) {k : Nat} (hk : k < ns.length) :
    ∃ gn off pa pc cap, C.nv = .slice (some ⟨gn, off, none⟩) ns.length cap ∧ gn < z.heap.size ∧ z.cell? ⟨gn, off + k * 2, none⟩ = some (.string (ns.getD k Nd.none).l) ∧ z.cell? ⟨gn, off + k * 2 + 1, none⟩ = some (.slice pa (ns.getD k Nd.none).ps.length pc) ∧ RowAt z pa (propR.flat (ns.getD k Nd.none).ps) := by
  obtain ⟨na, nc, hnv⟩ := own_shape h.nodes.row
  have hrow := h.nodes.row
  rw [hnv] at hrow
  obtain ⟨a9, c9, e9, hr9⟩ := holdsR_of_owns (R := nodeR) hrow
  simp only [Value.slice.injEq] at e9
  obtain ⟨rfl, -, rfl⟩ := e9
  obtain ⟨gn, off, rfl, hbb, hrc⟩ := rec_at hr9 (k := k) (by rw [h.nodes.len]; exact hk)
  obtain ⟨h1, h2⟩ := h.nodes.each k hk
  have d0 := hrc 0 _ rfl
  have d1 := hrc 1 _ rfl
  rw [show nodeR.dflt = NdV.none from rfl] at d0 d1
  obtain ⟨a8, c8, e8, hr8⟩ := holdsR_of_owns (R := propR) h2
  simp only [Value.slice.injEq] at e8
  obtain ⟨e8a, e8b, e8c⟩ := e8
  refine ⟨gn, off, a8, c8, nc, by rw [hnv, h.nodes.len], hbb, ?_, ?_, hr8⟩
  · rw [← h1]; exact d0
  · rw [← e8a, ← e8b, ← e8c]; exact d1
theorem nv_len {ns : List Nd} {C : ColX} {B : Nat} {z : World} (h : ColAt ns C B z) : ∃ a cap, C.nv = .slice a ns.length cap := by
  obtain ⟨na, nc, hnv⟩ := own_shape h.nodes.row
  exact ⟨na, nc, by rw [hnv, h.nodes.len]⟩
set_option maxRecDepth 100000 in
theorem hasIn_c (ns : List Nd) (C : ColX) (B : Nat) (k : Nat) (w : World) (hC : ColAt ns C B w) (hk : k < ns.length) :
    Calls Try.prog 45 #[.pointer (some ⟨C.gb, 0, none⟩), .int .i64 (k : Int)] w fun e w' => e = .returned (.bool true) ∧ w' = w := by
  obtain ⟨⟨x0, x1, x2⟩, -⟩ := box3n hC.box
  obtain ⟨a, cap, hnv⟩ := nv_len hC
  rw [hnv] at x0
  generalize ns.length = N at *
  have h0 : (0 : Int) ≤ (k : Int) := by omega
  have h1 : (k : Int) < (N : Int) := by omega
  clear hC hnv hk
  go_enter Try.func45, Try.ntmps45
  go_wp2
  go_ret
  exact ⟨rfl, rfl⟩
set_option maxRecDepth 100000 in
theorem hasOut_c (ns : List Nd) (C : ColX) (B : Nat) (n : Int) (w : World) (hC : ColAt ns C B w) (hn : n < 0 ∨ (ns.length : Int) ≤ n) :
    Calls Try.prog 45 #[.pointer (some ⟨C.gb, 0, none⟩), .int .i64 n] w fun e w' => e = .returned (.bool false) ∧ w' = w := by
  obtain ⟨⟨x0, x1, x2⟩, -⟩ := box3n hC.box
  obtain ⟨a, cap, hnv⟩ := nv_len hC
  rw [hnv] at x0
  generalize ns.length = N at *
  clear hC hnv
  by_cases h0 : 0 ≤ n
  · have h1 : ¬ n < (N : Int) := by omega
    clear hn
    go_enter Try.func45, Try.ntmps45
    go_wp2
    go_ret
    exact ⟨rfl, rfl⟩
  · clear hn
    go_enter Try.func45, Try.ntmps45
    go_wp2
    go_ret
    exact ⟨rfl, rfl⟩
set_option maxRecDepth 100000 in
theorem labelIn_c (ns : List Nd) (C : ColX) (B : Nat) (k : Nat) (w : World) (hC : ColAt ns C B w) (hk : k < ns.length) :
    Calls Try.prog 13 #[.pointer (some ⟨C.gb, 0, none⟩), .int .i64 (k : Int)] w fun e w' => e = .returned (.tuple #[.string (ns.getD k Nd.none).l, .bool true]) ∧ w' = w := by
  have hh := hasIn_c ns C B k w hC hk
  obtain ⟨⟨x0, x1, x2⟩, -⟩ := box3n hC.box
  obtain ⟨gn, off, pa, pc, cap, hnv, hgb, d0, d1, -⟩ := node_atC hC hk
  rw [hnv] at x0
  generalize (ns.getD k Nd.none).l = l at *
  generalize ns.length = N at *
  have h0 : ¬ (k : Int) < 0 := by omega
  have h1 : (k : Int) < (N : Int) := by omega
  clear hC hnv
  go_enter Try.func13, Try.ntmps13
  go_wp2_with fail
  refine hh.mono ?_
  rintro e w2 ⟨rfl, rfl⟩
  go_wp2
  go_ret2
  exact ⟨rfl, rfl⟩
set_option maxRecDepth 100000 in
theorem labelOut_c (ns : List Nd) (C : ColX) (B : Nat) (n : Int) (w : World) (hC : ColAt ns C B w) (hn : n < 0 ∨ (ns.length : Int) ≤ n) :
    Calls Try.prog 13 #[.pointer (some ⟨C.gb, 0, none⟩), .int .i64 n] w fun e w' => e = .returned (.tuple #[.string ⟨#[]⟩, .bool false]) ∧ w' = w := by
  have hh := hasOut_c ns C B n w hC hn
  clear hC hn
  go_enter Try.func13, Try.ntmps13
  go_wp2_with fail
  refine hh.mono ?_
  rintro e w2 ⟨rfl, rfl⟩
  go_wp2
  go_ret2
  exact ⟨rfl, rfl⟩
theorem heap_setV {x : World} {b : Nat} {a0 a1 a2 : Value} {t : TypeId} (h : x.heap[b]? = some (.cells #[a0, a1, a2] t)) (u0 u1 u2 : Value) :
    (((x.setCell ⟨b, 0, none⟩ u0).setCell ⟨b, 1, none⟩ u1).setCell ⟨b, 2, none⟩ u2).heap[b]? = some (.cells #[u0, u1, u2] t) := by
  have h1 := set_heap h 0 u0
  have h2 := set_heap h1 1 u1
  have h3 := set_heap h2 2 u2
  simpa using h3
set_option maxHeartbeats 1600000 in
set_option maxRecDepth 100000 in
theorem getIn_c (ns : List Nd) (C : ColX) (B : Nat) (k : Nat) (s : ByteArray) (w : World) (hC : ColAt ns C B w) (hk : k < ns.length) (hps : (ns.getD k Nd.none).ps.length ≤ 1000) :
    Calls Try.prog 14 #[.pointer (some ⟨C.gb, 0, none⟩), .int .i64 (k : Int), .string s] w fun e w' => e = .returned (.agg #[.int .i64 (pv (ns.getD k Nd.none).ps s).k, .int .i64 (pv (ns.getD k Nd.none).ps s).n, .string (pv (ns.getD k Nd.none).ps s).t]) ∧ Below w.heap.size w w' := by
  obtain ⟨x, hx⟩ : ∃ x, x = w.alloc (.cells #[.int .i64 0, .int .i64 0, .string ⟨#[]⟩] 27) := ⟨_, rfl⟩
  have hB0 : Hid (Below w.heap.size w x) := by rw [hx]; exact (Below.refl _ _).alloc (Nat.le_refl _) _
  have hX0 : Hid (x.heap[w.heap.size]? = some (.cells #[.int .i64 0, .int .i64 0, .string ⟨#[]⟩] 27)) := by rw [hx]; exact heap_alloc_new w _
  have hCx := hC.step hB0.out
  have hh := hasIn_c ns C B k x hCx hk
  obtain ⟨⟨x0, x1, x2⟩, -⟩ := box3n hCx.box
  obtain ⟨gn, off, pa, pc, cap, hnv, hgb, d0, d1, hpr⟩ := node_atC hCx hk
  rw [hnv] at x0
  have hp := prop_c (ns.getD k Nd.none).l s (ns.getD k Nd.none).ps pa pc x hpr (by omega)
  generalize (ns.getD k Nd.none).l = l at *
  generalize (ns.getD k Nd.none).ps = ps at *
  generalize (pv ps s).k = vk at *
  generalize (pv ps s).n = vn at *
  generalize (pv ps s).t = vt at *
  generalize ps.length = pl at *
  generalize ns.length = N at *
  have h0 : ¬ (k : Int) < 0 := by omega
  have h1 : (k : Int) < (N : Int) := by omega
  clear hC hCx hnv hpr hgb
  go_enter Try.func14, Try.ntmps14
  go_wp2_with fail
  rw [← hx]
  replace hx := hidden hx
  refine hh.mono ?_
  rintro e w2 ⟨rfl, rfl⟩
  go_wp2_with fail
  refine hp.mono ?_
  rintro e w2 ⟨rfl, hB2⟩
  have hX2 := hidden (box_below hX0.out hB2)
  obtain ⟨⟨v0, v1, v2⟩, f0, f1, f2⟩ := box3n hX2.out
  have hfin := hidden (heap_setV hX2.out (.int .i64 vk) (.int .i64 vn) (.string vt))
  have hb2 := hB0.out.trans (hB2.mono hB0.out.size)
  have hBF := hidden (((hb2.setCell (p := ⟨w.heap.size, 0, none⟩) (Nat.le_refl _) (.int .i64 vk)).setCell (p := ⟨w.heap.size, 1, none⟩) (Nat.le_refl _) (.int .i64 vn)).setCell (p := ⟨w.heap.size, 2, none⟩) (Nat.le_refl _) (.string vt))
  clear hh hp hB2 hb2 x0 x1 x2 d0 d1
  go_wp2
  refine bodyPost_ret (results_cell_row rfl _ _ w.heap.size _ _ _ _ rfl hfin.out Try.underlying27 rfl (by kernel_rfl)) rfl ⟨rfl, hBF.out⟩
set_option maxHeartbeats 1600000 in
set_option maxRecDepth 100000 in
theorem getOut_c (ns : List Nd) (C : ColX) (B : Nat) (n : Int) (s : ByteArray) (w : World) (hC : ColAt ns C B w) (hn : n < 0 ∨ (ns.length : Int) ≤ n) :
    Calls Try.prog 14 #[.pointer (some ⟨C.gb, 0, none⟩), .int .i64 n, .string s] w fun e w' => e = .returned (.agg #[.int .i64 0, .int .i64 0, .string ⟨#[]⟩]) ∧ Below w.heap.size w w' := by
  obtain ⟨x, hx⟩ : ∃ x, x = w.alloc (.cells #[.int .i64 0, .int .i64 0, .string ⟨#[]⟩] 27) := ⟨_, rfl⟩
  have hB0 : Hid (Below w.heap.size w x) := by rw [hx]; exact (Below.refl _ _).alloc (Nat.le_refl _) _
  have hX0 : Hid (x.heap[w.heap.size]? = some (.cells #[.int .i64 0, .int .i64 0, .string ⟨#[]⟩] 27)) := by rw [hx]; exact heap_alloc_new w _
  have hh := hasOut_c ns C B n x (hC.step hB0.out) hn
  obtain ⟨⟨v0, v1, v2⟩, f0, f1, f2⟩ := box3n hX0.out
  have hfin := hidden (heap_setV hX0.out (.int .i64 0) (.int .i64 0) (.string ⟨#[]⟩))
  have hBF := hidden (((hB0.out.setCell (p := ⟨w.heap.size, 0, none⟩) (Nat.le_refl _) (.int .i64 0)).setCell (p := ⟨w.heap.size, 1, none⟩) (Nat.le_refl _) (.int .i64 0)).setCell (p := ⟨w.heap.size, 2, none⟩) (Nat.le_refl _) (.string ⟨#[]⟩))
  clear hC hn
  go_enter Try.func14, Try.ntmps14
  go_wp2_with fail
  rw [← hx]
  replace hx := hidden hx
  refine hh.mono ?_
  rintro e w2 ⟨rfl, rfl⟩
  clear hh
  go_wp2
  refine bodyPost_ret (results_cell_row rfl _ _ w.heap.size _ _ _ _ rfl hfin.out Try.underlying27 rfl (by kernel_rfl)) rfl ⟨rfl, hBF.out⟩
set_option maxHeartbeats 1600000 in
set_option maxRecDepth 100000 in
theorem rgetOut_c (a : Option Addr) (N c : Nat) (b : Option Addr) (m d : Nat) (n : Int) (s : ByteArray) (w : World) (hn : n < 0 ∨ (N : Int) ≤ n) :
    Calls Try.prog 15 #[.agg #[.slice a N c, .slice b m d], .int .i64 n, .string s] w fun e w' => e = .returned (.agg #[.int .i64 0, .int .i64 0, .string ⟨#[]⟩]) ∧ Below w.heap.size w w' := by
  obtain ⟨x, hx⟩ : ∃ x, x = (w.alloc (.cells #[.slice a N c, .slice b m d] 25)).alloc (.cells #[.int .i64 0, .int .i64 0, .string ⟨#[]⟩] 27) := ⟨_, rfl⟩
  have hB0 : Hid (Below w.heap.size w x) := by rw [hx]; exact ((Below.refl _ _).alloc (Nat.le_refl _) _).alloc (by simp) _
  have hX1 : Hid (x.heap[w.heap.size + 1]? = some (.cells #[.int .i64 0, .int .i64 0, .string ⟨#[]⟩] 27)) := by
    rw [hx]
    have h := heap_alloc_new (w.alloc (.cells #[.slice a N c, .slice b m d] 25)) (.cells #[.int .i64 0, .int .i64 0, .string ⟨#[]⟩] 27)
    rwa [show (w.alloc (.cells #[.slice a N c, .slice b m d] 25)).heap.size = w.heap.size + 1 by simp] at h
  obtain ⟨⟨v0, v1, v2⟩, f0, f1, f2⟩ := box3n hX1.out
  by_cases h0 : n < 0
  · clear hn
    subst hx
    go_enter Try.func15, Try.ntmps15
    go_wp2
    refine bodyPost_ret (results_cell_row rfl _ _ (w.heap.size + 1) _ _ _ _ rfl hX1.out Try.underlying27 rfl (by kernel_rfl)) rfl ⟨rfl, hB0.out⟩
  · have h1 : (N : Int) ≤ n := by omega
    clear hn
    subst hx
    go_enter Try.func15, Try.ntmps15
    go_wp2
    refine bodyPost_ret (results_cell_row rfl _ _ (w.heap.size + 1) _ _ _ _ rfl hX1.out Try.underlying27 rfl (by kernel_rfl)) rfl ⟨rfl, hB0.out⟩
/-- A row of n things of s cells that may be written. -/
def CanW (w : World) (B s n : Nat) (v : Value) : Prop := ∃ a c, v = .slice a n c ∧ (n = 0 ∨ ∃ g, a = some ⟨g, 0, none⟩ ∧ B ≤ g ∧ g < w.heap.size ∧ (∀ k, k < n * s → ∃ u, w.cell? ⟨g, k, none⟩ = some u) ∧ ∀ k, w.frozen? ⟨g, k, none⟩ = false)
theorem cell_ok {w : World} {g k b j : Nat} (v : Value) (h : ∃ u, w.cell? ⟨g, k, none⟩ = some u) : ∃ u, (w.setCell ⟨b, j, none⟩ v).cell? ⟨g, k, none⟩ = some u := by
  obtain ⟨u, h⟩ := h
  by_cases e : b = g ∧ j = k
  · obtain ⟨rfl, rfl⟩ := e
    have := World.cell?_setCells_in b [v] j w (fun i hi => by
      have : i = 0 := by simp at hi; omega
      subst this
      rw [Nat.add_zero, h]; rfl) 0 (by simp)
    exact ⟨v, by simpa [World.setCells] using this⟩
  · by_cases e1 : b = g
    · subst e1
      have hne : j ≠ k := fun h => e ⟨rfl, h⟩
      exact ⟨u, (World.cell?_setCells_out b [v] j w ⟨b, k, none⟩ fun _ _ => by simp only [List.length_cons, List.length_nil]; omega).trans h⟩
    · refine ⟨u, ?_⟩
      rw [← h]
      simp [World.cell?, World.setCell, Array.getElem?_modify, e1]
theorem CanW.set {w : World} {B s n : Nat} {v : Value} (h : CanW w B s n v) (b j : Nat) (u : Value) : CanW (w.setCell ⟨b, j, none⟩ u) B s n v := by
  obtain ⟨a, c, e, h⟩ := h
  refine ⟨a, c, e, ?_⟩
  rcases h with h | ⟨g, h1, h2, h5, h3, h4⟩
  · exact .inl h
  · exact .inr ⟨g, h1, h2, by simpa [World.setCell] using h5, fun k hk => cell_ok u (h3 k hk), fun k => (World.frozen?_setCells b [u] j w ⟨g, k, none⟩).trans (h4 k)⟩
theorem CanW.below {w z : World} {B s n : Nat} {v : Value} (h : CanW w B s n v) (hB : Below w.heap.size w z) : CanW z B s n v := by
  obtain ⟨a, c, e, h⟩ := h
  refine ⟨a, c, e, ?_⟩
  rcases h with h | ⟨g, h1, h2, hg, h3, h4⟩
  · exact .inl h
  · refine .inr ⟨g, h1, h2, Nat.lt_of_lt_of_le hg hB.size, fun k hk => ?_, fun k => ?_⟩
    · obtain ⟨u, hu⟩ := h3 k hk
      exact ⟨u, (hB.cell (p := ⟨g, k, none⟩) hg).trans hu⟩
    · have := h4 k
      simp only [World.frozen?, hB.block g hg] at this ⊢
      exact this
theorem CanW.of_own {w : World} {B n : Nat} {v : Value} {t : TypeId} {xs : List Value} (h : w.ownsRow B t 1 v n xs) : CanW w B 1 n v := by
  obtain ⟨hl, h2⟩ := id h
  rcases h2 with ⟨rfl, rfl⟩ | ⟨g, cap, cur, rfl, hb, hg, hnc, hcm, hcs, htake⟩
  · exact ⟨none, 0, rfl, .inl rfl⟩
  · refine ⟨_, cap, rfl, .inr ⟨g, rfl, hb, (Array.getElem?_eq_some_iff.1 hg).1, fun k hk => ?_, fun k => h.frozenAt k⟩⟩
    have hks : k < cur.size := by omega
    exact ⟨cur[k], by simp [World.cell?, hg, hks]⟩
theorem CanW.of_rs {w : World} {B g cap : Nat} {L : List Va} (h : RS w g L) (hb : B ≤ g) : CanW w B 3 L.length (.slice (some ⟨g, 0, none⟩) L.length cap) := by
  refine ⟨_, cap, rfl, .inr ⟨g, rfl, hb, h.lt, fun k hk => ?_, h.fr⟩⟩
  obtain ⟨q, e⟩ : ∃ q, k = q * 3 ∨ k = q * 3 + 1 ∨ k = q * 3 + 2 := ⟨k / 3, by omega⟩
  rcases e with rfl | rfl | rfl
  · exact ⟨_, (h.cell q (by omega)).1⟩
  · exact ⟨_, (h.cell q (by omega)).2.1⟩
  · exact ⟨_, (h.cell q (by omega)).2.2⟩
end Go.Proofs.Ytnmjhbnadfjapaa
/-
  WHAT LAWS OVER A GRAPH SHARE: taken once more, checked.
-/
namespace Go.Proofs.Ytnmjhbnadfjapaa
open Go.ChangeShapes Go.WideShapes Go.ChangeAt Go.RowKit

theorem cell_str {P : Program} {w : World} {r : Reach} {base : Nat} {u : TypeId} {x : Value} (hu : P.underlying u = some .string) (h : Cell.okWide P w r base u x) : ∃ s, x = .string s := by
  unfold Cell.okWide at h
  rw [hu] at h
  unfold Cell.ok at h
  rw [hu] at h
  cases x <;> simp_all
theorem cell_bool {P : Program} {w : World} {r : Reach} {base : Nat} {u : TypeId} {x : Value} (hu : P.underlying u = some .bool) (h : Cell.okWide P w r base u x) : ∃ b, x = .bool b := by
  unfold Cell.okWide at h
  rw [hu] at h
  unfold Cell.ok at h
  rw [hu] at h
  cases x <;> simp_all
theorem OwnG.below {g : Gr} {vs : List NdV} {a : Option Addr} {n c : Nat} {b : Option Addr} {m d : Nat} {x y : World} (h : OwnG g vs a n c b m d x) (hB : Below x.heap.size x y) : OwnG g vs a n c b m d y := h.keep (.of_below hB)
theorem few_b (g : Gr) (vs : List NdV) (a : Option Addr) (n c : Nat) (b : Option Addr) (m d : Nat) (w : World) (hg : OwnG g vs a n c b m d w) (hf : g.few = g) (hs : g.sm) :
    Calls Try.prog 7 #[.agg #[.slice a n c, .slice b m d]] w fun e w' => ∃ (us : List NdV) (a' : Option Addr) (n' c' : Nat) (b' : Option Addr) (m' d' : Nat), e = .returned (.agg #[.slice a' n' c', .slice b' m' d']) ∧ OwnG g us a' n' c' b' m' d' w' ∧ Below w.heap.size w w' :=
  (gfew_c g _ _ w hg.holds (by have := hs.1; omega) (by have := hs.2.2.1; omega) (fun x hx => by have := (hs.2.1 x hx).2.1; omega)).mono fun e w' ⟨us, a', n', c', b', m', d', he, h1, h2, hB⟩ => by
    rw [hf] at h1 h2
    exact ⟨us, a', n', c', b', m', d', he, ⟨h1, h2⟩, hB⟩
theorem rggood_c (g : Gr) (vs : List NdV) (a : Option Addr) (n c : Nat) (b : Option Addr) (m d : Nat) (w : World) (hg : OwnG g vs a n c b m d w) (hs : g.sm) :
    Calls Try.prog 26 #[.agg #[.slice a n c, .slice b m d]] w fun e w' => e = .returned (.bool ((checkG g).2 == 0)) ∧ Below w.heap.size w w' := by
  have hB0 := (Below.refl w.heap.size w).alloc (Nat.le_refl _) (.cells #[.slice a n c, .slice b m d] 25)
  have hX := heap_alloc_new w (.cells #[.slice a n c, .slice b m d] 25)
  have hc := rcheck_c g vs a n c b m d _ (hg.calm hB0) hs
  obtain ⟨⟨b0, b1⟩, -⟩ := box2f hX
  replace hB0 := hidden hB0
  clear hX hg hs
  generalize (checkG g).1 = p at *
  generalize (checkG g).2 = q at *
  go_enter Try.func26, Try.ntmps26
  go_wp2_with fail
  refine hc.mono ?_
  rintro e w5 ⟨rfl, hB5⟩
  have hBL : Hid (Below w.heap.size w w5) := hB0.out.trans (hB5.mono hB0.out.size)
  clear hB5 hB0 b0 b1 hc
  go_wp2
  go_ret
  exact ⟨by first | done | rfl, hBL.out⟩
end Go.Proofs.Ytnmjhbnadfjapaa
/-
  WHAT BOTH LAWS OF THE COLUMNS USE.
-/
namespace Go.Proofs.Ytnmjhbnadfjapaa
open Go.ChangeShapes Go.WideShapes Go.ChangeAt Go.RowKit Go.Maps

theorem slX {w : World} {B : Nat} {v : Value} {X : List Nat} (h : w.ownsRow B 3 1 v X.length (natR.flat X)) : ∃ a c, v = .slice a X.length c ∧ Sl w (.slice a X.length c) (ints X) := by
  obtain ⟨a, c, h1, h2, h3, h4, h5⟩ := slR_of_owns (R := natR) h
  rw [natR_flat] at h5
  exact ⟨a, c, h1, a, c, by unfold ints; rw [List.length_map], by unfold ints; rw [List.length_map]; exact h2, h3, h4, h5⟩
theorem natI (X : List Nat) : intR.flat (X.map fun (i : Nat) => (i : Int)) = natR.flat X := by
  induction X with
  | nil => rfl
  | cons x r ih => rw [List.map_cons, Rec.flat_cons, Rec.flat_cons, ih]; rfl
theorem same_self (va vb : Value) (xs : List Int) (w : World) (hva : Holds w va (xs.map (Value.int .i64))) (hvb : Holds w vb (xs.map (Value.int .i64))) (hx : xs.length ≤ 17592186044416) : Calls Try.prog 17 #[va, vb] w fun e w' => e = .returned (.bool true) ∧ Below w.heap.size w w' := by
  have h := same_c va vb xs xs w hva hvb hx hx
  rw [decide_eq_true rfl] at h
  exact h
/-- Both boxes, written. -/
theorem cell_calm {x y : World} (h : GoX.Calm x y) {p : Addr} {v : Value} (hc : x.cell? p = some v) : y.cell? p = some v := by
  have hb := World.block_lt_of_cell? _ _ hc
  simp only [World.cell?, h.block p.block hb]
  exact hc
theorem frz2 {x : World} {b : Nat} {c0 c1 : Value} {t : TypeId} (h : x.heap[b]? = some (.cells #[c0, c1] t)) : x.frozen? ⟨b, 0, none⟩ = false ∧ x.frozen? ⟨b, 1, none⟩ = false := by
  simp [World.frozen?, h]
theorem frz7 {x : World} {b : Nat} {c0 c1 c2 c3 c4 c5 c6 : Value} {t : TypeId} (h : x.heap[b]? = some (.cells #[c0, c1, c2, c3, c4, c5, c6] t)) : x.frozen? ⟨b, 0, none⟩ = false ∧ x.frozen? ⟨b, 1, none⟩ = false ∧ x.frozen? ⟨b, 2, none⟩ = false ∧ x.frozen? ⟨b, 3, none⟩ = false ∧ x.frozen? ⟨b, 4, none⟩ = false ∧ x.frozen? ⟨b, 5, none⟩ = false ∧ x.frozen? ⟨b, 6, none⟩ = false := by
  simp [World.frozen?, h]
theorem box7u {x : World} {b : Nat} {c0 c1 c2 c3 c4 c5 c6 : Value} {t : TypeId} (h : x.heap[b]? = some (.cells #[c0, c1, c2, c3, c4, c5, c6] t)) :
    x.cell? ⟨b, 0, none⟩ = some c0 ∧ x.cell? ⟨b, 1, none⟩ = some c1 ∧ x.cell? ⟨b, 2, none⟩ = some c2 ∧ x.cell? ⟨b, 3, none⟩ = some c3 ∧ x.cell? ⟨b, 4, none⟩ = some c4 ∧ x.cell? ⟨b, 5, none⟩ = some c5 ∧ x.cell? ⟨b, 6, none⟩ = some c6 := by
  simp [World.cell?, h]
theorem ownA_set {g : Gr} {vs : List NdV} {a : Option Addr} {n c : Nat} {b : Option Addr} {m d : Nat} {x : World} {B : Nat} {cs : Array Value} (h : OwnG g vs a n c b m d x) (hb : x.heap[B]? = some (.cells cs 29)) (j : Nat) (v : Value) : OwnG g vs a n c b m d (x.setCell ⟨B, j, none⟩ v) :=
  ⟨⟨own_set h.nodes.row hb (by decide) _ _, h.nodes.len, fun i hi => ⟨(h.nodes.each i hi).1, own_set (h.nodes.each i hi).2 hb (by decide) _ _⟩⟩, own_set h.edges hb (by decide) _ _⟩
theorem rowV {w : World} {a : Option Addr} {R : List Va} {B : Nat} (h : R = [] ∨ ∃ gb, a = some ⟨gb, 0, none⟩ ∧ RS w gb R ∧ B ≤ gb) : RowAt w a (valR.flat R) := by
  rcases h with rfl | ⟨gb, rfl, h, -⟩
  · exact .inl rfl
  · exact h.holds
theorem cell_strz {P : Program} {w : World} {r : Reach} {base : Nat} {u : TypeId} {x : Value} (hu : P.underlying u = some .string) (h : Cell.okWide P w r base u x) : ∃ s, x = .string s ∧ s.size ≤ maxLen := by
  unfold Cell.okWide at h
  rw [hu] at h
  unfold Cell.ok at h
  rw [hu] at h
  cases x with
  | string s => exact ⟨s, rfl, by have h2 : (s.size : Int) ≤ 9223372036854775807 := h; unfold maxLen; omega⟩
  | _ => simp_all
theorem range_row {w : World} {B n c : Nat} {a : Option Addr} {N : Nat} (h : w.ownsRow B 3 1 (.slice a n c) N (natR.flat (List.range N))) : RowAt w a (ints (List.range N)) := by
  obtain ⟨a', c', e, hs⟩ := slX (X := List.range N) (by rw [List.length_range]; exact h)
  simp only [Value.slice.injEq] at e
  obtain ⟨rfl, -, -⟩ := e
  obtain ⟨a9, c9, e9, hr⟩ := hs.holds
  simp only [Value.slice.injEq] at e9
  obtain ⟨rfl, -, -⟩ := e9
  exact hr
theorem all_at {w : World} {a : Option Addr} {N : Nat} (h : RowAt w a (ints (List.range N))) {k : Nat} (hk : k < N) : ∃ b off, a = some ⟨b, off, none⟩ ∧ b < w.heap.size ∧ w.cell? ⟨b, off + k, none⟩ = some (.int .i64 (k : Int)) := by
  rcases h with h0 | ⟨b, off, rfl, hb, h3⟩
  · have := congrArg List.length h0
    simp [ints] at this
    omega
  · exact ⟨b, off, rfl, hb, h3 k _ (by simp [ints, hk])⟩
theorem RowAt.belowV {w z : World} {a : Option Addr} {xs : List Value} (h : RowAt w a xs) (hB : Below w.heap.size w z) : RowAt z a xs := h.below hB
end Go.Proofs.Ytnmjhbnadfjapaa
