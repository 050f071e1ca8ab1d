/-
  A GRAPH IN MEMORY OF ITS OWN: cut again, and kept. No function but Few is named here.
-/
import Derived.Test.YtjgddkbpfpgaoacGreatDoorGTurn2
import Derived.Test.YtjgddkbpfpgaoacGreatDoorGFew
import Derived.Test.YtjgddkbpfpgaoacGreatDoorPutT
import Derived.Test.YtjgddkbpfpgaoacGreatDoorGraphs
import Derived.Test.YtjgddkbpfpgaoacGreatDoorRGSame
import Derived.Test.YtjgddkbpfpgaoacGreatDoorRNames
namespace Go.Proofs.YtjgddkbpfpgaoacGreatDoor
open Go.ChangeShapes Go.WideShapes Go.ChangeAt Go.RowKit

def Pp.sm (p : Pp) : Prop := p.s.size ≤ 1000 ∧ p.t.size ≤ 1000
def Nd.sm (x : Nd) : Prop := x.l.size ≤ 1000 ∧ x.ps.length ≤ 1000 ∧ ∀ p ∈ x.ps, p.sm
def Gr.sm (g : Gr) : Prop := g.ns.length ≤ 1000 ∧ (∀ x ∈ g.ns, x.sm) ∧ g.es.length ≤ 1000 ∧ ∀ x ∈ g.es, x.l.size ≤ 1000
theorem cutB_few {s : ByteArray} {m : Nat} : cutB (cutB s m) m = cutB s m := by
  have h := cutB_size s m
  exact if_neg (by omega)
theorem Pp.few_few (p : Pp) : p.few.few = p.few := by simp [Pp.few, cutB_few]
theorem Nd.few_few (x : Nd) : x.few.few = x.few := by
  simp only [Nd.few, cutB_few, ← List.map_take, List.take_take, Nat.min_self, List.map_map]
  congr 1
  exact List.map_congr_left fun p _ => Pp.few_few p
theorem Eg.few_few (x : Eg) : x.few.few = x.few := by simp [Eg.few, cutB_few]
theorem Gr.few_few (g : Gr) : g.few.few = g.few := by
  simp only [Gr.few, ← List.map_take, List.take_take, Nat.min_self, List.map_map]
  congr 1
  · exact List.map_congr_left fun p _ => Nd.few_few p
  · exact List.map_congr_left fun p _ => Eg.few_few p
theorem Gr.few_sm (g : Gr) : g.few.sm := by
  refine ⟨by simp [Gr.few]; omega, fun x hx => ?_, by simp [Gr.few]; omega, fun x hx => ?_⟩
  · obtain ⟨y, _, rfl⟩ := List.mem_map.1 hx
    refine ⟨by have := cutB_size y.l 35; simp [Nd.few]; omega, by simp [Nd.few]; omega, fun p hp => ?_⟩
    obtain ⟨q, _, rfl⟩ := List.mem_map.1 hp
    exact ⟨by have := cutB_size q.s 35; simp [Pp.few]; omega, by have := cutB_size q.t 120; simp [Pp.few]; omega⟩
  · obtain ⟨y, _, rfl⟩ := List.mem_map.1 hx
    have := cutB_size y.l 35
    simp [Eg.few]; omega
theorem OwnG.holds {g : Gr} {vs : List NdV} {a : Option Addr} {n c : Nat} {b : Option Addr} {m d : Nat} {x : World} (h : OwnG g vs a n c b m d x) : HoldsG x (.slice a n c) (.slice b m d) g := ⟨h.nodes.holds, holdsR_of_owns h.edges⟩
theorem OwnG.set {g : Gr} {vs : List NdV} {a : Option Addr} {n c : Nat} {b : Option Addr} {m d : Nat} {x : World} {B : Nat} {cs : Array Value} (h : OwnG g vs a n c b m d x) (hb : x.heap[B]? = some (.cells cs 25)) (j : Nat) (v : Value) : OwnG g vs a n c b m d (x.setCell ⟨B, j, none⟩ v) :=
  ⟨h.nodes.set hb j v, own_set h.edges hb (by decide) _ _⟩
theorem OwnG.keep {g : Gr} {vs : List NdV} {a : Option Addr} {n c : Nat} {b : Option Addr} {m d : Nat} {x y : World} (h : OwnG g vs a n c b m d x) (hc : GoX.Calm x y) : OwnG g vs a n c b m d y := by
  have key : ∀ {B t s k : Nat} {v : Value} {xs : List Value}, x.ownsRow B t s v k xs → y.ownsRow B t s v k xs := fun {B t s k v xs} h => by
    refine ⟨h.1, ?_⟩
    rcases h.2 with h2 | ⟨g, cap, cur, h1, h2, h3, h4⟩
    · exact .inl h2
    · exact .inr ⟨g, cap, cur, h1, h2, (hc.block g (Array.getElem?_eq_some_iff.1 h3).1).trans h3, h4⟩
  exact ⟨⟨key h.nodes.row, h.nodes.len, fun i hi => ⟨(h.nodes.each i hi).1, key (h.nodes.each i hi).2⟩⟩, key h.edges⟩
theorem box_calm {x y : World} {b : Nat} {o : Obj} (h : x.heap[b]? = some o) (hc : GoX.Calm x y) : y.heap[b]? = some o := (hc.block _ (Array.getElem?_eq_some_iff.1 h).1).trans h
/-- A graph that is as cut as it may be, in memory of its own, is copied. -/
theorem gfewO_c (g : Gr) (vs : List NdV) (a : Option Addr) (n c : Nat) (b : Option Addr) (m d : Nat) (w : World) (hg : OwnG g vs a n c b m d w) (hf : g.few = g) (hs : g.sm) :
    Calls Tryz.prog 4 #[.agg #[.slice a n c, .slice b m d]] w fun e w' => ∃ (us : List NdV) (a' : Option Addr) (n' c' : Nat) (b' : Option Addr) (m' d' : Nat), e = .returned (.agg #[.slice a' n' c', .slice b' m' d']) ∧ OwnG g us a' n' c' b' m' d' w' ∧ GoX.Calm w w' :=
  (gfew_c g _ _ w hg.holds (by have := hs.1; omega) (by have := hs.2.2.1; omega) (fun x hx => by have := (hs.2.1 x hx).2.1; omega)).mono fun e w' ⟨us, a', n', c', b', m', d', he, h1, h2, hB⟩ => by
    rw [hf] at h1 h2
    exact ⟨us, a', n', c', b', m', d', he, ⟨h1, h2⟩, .of_below hB⟩
end Go.Proofs.YtjgddkbpfpgaoacGreatDoor
/-
  THE FIRST PROPERTY OF A NAME: the program's and the reference's, by contract.
-/
namespace Go.Proofs.YtjgddkbpfpgaoacGreatDoor
open Go.ChangeShapes Go.WideShapes Go.ChangeAt Go.RowKit

/-- The first property of a name, or none. -/
def pv (ps : List Pp) (s : ByteArray) : Pp := (ps.find? fun p => p.s.toList == s.toList).getD Pp.none
theorem pv_hit {ps : List Pp} {s : ByteArray} {k : Nat} (hk : k < ps.length) (hlow : ∀ j, j < k → ((ps.getD j Pp.none).s.toList == s.toList) = false) (he : ((ps.getD k Pp.none).s.toList == s.toList) = true) : pv ps s = ps.getD k Pp.none := by
  unfold pv
  have h1 : ps.find? (fun p => p.s.toList == s.toList) = some (ps.getD k Pp.none) := by
    rw [List.find?_eq_some_iff_getElem]
    refine ⟨he, k, hk, by simp [List.getD, hk], fun j hj => ?_⟩
    have := hlow j hj
    rw [show ps.getD j Pp.none = ps[j]'(by omega) by simp [List.getD, show j < ps.length by omega]] at this
    simp [this]
  rw [h1]; rfl
theorem pv_miss {ps : List Pp} {s : ByteArray} (hlow : ∀ j, j < ps.length → ((ps.getD j Pp.none).s.toList == s.toList) = false) : pv ps s = Pp.none := by
  unfold pv
  have h1 : ps.find? (fun p => p.s.toList == s.toList) = none := by
    rw [List.find?_eq_none]
    intro p hp
    obtain ⟨j, hj, rfl⟩ := List.getElem_of_mem hp
    have := hlow j hj
    rw [show ps.getD j Pp.none = ps[j] by simp [List.getD, hj]] at this
    simp [this]
  rw [h1]; rfl
theorem low_next {ps : List Pp} {s : ByteArray} {k : Nat} (hlow : ∀ j, j < k → ((ps.getD j Pp.none).s.toList == s.toList) = false) (he : ((ps.getD k Pp.none).s.toList == s.toList) = false) : ∀ j, j < k + 1 → ((ps.getD j Pp.none).s.toList == s.toList) = false := fun j hj => by
  rcases Nat.lt_or_ge j k with h | h
  · exact hlow j h
  · obtain rfl : j = k := by omega
    exact he
theorem heap_set3 {x : World} {b : Nat} {a0 a1 a2 : Value} {t : TypeId} (h : x.heap[b]? = some (.cells #[a0, a1, a2] t)) (u0 u1 u2 : Value) :
    (((x.setCell ⟨b, 0, none⟩ u0).setCell ⟨b, 1, none⟩ u1).setCell ⟨b, 2, none⟩ u2).heap[b]? = some (.cells #[u0, u1, u2] t) := by
  have h1 := set_heap h 0 u0
  have h2 := set_heap h1 1 u1
  have h3 := set_heap h2 2 u2
  simpa using h3
theorem box3f {x : World} {b : Nat} {c0 c1 c2 : Value} {t : TypeId} (h : x.heap[b]? = some (.cells #[c0, c1, c2] t)) :
    (x.cell? ⟨b, 0, none⟩ = some c0 ∧ x.cell? ⟨b, 1, none⟩ = some c1 ∧ x.cell? ⟨b, 2, none⟩ = some c2) ∧ x.frozen? ⟨b, 0, none⟩ = false ∧ x.frozen? ⟨b, 1, none⟩ = false ∧ x.frozen? ⟨b, 2, none⟩ = false := by
  simp [World.cell?, World.frozen?, h]
set_option maxRecDepth 100000 in
set_option maxHeartbeats 3200000 in
theorem prop_c (l s : ByteArray) (ps : List Pp) (pa : Option Addr) (pc : Nat) (w : World) (hp : RowAt w pa (propR.flat ps)) (hl : ps.length ≤ 1000000) :
    Calls Tryz.prog 6 #[.agg #[.string l, .slice pa ps.length pc], .string s] w fun e w' => e = .returned (.agg #[.int .i64 (pv ps s).k, .int .i64 (pv ps s).n, .string (pv ps s).t]) ∧ Below w.heap.size w w' := by
  obtain ⟨N, hN⟩ : ∃ N, N = ps.length := ⟨_, rfl⟩
  rw [← hN] at hl ⊢
  replace hN := hidden hN
  replace hp := hidden hp
  have hX := hidden (heap_alloc_old (w.alloc (.cells #[.string l, .slice pa N pc] 33)) (.cells #[.int .i64 0, .int .i64 0, .string ⟨#[]⟩] 29) (by simp) |>.trans (heap_alloc_new w (.cells #[.string l, .slice pa N pc] 33)))
  have hV : Hid (((w.alloc (.cells #[.string l, .slice pa N pc] 33)).alloc (.cells #[.int .i64 0, .int .i64 0, .string ⟨#[]⟩] 29)).heap[w.heap.size + 1]? = some (.cells #[.int .i64 0, .int .i64 0, .string ⟨#[]⟩] 29)) := by
    have h := heap_alloc_new (w.alloc (.cells #[.string l, .slice pa N pc] 33)) (.cells #[.int .i64 0, .int .i64 0, .string ⟨#[]⟩] 29)
    rwa [show (w.alloc (.cells #[.string l, .slice pa N pc] 33)).heap.size = w.heap.size + 1 by simp] at h
  have hB0 := hidden (((Below.refl w.heap.size w).alloc (Nat.le_refl _) (.cells #[.string l, .slice pa N pc] 33)).alloc (by simp) (.cells #[.int .i64 0, .int .i64 0, .string ⟨#[]⟩] 29))
  obtain ⟨⟨x0, x1⟩, -⟩ := box2f hX.out
  clear hX
  go_enter Tryz.func6, Tryz.ntmps6
  go_wp2
  clear x0 x1
  go_loopw [10] (fun i x => ∃ k : Nat, k ≤ N ∧ i = .int .i64 k ∧ Hid (∀ j, j < k → ((ps.getD j Pp.none).s.toList == s.toList) = false) ∧ Hid (x.heap[w.heap.size + 1]? = some (.cells #[.int .i64 0, .int .i64 0, .string ⟨#[]⟩] 29)) ∧ Hid (Below w.heap.size w x)) (fun i _ => N - (intOf i).toNat)
  case atStart => exact ⟨0, Nat.zero_le _, rfl, (fun j hj => absurd hj (Nat.not_lt_zero j) : ∀ j, j < 0 → _), hV, hB0⟩
  case round =>
    clear hV hB0
    obtain ⟨k, hk, rfl, hlow, hV, hB⟩ := hrel
    by_cases hlt : k < N
    · have hlt' : (k : Int) < (N : Int) := by omega
      have hlE : k < ps.length := by rw [← hN.out]; exact hlt
      obtain ⟨b5, o5, rfl, hb5, e0, e1, e2, e3⟩ := prop_at (hp.out.below hB.out) hlE
      have hhit := hidden (pv_hit hlE hlow.out)
      have hnext := hidden (low_next (k := k) hlow.out)
      clear hlow
      generalize ps.getD k Pp.none = q at *
      obtain ⟨qs, qk, qn, qt⟩ := q
      simp only at e0 e1 e2 e3 hhit hnext
      have hVA := hidden (heap_alloc_old wr (.cells #[.string qs, .int .i64 qk, .int .i64 qn, .string qt] 43) (Array.getElem?_eq_some_iff.1 hV.out).1 |>.trans hV.out)
      have hBA := hidden (hB.out.alloc hB.out.size (.cells #[.string qs, .int .i64 qk, .int .i64 qn, .string qt] 43))
      obtain ⟨⟨p0, p1, p2, p3⟩, -⟩ := box4f (heap_alloc_new wr (.cells #[.string qs, .int .i64 qk, .int .i64 qn, .string qt] 43))
      obtain ⟨⟨v0, v1, v2⟩, f0, f1, f2⟩ := box3f hVA.out
      clear hV hB
      cases hq : (qs.toList == s.toList) with
      | false =>
        have hlow2 := hidden (hnext.out hq)
        clear hhit hnext
        go_wp2
        go_roundw
        case rel => exact ⟨k + 1, by omega, by go_num, hlow2, hVA, hBA⟩
        case measure => simp [intOf]; omega
      | true =>
        have hpv := hidden (hhit.out hq)
        have hfin := hidden (heap_set3 hVA.out (.int .i64 qk) (.int .i64 qn) (.string qt))
        have hBF := hidden (((hBA.out.setCell (p := ⟨w.heap.size + 1, 0, none⟩) (show w.heap.size ≤ w.heap.size + 1 by omega) (.int .i64 qk)).setCell (p := ⟨w.heap.size + 1, 1, none⟩) (show w.heap.size ≤ w.heap.size + 1 by omega) (.int .i64 qn)).setCell (p := ⟨w.heap.size + 1, 2, none⟩) (show w.heap.size ≤ w.heap.size + 1 by omega) (.string qt))
        clear hhit hnext hVA hBA
        go_wp2
        refine bodyPost_ret (results_cell_row rfl _ _ (w.heap.size + 1) _ _ _ _ rfl hfin.out Tryz.underlying29 rfl (by kernel_rfl)) rfl ⟨by rw [hpv.out]; first | done | rfl, hBF.out⟩
    · have hlt' : ¬ (k : Int) < (N : Int) := by omega
      obtain rfl : k = N := by omega
      have hpv := hidden (pv_miss (ps := ps) (s := s) (by rw [← hN.out]; exact hlow.out))
      obtain ⟨⟨v0, v1, v2⟩, f0, f1, f2⟩ := box3f hV.out
      have hfin := hidden (heap_set3 hV.out (.int .i64 0) (.int .i64 0) (.string ⟨#[]⟩))
      have hBF := hidden (((hB.out.setCell (p := ⟨w.heap.size + 1, 0, none⟩) (show w.heap.size ≤ w.heap.size + 1 by omega) (.int .i64 0)).setCell (p := ⟨w.heap.size + 1, 1, none⟩) (show w.heap.size ≤ w.heap.size + 1 by omega) (.int .i64 0)).setCell (p := ⟨w.heap.size + 1, 2, none⟩) (show w.heap.size ≤ w.heap.size + 1 by omega) (.string ⟨#[]⟩))
      clear hlow hV hB
      go_wp2
      refine bodyPost_ret (results_cell_row rfl _ _ (w.heap.size + 1) _ _ _ _ rfl hfin.out Tryz.underlying29 rfl (by kernel_rfl)) rfl ⟨by rw [hpv.out]; first | done | rfl, hBF.out⟩
set_option maxRecDepth 100000 in
set_option maxHeartbeats 3200000 in
theorem rprop_c (l s : ByteArray) (ps : List Pp) (pa : Option Addr) (pc : Nat) (w : World) (hp : RowAt w pa (propR.flat ps)) (hl : ps.length ≤ 1000000) :
    Calls Tryz.prog 7 #[.agg #[.string l, .slice pa ps.length pc], .string s] w fun e w' => e = .returned (.agg #[.int .i64 (pv ps s).k, .int .i64 (pv ps s).n, .string (pv ps s).t]) ∧ Below w.heap.size w w' := by
  obtain ⟨N, hN⟩ : ∃ N, N = ps.length := ⟨_, rfl⟩
  rw [← hN] at hl ⊢
  replace hN := hidden hN
  replace hp := hidden hp
  have hX := hidden (heap_alloc_old (w.alloc (.cells #[.string l, .slice pa N pc] 33)) (.cells #[.int .i64 0, .int .i64 0, .string ⟨#[]⟩] 29) (by simp) |>.trans (heap_alloc_new w (.cells #[.string l, .slice pa N pc] 33)))
  have hV : Hid (((w.alloc (.cells #[.string l, .slice pa N pc] 33)).alloc (.cells #[.int .i64 0, .int .i64 0, .string ⟨#[]⟩] 29)).heap[w.heap.size + 1]? = some (.cells #[.int .i64 0, .int .i64 0, .string ⟨#[]⟩] 29)) := by
    have h := heap_alloc_new (w.alloc (.cells #[.string l, .slice pa N pc] 33)) (.cells #[.int .i64 0, .int .i64 0, .string ⟨#[]⟩] 29)
    rwa [show (w.alloc (.cells #[.string l, .slice pa N pc] 33)).heap.size = w.heap.size + 1 by simp] at h
  have hB0 := hidden (((Below.refl w.heap.size w).alloc (Nat.le_refl _) (.cells #[.string l, .slice pa N pc] 33)).alloc (by simp) (.cells #[.int .i64 0, .int .i64 0, .string ⟨#[]⟩] 29))
  obtain ⟨⟨x0, x1⟩, -⟩ := box2f hX.out
  go_enter Tryz.func7, Tryz.ntmps7
  go_wp2
  clear x0 x1
  go_loopw [5] (fun i x => ∃ k : Nat, k ≤ N ∧ i = .int .i64 k ∧ Hid (∀ j, j < k → ((ps.getD j Pp.none).s.toList == s.toList) = false) ∧ Hid (x.heap[w.heap.size + 1]? = some (.cells #[.int .i64 0, .int .i64 0, .string ⟨#[]⟩] 29)) ∧ Hid (Below w.heap.size w x) ∧ Hid (x.heap[w.heap.size]? = some (.cells #[.string l, .slice pa N pc] 33))) (fun i _ => N - (intOf i).toNat)
  case atStart => exact ⟨0, Nat.zero_le _, rfl, (fun j hj => absurd hj (Nat.not_lt_zero j) : ∀ j, j < 0 → _), hV, hB0, hX⟩
  case round =>
    clear hV hB0 hX
    obtain ⟨k, hk, rfl, hlow, hV, hB, hX⟩ := hrel
    obtain ⟨⟨x0, x1⟩, -⟩ := box2f hX.out
    by_cases hlt : k < N
    · have hlt' : (k : Int) < (N : Int) := by omega
      have hlE : k < ps.length := by rw [← hN.out]; exact hlt
      obtain ⟨b5, o5, rfl, hb5, e0, e1, e2, e3⟩ := prop_at (hp.out.below hB.out) hlE
      have hhit := hidden (pv_hit hlE hlow.out)
      have hnext := hidden (low_next (k := k) hlow.out)
      clear hlow
      generalize ps.getD k Pp.none = q at *
      obtain ⟨qs, qk, qn, qt⟩ := q
      simp only at e0 e1 e2 e3 hhit hnext
      obtain ⟨⟨v0, v1, v2⟩, f0, f1, f2⟩ := box3f hV.out
      cases hq : (qs.toList == s.toList) with
      | false =>
        have hlow2 := hidden (hnext.out hq)
        clear hhit hnext
        go_wp2
        go_roundw
        case rel => exact ⟨k + 1, by omega, by go_num, hlow2, hV, hB, hX⟩
        case measure => simp [intOf]; omega
      | true =>
        have hpv := hidden (hhit.out hq)
        have hfin := hidden (heap_set3 hV.out (.int .i64 qk) (.int .i64 qn) (.string qt))
        have hBF := hidden (((hB.out.setCell (p := ⟨w.heap.size + 1, 0, none⟩) (show w.heap.size ≤ w.heap.size + 1 by omega) (.int .i64 qk)).setCell (p := ⟨w.heap.size + 1, 1, none⟩) (show w.heap.size ≤ w.heap.size + 1 by omega) (.int .i64 qn)).setCell (p := ⟨w.heap.size + 1, 2, none⟩) (show w.heap.size ≤ w.heap.size + 1 by omega) (.string qt))
        clear hhit hnext hV hB hX
        go_wp2
        refine bodyPost_ret (results_cell_row rfl _ _ (w.heap.size + 1) _ _ _ _ rfl hfin.out Tryz.underlying29 rfl (by kernel_rfl)) rfl ⟨by rw [hpv.out]; first | done | rfl, hBF.out⟩
    · have hlt' : ¬ (k : Int) < (N : Int) := by omega
      obtain rfl : k = N := by omega
      have hpv := hidden (pv_miss (ps := ps) (s := s) (by rw [← hN.out]; exact hlow.out))
      obtain ⟨⟨v0, v1, v2⟩, f0, f1, f2⟩ := box3f hV.out
      have hfin := hidden (heap_set3 hV.out (.int .i64 0) (.int .i64 0) (.string ⟨#[]⟩))
      have hBF := hidden (((hB.out.setCell (p := ⟨w.heap.size + 1, 0, none⟩) (show w.heap.size ≤ w.heap.size + 1 by omega) (.int .i64 0)).setCell (p := ⟨w.heap.size + 1, 1, none⟩) (show w.heap.size ≤ w.heap.size + 1 by omega) (.int .i64 0)).setCell (p := ⟨w.heap.size + 1, 2, none⟩) (show w.heap.size ≤ w.heap.size + 1 by omega) (.string ⟨#[]⟩))
      clear hlow hV hB hX
      go_wp2
      refine bodyPost_ret (results_cell_row rfl _ _ (w.heap.size + 1) _ _ _ _ rfl hfin.out Tryz.underlying29 rfl (by kernel_rfl)) rfl ⟨by rw [hpv.out]; first | done | rfl, hBF.out⟩
end Go.Proofs.YtjgddkbpfpgaoacGreatDoor
/-
  ROWS OF TEXTS HELD AGAINST EACH OTHER (where they are the same), by contract.
-/
namespace Go.Proofs.YtjgddkbpfpgaoacGreatDoor
open Go.ChangeShapes Go.WideShapes Go.ChangeAt Go.RowKit

set_option maxRecDepth 100000 in
set_option maxHeartbeats 3200000 in
theorem sameT_c (L : List ByteArray) (a b : Option Addr) (ca cb : Nat) (w : World) (ha : RowAt w a (tx L)) (hb : RowAt w b (tx L)) (hl : L.length ≤ 1000000) :
    Calls Tryz.prog 11 #[.slice a L.length ca, .slice b L.length cb] w fun e w' => e = .returned (.bool true) ∧ Below w.heap.size w w' := by
  obtain ⟨N, hN⟩ : ∃ N, N = L.length := ⟨_, rfl⟩
  rw [← hN] at hl ⊢
  have hl1 : ((N : Int) != (N : Int)) = false := by simp
  replace hN := hidden hN
  replace ha := hidden ha
  replace hb := hidden hb
  go_enter Tryz.func11, Tryz.ntmps11
  go_wp2
  clear hl1
  go_loopw [5] (fun i wr => ∃ k : Nat, k ≤ N ∧ i = .int .i64 k ∧ Hid (Below w.heap.size w wr)) (fun i _ => N - (intOf i).toNat)
  case atStart => exact ⟨0, Nat.zero_le _, rfl, Below.refl _ _⟩
  case round =>
    obtain ⟨k, hk, rfl, hB⟩ := hrel
    by_cases hlt : k < N
    · have hlt' : (k : Int) < (N : Int) := by omega
      have hlx : k < L.length := by rw [← hN.out]; exact hlt
      have hr1 := ha.out.below hB.out
      have hr2 := hb.out.below hB.out
      rcases hr1 with h0 | ⟨b1, o1, rfl, _, hc1⟩
      · have := congrArg List.length h0
        rw [tx_len] at this
        simp only [List.length_nil] at this; omega
      rcases hr2 with h0 | ⟨b2, o2, rfl, _, hc2⟩
      · have := congrArg List.length h0
        rw [tx_len] at this
        simp only [List.length_nil] at this; omega
      have c0 := hc1 k _ (tx_at L ⟨#[]⟩ k hlx)
      have d0 := hc2 k _ (tx_at L ⟨#[]⟩ k hlx)
      clear hc1 hc2
      generalize L.getD k ⟨#[]⟩ = x at *
      have hq : (x.toList == x.toList) = true := by simp
      go_wp2
      go_quiet (fail)
      go_wp2
      go_roundw
      case rel => exact ⟨k + 1, by omega, by go_num, below_drewN hB.out _⟩
      case measure => simp [intOf]; omega
    · have hlt' : ¬ (k : Int) < (N : Int) := by omega
      go_wp2
      go_ret
      exact ⟨rfl, hB.out⟩
end Go.Proofs.YtjgddkbpfpgaoacGreatDoor
/-
  WHAT IS TOLD OF A GRAPH OF ITS OWN: the contracts, each in one form.
-/
namespace Go.Proofs.YtjgddkbpfpgaoacGreatDoor
open Go.ChangeShapes Go.WideShapes Go.ChangeAt Go.RowKit

theorem OwnG.below {g : Gr} {vs : List NdV} {a : Option Addr} {n c : Nat} {b : Option Addr} {m d : Nat} {x y : World} (h : OwnG g vs a n c b m d x) (hB : Below x.heap.size x y) : OwnG g vs a n c b m d y := h.keep (.of_below hB)
/-- Texts that a slice holds. -/
def TxtO (x : World) (a : Option Addr) (L : List ByteArray) : Prop := RowAt x a (tx L)
theorem owns_tx {w : World} {B t n m c : Nat} {a : Option Addr} {L : List ByteArray} (h : w.ownsRow B t 1 (.slice a n c) m (tx L)) : RowAt w a (tx L) := by
  obtain ⟨a', c', he, hr⟩ := holds_of_owns h
  simp only [Value.slice.injEq] at he
  obtain ⟨rfl, _, _⟩ := he
  exact hr
theorem sl_tx {w : World} {n c : Nat} {a : Option Addr} {L : List ByteArray} (h : Sl w (.slice a n c) (tx L)) : RowAt w a (tx L) := by
  obtain ⟨a', c', he, _, _, _, hr⟩ := h
  simp only [Value.slice.injEq] at he
  obtain ⟨rfl, _, _⟩ := he
  exact hr
theorem few_b (g : Gr) (vs : List NdV) (a : Option Addr) (n c : Nat) (b : Option Addr) (m d : Nat) (w : World) (hg : OwnG g vs a n c b m d w) (hf : g.few = g) (hs : g.sm) :
    Calls Tryz.prog 4 #[.agg #[.slice a n c, .slice b m d]] w fun e w' => ∃ (us : List NdV) (a' : Option Addr) (n' c' : Nat) (b' : Option Addr) (m' d' : Nat), e = .returned (.agg #[.slice a' n' c', .slice b' m' d']) ∧ OwnG g us a' n' c' b' m' d' w' ∧ Below w.heap.size w w' :=
  (gfew_c g _ _ w hg.holds (by have := hs.1; omega) (by have := hs.2.2.1; omega) (fun x hx => by have := (hs.2.1 x hx).2.1; omega)).mono fun e w' ⟨us, a', n', c', b', m', d', he, h1, h2, hB⟩ => by
    rw [hf] at h1 h2
    exact ⟨us, a', n', c', b', m', d', he, ⟨h1, h2⟩, hB⟩
theorem turn_b (g : Gr) (vs : List NdV) (a : Option Addr) (n c : Nat) (b : Option Addr) (m d : Nat) (w : World) (hg : OwnG g vs a n c b m d w) (hs : g.sm) :
    Calls Tryz.prog 9 #[.agg #[.slice a n c, .slice b m d]] w fun e w' => ∃ (us : List NdV) (a' : Option Addr) (n' c' : Nat) (b' : Option Addr) (m' d' : Nat), e = .returned (.agg #[.slice a' n' c', .slice b' m' d']) ∧ OwnG g.turn us a' n' c' b' m' d' w' ∧ Below w.heap.size w w' :=
  turn_c g vs a n c b m d w hg (by have := hs.1; omega) (by have := hs.2.2.1; omega) (fun x hx => by have := (hs.2.1 x hx).2.1; omega)
theorem Gr.turn_sm {g : Gr} (hs : g.sm) : g.turn.sm := by
  obtain ⟨h1, h2, h3, h4⟩ := hs
  refine ⟨h1, h2, by simpa [Gr.turn] using h3, fun x hx => ?_⟩
  obtain ⟨y, hy, rfl⟩ := List.mem_map.1 hx
  exact h4 y hy
theorem same_b (g h : Gr) (vs us : List NdV) (a : Option Addr) (n c : Nat) (b : Option Addr) (m d : Nat) (a' : Option Addr) (n' c' : Nat) (b' : Option Addr) (m' d' : Nat) (w : World) (hg : OwnG g vs a n c b m d w) (hh : OwnG h us a' n' c' b' m' d' w) (hs : g.sm) :
    Calls Tryz.prog 10 #[.agg #[.slice a n c, .slice b m d], .agg #[.slice a' n' c', .slice b' m' d']] w fun e w' => e = .returned (.bool (eqB g h)) ∧ Below w.heap.size w w' := by
  obtain ⟨rfl, rfl⟩ := hg.len
  obtain ⟨rfl, rfl⟩ := hh.len
  exact gsame_c g h a b a' b' c d c' d' w hg.nodes.holds hg.edge hh.nodes.holds hh.edge (by have := hs.1; omega) (by have := hs.2.2.1; omega) (fun x hx => by have := (hs.2.1 x hx).2.1; omega)
theorem rsame_b (g h : Gr) (vs us : List NdV) (a : Option Addr) (n c : Nat) (b : Option Addr) (m d : Nat) (a' : Option Addr) (n' c' : Nat) (b' : Option Addr) (m' d' : Nat) (w : World) (hg : OwnG g vs a n c b m d w) (hh : OwnG h us a' n' c' b' m' d' w) (hs : g.sm) :
    Calls Tryz.prog 8 #[.agg #[.slice a n c, .slice b m d], .agg #[.slice a' n' c', .slice b' m' d']] w fun e w' => e = .returned (.bool (eqB g h)) ∧ Below w.heap.size w w' := by
  obtain ⟨rfl, rfl⟩ := hg.len
  obtain ⟨rfl, rfl⟩ := hh.len
  exact rgsame_c g h a b a' b' c d c' d' w hg.nodes.holds hg.edge hh.nodes.holds hh.edge (by have := hs.1; omega) (by have := hs.2.2.1; omega) (fun x hx => by have := (hs.2.1 x hx).2.1; omega)
/-- A list that the program and the reference tell alike. -/
def Told (ls : List ByteArray) (L : List ByteArray) : Prop := StrictT L ∧ ∀ x, x ∈ L ↔ x ∈ ls
theorem Told.one {ls L M : List ByteArray} (h : Told ls L) (h' : Told ls M) : L = M := h.1.same h'.1 fun x => (h.2 x).trans (h'.2 x).symm
theorem labels_b (g : Gr) (vs : List NdV) (a : Option Addr) (n c : Nat) (b : Option Addr) (m d : Nat) (w : World) (hg : OwnG g vs a n c b m d w) (hs : g.sm) :
    Calls Tryz.prog 12 #[.agg #[.slice a n c, .slice b m d]] w fun e w' => ∃ (q : Option Addr) (L : List ByteArray) (cap : Nat), e = .returned (.slice q (List.length L) cap) ∧ Told (g.es.map Eg.l) L ∧ RowAt w' q (tx L) ∧ Below w.heap.size w w' := by
  obtain ⟨rfl, rfl⟩ := hg.len
  exact (labels_c g.es a _ c b d w hg.edge (by have := hs.2.2.1; omega) hs.2.2.2).mono fun e w' ⟨g', cap, L, he, h1, h2, h3, h4⟩ => ⟨_, L, cap, he, ⟨h1, h2⟩, owns_tx h3, h4⟩
theorem rlabels_b (g : Gr) (vs : List NdV) (a : Option Addr) (n c : Nat) (b : Option Addr) (m d : Nat) (w : World) (hg : OwnG g vs a n c b m d w) (hs : g.sm) :
    Calls Tryz.prog 13 #[.agg #[.slice a n c, .slice b m d]] w fun e w' => ∃ (q : Option Addr) (L : List ByteArray) (cap : Nat), e = .returned (.slice q (List.length L) cap) ∧ Told (g.es.map Eg.l) L ∧ RowAt w' q (tx L) ∧ List.length L ≤ 1000000 ∧ Below w.heap.size w w' := by
  obtain ⟨rfl, rfl⟩ := hg.len
  exact (rlabels_c g.es a _ c b d w hg.edge (by have := hs.2.2.1; omega)).mono fun e w' ⟨g', og, cap, L, he, h⟩ => ⟨_, L, cap, he, ⟨h.strict, h.mem⟩, sl_tx h.sl, (by have h1 := h.len; rw [List.length_map] at h1; have := hs.2.2.1; omega), h.below⟩
theorem kinds_b (g : Gr) (vs : List NdV) (a : Option Addr) (n c : Nat) (b : Option Addr) (m d : Nat) (w : World) (hg : OwnG g vs a n c b m d w) (hs : g.sm) :
    Calls Tryz.prog 14 #[.agg #[.slice a n c, .slice b m d]] w fun e w' => ∃ (q : Option Addr) (L : List ByteArray) (cap : Nat), e = .returned (.slice q (List.length L) cap) ∧ Told (g.ns.map Nd.l) L ∧ RowAt w' q (tx L) ∧ Below w.heap.size w w' := by
  obtain ⟨rfl, rfl⟩ := hg.len
  exact (kinds_c g.ns a c b _ d w hg.nodes.holds (by have := hs.1; omega) (fun x hx => (hs.2.1 x hx).1)).mono fun e w' ⟨g', cap, L, he, h1, h2, h3, h4⟩ => ⟨_, L, cap, he, ⟨h1, h2⟩, owns_tx h3, h4⟩
theorem rkinds_b (g : Gr) (vs : List NdV) (a : Option Addr) (n c : Nat) (b : Option Addr) (m d : Nat) (w : World) (hg : OwnG g vs a n c b m d w) (hs : g.sm) :
    Calls Tryz.prog 15 #[.agg #[.slice a n c, .slice b m d]] w fun e w' => ∃ (q : Option Addr) (L : List ByteArray) (cap : Nat), e = .returned (.slice q (List.length L) cap) ∧ Told (g.ns.map Nd.l) L ∧ RowAt w' q (tx L) ∧ List.length L ≤ 1000000 ∧ Below w.heap.size w w' := by
  obtain ⟨rfl, rfl⟩ := hg.len
  exact (rkinds_c g.ns a c b _ d w hg.nodes.holds (by have := hs.1; omega)).mono fun e w' ⟨g', og, cap, L, he, h⟩ => ⟨_, L, cap, he, ⟨h.strict, h.mem⟩, sl_tx h.sl, (by have h1 := h.len; rw [List.length_map] at h1; have := hs.1; omega), h.below⟩
/-- Cut so, a graph has few names. -/
def Gr.fewN (g : Gr) : Prop := (namesL g.ns).length ≤ 90000
theorem few_names (G : Gr) : G.few.fewN := by
  unfold Gr.fewN namesL
  have h : ∀ l : List Nd, (∀ x ∈ l, x.ps.length ≤ 10) → ((l.flatMap fun x => x.ps.map Pp.s)).length ≤ l.length * 10 := by
    intro l
    induction l with
    | nil => intro _; simp
    | cons x l ih =>
      intro hx
      rw [List.flatMap_cons, List.length_append, List.length_map, List.length_cons, Nat.add_mul]
      have h1 := hx x (by simp)
      have h2 := ih fun y hy => hx y (by simp [hy])
      omega
  have h2 := h G.few.ns fun x hx => by
    obtain ⟨y, _, rfl⟩ := List.mem_map.1 hx
    simp [Nd.few]; omega
  have h3 : G.few.ns.length ≤ 10 := by simp [Gr.few]; omega
  omega
theorem names_sm {g : Gr} (hs : g.sm) : ∀ x ∈ namesL g.ns, x.size ≤ 1000 := fun x hx => by
  obtain ⟨y, hy, hx⟩ := List.mem_flatMap.1 hx
  obtain ⟨p, hp, rfl⟩ := List.mem_map.1 hx
  exact ((hs.2.1 y hy).2.2 p hp).1
theorem names_b (g : Gr) (vs : List NdV) (a : Option Addr) (n c : Nat) (b : Option Addr) (m d : Nat) (w : World) (hg : OwnG g vs a n c b m d w) (hs : g.sm) (hn : g.fewN) :
    Calls Tryz.prog 16 #[.agg #[.slice a n c, .slice b m d]] w fun e w' => ∃ (q : Option Addr) (L : List ByteArray) (cap : Nat), e = .returned (.slice q (List.length L) cap) ∧ Told (namesL g.ns) L ∧ RowAt w' q (tx L) ∧ Below w.heap.size w w' := by
  obtain ⟨rfl, rfl⟩ := hg.len
  unfold Gr.fewN at hn
  exact (names_c g.ns a c b _ d w hg.nodes.holds (by have := hs.1; omega) (by omega) (names_sm hs)).mono fun e w' ⟨g', cap, L, he, h1, h2, h3, h4⟩ => ⟨_, L, cap, he, ⟨h1, h2⟩, owns_tx h3, h4⟩
theorem rnames_b (g : Gr) (vs : List NdV) (a : Option Addr) (n c : Nat) (b : Option Addr) (m d : Nat) (w : World) (hg : OwnG g vs a n c b m d w) (hs : g.sm) (hn : g.fewN) :
    Calls Tryz.prog 17 #[.agg #[.slice a n c, .slice b m d]] w fun e w' => ∃ (q : Option Addr) (L : List ByteArray) (cap : Nat), e = .returned (.slice q (List.length L) cap) ∧ Told (namesL g.ns) L ∧ RowAt w' q (tx L) ∧ List.length L ≤ 1000000 ∧ Below w.heap.size w w' := by
  obtain ⟨rfl, rfl⟩ := hg.len
  exact (rnames_c g.ns a c b _ d w hg.nodes.holds (by have := hs.1; omega) hn).mono fun e w' ⟨g', og, cap, L, he, h⟩ => ⟨_, L, cap, he, ⟨h.strict, h.mem⟩, sl_tx h.sl, (by have h1 := h.len; unfold Gr.fewN at hn; omega), h.below⟩
end Go.Proofs.YtjgddkbpfpgaoacGreatDoor
/-
  A GRAPH OF ITS OWN IN A BOX, whose edges are turned in place.
-/
namespace Go.Proofs.YtjgddkbpfpgaoacGreatDoor
open Go.ChangeShapes Go.WideShapes Go.ChangeAt Go.RowKit

/-- A graph in a box, from some block on. -/
structure T8 (w x : World) (b3 : Nat) (a : Option Addr) (c : Nat) (b : Option Addr) (d : Nat) (vs : List NdV) (ns : List Nd) (es : List Eg) : Prop where
  below : Below w.heap.size w x
  box : x.heap[b3]? = some (.cells #[.slice a ns.length c, .slice b es.length d] 25)
  nodes : NodesAt w.heap.size (.slice a ns.length c) vs ns x
  edges : x.ownsRow w.heap.size 35 4 (.slice b es.length d) es.length (edgeR.flat es)
theorem T8.step {w x z : World} {b3 : Nat} {a : Option Addr} {c : Nat} {b : Option Addr} {d : Nat} {vs : List NdV} {ns : List Nd} {es : List Eg} (h : T8 w x b3 a c b d vs ns es) (hB : Below x.heap.size x z) : T8 w z b3 a c b d vs ns es :=
  ⟨h.below.trans (hB.mono h.below.size), box_below h.box hB, h.nodes.step hB, owns_keep h.edges hB⟩
theorem T8.edge {w x : World} {b3 : Nat} {a : Option Addr} {c : Nat} {E d : Nat} {vs : List NdV} {ns : List Nd} {es : List Eg} (h : T8 w x b3 a c (some ⟨E, 0, none⟩) d vs ns es) {k : Nat} (hk : k < es.length) (f t : Int) :
    T8 w ((x.setCell ⟨E, k * 4, none⟩ (.int .i64 f)).setCell ⟨E, k * 4 + 1, none⟩ (.int .i64 t)) b3 a c (some ⟨E, 0, none⟩) d vs ns (es.set k ⟨f, t, (es.getD k Eg.none).l, (es.getD k Eg.none).w⟩) := by
  obtain ⟨G', cur, he, hBG, hG⟩ := own_block h.edges (by omega)
  simp only [Option.some.injEq, Addr.mk.injEq, and_true] at he
  subst he
  obtain ⟨s1, -⟩ := h.edges.stored (k * 4) (.int .i64 f)
  obtain ⟨s3, -⟩ := s1.stored (k * 4 + 1) (.int .i64 t)
  have e1 := flat_set (R := edgeR) es k 0 ⟨f, (es.getD k Eg.none).t, (es.getD k Eg.none).l, (es.getD k Eg.none).w⟩ (.int .i64 f) hk (by decide) rfl
  have e2 := flat_set (R := edgeR) (es.set k ⟨f, (es.getD k Eg.none).t, (es.getD k Eg.none).l, (es.getD k Eg.none).w⟩) k 1 ⟨f, t, (es.getD k Eg.none).l, (es.getD k Eg.none).w⟩ (.int .i64 t) (by simpa using hk) (by decide) (by
    have : (es.set k ⟨f, (es.getD k Eg.none).t, (es.getD k Eg.none).l, (es.getD k Eg.none).w⟩).getD k edgeR.dflt = ⟨f, (es.getD k Eg.none).t, (es.getD k Eg.none).l, (es.getD k Eg.none).w⟩ := by simp [List.getD, hk]
    rw [this]; rfl)
  rw [List.set_set] at e2
  have hl2 : (es.set k ⟨f, t, (es.getD k Eg.none).l, (es.getD k Eg.none).w⟩).length = es.length := List.length_set ..
  have hG1 : ∃ cur', (x.setCell ⟨E, k * 4, none⟩ (.int .i64 f)).heap[E]? = some (.cells cur' 35 (0, 0)) := ⟨cur.setIfInBounds (k * 4) (.int .i64 f), by simp [World.setCell, Array.getElem?_modify, hG]⟩
  obtain ⟨cur', hG1⟩ := hG1
  have hst : ∀ {v : Value} {B te s n : Nat} {xs : List Value}, x.ownsRow B te s v n xs → te ≠ 35 → ((x.setCell ⟨E, k * 4, none⟩ (.int .i64 f)).setCell ⟨E, k * 4 + 1, none⟩ (.int .i64 t)).ownsRow B te s v n xs := fun h ht => own_setb (own_setb h hG ht _ _) hG1 ht _ _
  refine ⟨(h.below.setCell hBG _).setCell hBG _, ?_, ⟨hst h.nodes.row (by decide), h.nodes.len, fun i hi => ⟨(h.nodes.each i hi).1, hst (h.nodes.each i hi).2 (by decide)⟩⟩, ?_⟩
  · rw [hl2]
    exact box_setb (box_setb h.box hG (by decide) _ _) hG1 (by decide) _ _
  · rw [hl2, ← e2, ← e1]
    exact s3
theorem T8.edgeAt {w x : World} {b3 : Nat} {a : Option Addr} {c : Nat} {b : Option Addr} {d : Nat} {vs : List NdV} {ns : List Nd} {es : List Eg} (h : T8 w x b3 a c b d vs ns es) {k : Nat} (hk : k < es.length) :
    ∃ E, b = some ⟨E, 0, none⟩ ∧ w.heap.size ≤ E ∧ E < x.heap.size ∧ ¬ E = b3 ∧ x.cell? ⟨E, k * 4, none⟩ = some (.int .i64 (es.getD k Eg.none).f) ∧ x.cell? ⟨E, k * 4 + 1, none⟩ = some (.int .i64 (es.getD k Eg.none).t) ∧ x.cell? ⟨E, k * 4 + 2, none⟩ = some (.string (es.getD k Eg.none).l) ∧ x.cell? ⟨E, k * 4 + 3, none⟩ = some (.int .i64 (es.getD k Eg.none).w) ∧ (∀ j, x.frozen? ⟨E, j, none⟩ = false) := by
  obtain ⟨E, cur, rfl, hE, hh⟩ := own_block h.edges (by omega)
  obtain ⟨a', c', he, -, -, -, hr⟩ := slR_of_owns h.edges
  simp only [Value.slice.injEq] at he
  obtain ⟨rfl, _, _⟩ := he
  obtain ⟨B, off, heq, hb, c0, c1, c2, c3⟩ := edge_at hr hk
  simp only [Option.some.injEq, Addr.mk.injEq, and_true] at heq
  obtain ⟨rfl, rfl⟩ := heq
  rw [Nat.zero_add] at c0 c1 c2 c3
  refine ⟨E, rfl, hE, hb, fun e => ?_, c0, c1, c2, c3, fun j => by simp [World.frozen?, hh]⟩
  subst e
  have := h.box
  rw [hh] at this
  injection this with this
  injection this with _ h2 _
  revert h2
  decide
theorem T8.own {w x : World} {b3 : Nat} {a : Option Addr} {c : Nat} {b : Option Addr} {d : Nat} {vs : List NdV} {ns : List Nd} {es : List Eg} (h : T8 w x b3 a c b d vs ns es) : OwnG ⟨ns, es⟩ vs a ns.length c b es.length d x :=
  ⟨⟨own0 h.nodes.row, h.nodes.len, h.nodes.each⟩, own0 h.edges⟩
theorem few_s (g : Gr) (vs : List NdV) (a : Option Addr) (n c : Nat) (b : Option Addr) (m d : Nat) (w : World) (hg : OwnG g vs a n c b m d w) (hf : g.few = g) (hs : g.sm) :
    Calls Tryz.prog 4 #[.agg #[.slice a n c, .slice b m d]] w fun e w' => ∃ (us : List NdV) (a' : Option Addr) (c' : Nat) (b' : Option Addr) (d' : Nat), e = .returned (.agg #[.slice a' (List.length g.ns) c', .slice b' (List.length g.es) d']) ∧ NodesAt w.heap.size (.slice a' g.ns.length c') us g.ns w' ∧ w'.ownsRow w.heap.size 35 4 (.slice b' g.es.length d') g.es.length (edgeR.flat g.es) ∧ Below w.heap.size w w' :=
  (gfewS_c g _ _ w hg.holds (by have := hs.1; omega) (by have := hs.2.2.1; omega) (fun x hx => by have := (hs.2.1 x hx).2.1; omega)).mono fun e w' ⟨us, a', n', c', b', m', d', he, h1, h2, hB⟩ => by
    rw [hf] at h1 h2
    have hl : OwnG g us a' n' c' b' m' d' w' := ⟨⟨own0 h1.row, h1.len, h1.each⟩, own0 h2⟩
    obtain ⟨rfl, rfl⟩ := hl.len
    exact ⟨us, a', c', b', d', he, h1, h2, hB⟩
end Go.Proofs.YtjgddkbpfpgaoacGreatDoor
