/-
  THE REFERENCE's LIST OF STEPS WITH ONE MORE: where it goes.
-/
import Derived.Test.YtjgddkbpfpgaoafDoorRSyms
namespace Go.Proofs.YtjgddkbpfpgaoafDoor
open Go.ChangeShapes Go.WideShapes Go.ChangeAt Go.RowKit

/-- A slice of steps that lies somewhere. -/
structure SlS (w : World) (g og cap : Nat) (L : List Sy) : Prop where
  room : L.length ≤ cap
  lt : g < w.heap.size
  cells : ∀ j u, (syR.flat L)[j]? = some u → w.cell? ⟨g, og + j, none⟩ = some u
theorem SlS.below {w w' : World} {g og cap : Nat} {L : List Sy} (h : SlS w g og cap L) (hB : Below w.heap.size w w') : SlS w' g og cap L :=
  ⟨h.room, Nat.lt_of_lt_of_le h.lt hB.size, fun j u hj => (hB.cell (p := ⟨g, og + j, none⟩) h.lt).trans (h.cells j u hj)⟩
theorem SlS.at2 {w : World} {g og cap : Nat} {L : List Sy} (h : SlS w g og cap L) {k : Nat} (hk : k < L.length) :
    w.cell? ⟨g, og + k * 2, none⟩ = some (.string (L.getD k sy0).1) ∧ w.cell? ⟨g, og + k * 2 + 1, none⟩ = some (.bool (L.getD k sy0).2) :=
  ⟨h.cells _ _ (Rec.flat_at (R := syR) L k 0 hk (by show 0 < 2; omega)), h.cells _ _ (Rec.flat_at (R := syR) L k 1 hk (by show 1 < 2; omega))⟩
/-- Where a step goes. -/
structure PlaceS (y : Sy) (L : List Sy) (k : Nat) : Prop where
  le : k ≤ L.length
  ahead : ∀ j, j < k → sycmp (L.getD j sy0) y < 0
/-- The list with one step more, each once. -/
structure PutS (y : Sy) (L L' : List Sy) : Prop where
  is : ∃ k, PlaceS y L k ∧ (k < L.length → ¬ sycmp (L.getD k sy0) y < 0) ∧ ((k < L.length ∧ L.getD k sy0 = y ∧ L' = L) ∨ (¬ (k < L.length ∧ L.getD k sy0 = y) ∧ L' = L.take k ++ y :: L.drop k))
theorem cells_blkS {z : World} {q : Nat} {cs : List Value} {t : TypeId} (h : z.heap[q]? = some (.cells cs.toArray t)) : ∀ j u, cs[j]? = some u → z.cell? ((⟨q, 0, none⟩ : Addr).add j) = some u := fun j u hj => by
  rw [add_plain]
  simp only [World.cell?, h, Nat.zero_add]
  simpa using hj
theorem rput_fin {w3 : World} {B : Nat} {v3 : Value} {L : List Sy} {k n : Nat} {y : Sy} (hk : k ≤ n) (hn : n = L.length)
    (h : w3.ownsRow B 23 2 v3 (0 + k + 1 + (n - k)) (([] ++ syR.flat (L.take k)) ++ [.string y.1, .bool y.2] ++ syR.flat (L.drop k))) :
    ∃ g' cap', v3 = .slice (some ⟨g', 0, none⟩) (n + 1) cap' ∧ SlS w3 g' 0 cap' (L.take k ++ y :: L.drop k) := by
  have e : syR.flat (L.take k ++ y :: L.drop k) = ([] ++ syR.flat (L.take k)) ++ [.string y.1, .bool y.2] ++ syR.flat (L.drop k) := by
    rw [Rec.flat_app, Rec.flat_cons]; simp [syR]
  rw [← e, show 0 + k + 1 + (n - k) = n + 1 by omega] at h
  rcases id h.2 with ⟨_, h0⟩ | ⟨g, cap, cur, e1, e2, e3, e4, _⟩
  · omega
  · subst e1
    exact ⟨g, cap, rfl, by simp; omega, (Array.getElem?_eq_some_iff.1 e3).1, fun j u hj => by rw [Nat.zero_add]; exact own_cell h hj⟩
set_option maxHeartbeats 3200000 in
set_option maxRecDepth 1000000 in
theorem rput_c {g og cap : Nat} {L : List Sy} (y : Sy) (w : World) (h : SlS w g og cap L) (hn : L.length ≤ 1000) :
    Calls Tryd.prog 14 #[.slice (some ⟨g, og, none⟩) L.length cap, .agg #[.string y.1, .bool y.2]] w fun e w' => ∃ g' og' cap' L', e = .returned (.slice (some ⟨g', og', none⟩) (List.length L') cap') ∧ SlS w' g' og' cap' L' ∧ PutS y L L' ∧ Below w.heap.size w w' := by
  obtain ⟨i0, hi, hz0, hz1, hz2⟩ := info_parts infoSy
  obtain ⟨b, q⟩ := y
  obtain ⟨w0, hw0⟩ : ∃ w0, Hid (w0 = w.alloc (.cells #[.string b, .bool q] 23)) := ⟨_, hidden rfl⟩
  have hB0 : Below w.heap.size w w0 := by rw [hw0.out]; exact (Below.refl _ _).alloc (Nat.le_refl _) _
  have hX0 : w0.heap[w.heap.size]? = some (.cells #[.string b, .bool q] 23) := by rw [hw0.out]; exact heap_alloc_new _ _
  have h0 := hidden (h.below hB0)
  have hroom := h.room
  have hs0 : w.heap.size < w0.heap.size := (Array.getElem?_eq_some_iff.1 hX0).1
  replace hB0 := hidden hB0
  replace hX0 := hidden hX0
  clear h
  obtain ⟨n, hnL⟩ : ∃ n, n = L.length := ⟨_, rfl⟩
  rw [← hnL] at hn hroom ⊢
  replace hnL := hidden hnL
  go_enter Tryd.func14, Tryd.ntmps14
  go_wp2_with fail
  rw [← hw0.out]
  go_wp2_with fail
  go_loopw [5] (fun u x => ∃ k : Nat, u = .int .i64 k ∧ k ≤ n ∧ Hid (PlaceS (b, q) L k) ∧ Hid (Below w0.heap.size w0 x)) (fun u _ => n - (intOf u).toNat)
  case atStart => exact ⟨0, rfl, Nat.zero_le _, ⟨Nat.zero_le _, fun j h1 => by omega⟩, Below.refl _ _⟩
  case round =>
    obtain ⟨k, rfl, hkn, hpl, hB⟩ := hrel
    have hsl := h0.out.below hB.out
    have hX := hidden (blk_below hX0.out hB.out)
    obtain ⟨⟨x0, x1⟩, -⟩ := box2f hX.out
    have hBd := hidden hB.out.drew
    by_cases hlt : k < n
    · have hlt' : (k : Int) < (n : Int) := by omega
      obtain ⟨c0, c1⟩ := hsl.at2 (k := k) (by rw [← hnL.out]; exact hlt)
      by_cases hle : sycmp (L.getD k sy0) (b, q) < 0
      · have hnx : Hid (PlaceS (b, q) L (k + 1)) := ⟨by rw [← hnL.out]; omega, fun j hj => by
          by_cases e : j = k
          · subst e; exact hle
          · exact hpl.out.ahead j (by omega)⟩
        rw [sycmp_neg] at hle
        clear hsl hpl hB
        generalize L.getD k sy0 = v at *
        obtain ⟨a, p⟩ := v
        simp only [ltS] at hle c0 c1
        rcases hle with hle | ⟨rfl, rfl, rfl⟩
        · go_wp2_with fail
          go_region
          all_goals
            clear c0 c1 x0 x1
            go_wp2
            go_roundw
            case rel => exact ⟨k + 1, by go_num, by omega, hnx, hBd⟩
            case measure => simp [intOf]; omega
        · have hir := less_irrefl a.toList
          go_wp2_with fail
          go_region
          all_goals
            clear c0 c1 x0 x1
            go_wp2
            go_roundw
            case rel => exact ⟨k + 1, by go_num, by omega, hnx, hBd⟩
            case measure => simp [intOf]; omega
      -- NOTLESS
      · by_cases heq : L.getD k sy0 = (b, q)
        · have hput : Hid (PutS (b, q) L L) := ⟨⟨k, hpl.out, fun _ => hle, .inl ⟨by rw [← hnL.out]; exact hlt, heq, rfl⟩⟩⟩
          have hir := less_irrefl b.toList
          rw [heq] at c0 c1
          simp only at c0 c1
          have hfb := hidden (hB0.out.trans ((hB.out.drew.drew).mono hB0.out.size))
          have hS9 := hidden (h0.out.below hB.out.drew.drew)
          clear hle heq hsl hpl hB
          go_wp2_with fail
          cases q
          all_goals
            go_region
            all_goals
              go_wp2_with fail
              go_region
              all_goals
                go_wp2
                go_ret
                exact ⟨g, og, cap, L, by rw [← hnL.out]; rfl, hS9.out, hput.out, hfb.out⟩
        · have hput : Hid (PutS (b, q) L (L.take k ++ (b, q) :: L.drop k)) := ⟨⟨k, hpl.out, fun _ => hle, .inr ⟨fun h => heq h.2, rfl⟩⟩⟩
          rw [sycmp_neg] at hle
          clear hsl hpl hB
          generalize L.getD k sy0 = v at *
          obtain ⟨a, p⟩ := v
          simp only [ltS] at hle c0 c1
          have hcase : (Op.bytesLess a.toList b.toList = false ∧ (a.toList == b.toList) = false) ∨ (b = a ∧ p = true ∧ q = false) := by
            by_cases e : b = a
            · subst e
              refine .inr ⟨rfl, ?_⟩
              revert hle heq
              cases p <;> cases q <;> simp
            · refine .inl ⟨?_, beq_eq_false_iff_ne.2 fun h => e (toList_inj h).symm⟩
              cases hb : Op.bytesLess a.toList b.toList with
              | false => rfl
              | true => exact absurd (.inl hb) hle
          clear hle heq
          rcases hcase with ⟨e1, e2⟩ | ⟨rfl, rfl, rfl⟩
          · go_wp2_with fail
            go_region
            all_goals
              go_wp2_with fail
              go_region
              all_goals
                clear c0 c1 x0 x1 e1 e2
                go_wp2_with fail
                obtain ⟨x, hxx⟩ : ∃ x, Hid (x = wr.drew.drew) := ⟨_, hidden rfl⟩
                have hBf : Hid (Below w0.heap.size w0 x) := by rw [hxx.out]; exact hBd.out.drew
                rw [← hxx.out]
                clear hxx hBd
                have hslx := h0.out.below hBf.out
                have hXx := hidden (blk_below hX0.out hBf.out)
                obtain ⟨⟨x0, x1⟩, -⟩ := box2f hXx.out
                have hl1 : Hid ((syR.flat (L.take k)).length = k * 2) := by show _ = _; rw [Rec.flat_len, List.length_take, ← hnL.out, Nat.min_eq_left hkn]; rfl
                have hl3 : Hid ((syR.flat (L.drop k)).length = (n - k) * 2) := by show _ = _; rw [Rec.flat_len, List.length_drop, ← hnL.out]; rfl
                have hc1 : Hid (∀ u ∈ syR.flat (L.take k), u.oneCell' = true) := Rec.flat_one_cell (R := syR) _
                have hc3 : Hid (∀ u ∈ syR.flat (L.drop k), u.oneCell' = true) := Rec.flat_one_cell (R := syR) _
                have eT : syR.flat (L.take k) = (syR.flat L).take (k * 2) := by
                  have h1 : syR.flat L = syR.flat (L.take k) ++ syR.flat (L.drop k) := by rw [← Rec.flat_app, List.take_append_drop]
                  rw [h1, List.take_left' hl1.out]
                have eD : syR.flat (L.drop k) = (syR.flat L).drop (k * 2) := by
                  have h1 : syR.flat L = syR.flat (L.take k) ++ syR.flat (L.drop k) := by rw [← Rec.flat_app, List.take_append_drop]
                  rw [h1, List.drop_left' hl1.out]
                have hn1 : Hid (∀ z, Below x.heap.size x z → ∀ j u, (syR.flat (L.take k))[j]? = some u → z.cell? ((⟨g, og, none⟩ : Addr).add j) = some u) := fun z hz j u hj => by
                  rw [add_plain]
                  rw [eT, List.getElem?_take] at hj
                  split at hj
                  · exact (hslx.below hz).cells j u hj
                  · cases hj
                have hn3 : Hid (∀ z, Below x.heap.size x z → ∀ j u, (syR.flat (L.drop k))[j]? = some u → z.cell? ((if cap = k then (⟨g, og, none⟩ : Addr) else ⟨g, og + k * 2, none⟩).add j) = some u) := fun z hz j u hj => by
                  have h8 := (List.getElem?_eq_some_iff.1 hj).1
                  rw [hl3.out] at h8
                  rw [eD, List.getElem?_drop] at hj
                  rw [if_neg (by omega), add_plain, Nat.add_assoc]
                  exact (hslx.below hz).cells _ u hj
                clear hslx eT eD
                have bA : Hid (Below x.heap.size x (x.drew.alloc (.cells #[] 23))) := (Below.refl _ _).drew.alloc (Nat.le_refl _) _
                have bB : Hid (Below x.heap.size x ((x.drew.alloc (.cells #[] 23)).alloc (.cells #[.string b, .bool q] 23))) := bA.out.alloc bA.out.size _
                have bC0 : Hid (Below x.heap.size x (x.drew.alloc (.cells #[.string b, .bool q] 23))) := (Below.refl _ _).drew.alloc (Nat.le_refl _) _
                have bC : Hid (Below x.heap.size x ((x.drew.alloc (.cells #[.string b, .bool q] 23)).alloc (.cells #[] 23))) := bC0.out.alloc bC0.out.size _
                have mA : Hid ((x.drew.alloc (.cells #[] 23)).ownsRow x.heap.size 23 2 (.slice (some ⟨x.heap.size, 0, none⟩) 0 0) 0 []) := World.ownsRow_made x.drew #[] 0 (Nat.le_refl _) (by unfold maxLen; omega) rfl
                have mB : Hid (((x.drew.alloc (.cells #[] 23)).alloc (.cells #[.string b, .bool q] 23)).ownsRow x.heap.size 23 2 (.slice (some ⟨x.heap.size, 0, none⟩) 0 0) 0 []) := mA.out.alloc _
                have mC : Hid (((x.drew.alloc (.cells #[.string b, .bool q] 23)).alloc (.cells #[] 23)).ownsRow x.heap.size 23 2 (.slice (some ⟨x.heap.size + 1, 0, none⟩) 0 0) 0 []) := by
                  have h9 := World.ownsRow_made (base := x.heap.size) (e := 23) (size := 2) (x.drew.alloc (.cells #[.string b, .bool q] 23)) #[] 0 bC0.out.size (by unfold maxLen; omega) rfl
                  have h8 : (x.drew.alloc (.cells #[.string b, .bool q] 23)).heap.size = x.heap.size + 1 := by show (x.heap.push _).size = _; simp
                  rw [h8] at h9
                  exact h9
                have oB : Hid (((x.drew.alloc (.cells #[] 23)).alloc (.cells #[.string b, .bool q] 23)).heap[x.heap.size + 1]? = some (.cells #[.string b, .bool q] 23)) := by
                  have h9 := heap_alloc_new (x.drew.alloc (.cells #[] 23)) (.cells #[.string b, .bool q] 23)
                  have h8 : (x.drew.alloc (.cells #[] 23)).heap.size = x.heap.size + 1 := by show (x.heap.push _).size = _; simp
                  rw [h8] at h9
                  exact h9
                have oC : Hid (((x.drew.alloc (.cells #[.string b, .bool q] 23)).alloc (.cells #[] 23)).heap[x.heap.size]? = some (.cells #[.string b, .bool q] 23)) :=
                  blk_below (heap_alloc_new x.drew (.cells #[.string b, .bool q] 23)) ((Below.refl _ _).alloc (Nat.le_refl _) _)
                have hkn1 : (k : Int) ≤ (n : Int) := by omega
                have hkc : (k : Int) ≤ (cap : Int) := by omega
                have hnc : (n : Int) ≤ (cap : Int) := by omega
                have hcon : ∀ u ∈ ([.string b, .bool q] : List Value), u.oneCell' = true := fun u hu => by simp at hu; rcases hu with rfl | rfl <;> rfl
                replace hcon := hidden hcon
                have hroom' := hidden hroom
                clear hroom
                generalize hck : (if cap = k then (⟨g, og, none⟩ : Addr) else ⟨g, og + k * 2, none⟩) = ak at *
                have hck2 : Hid (cap = k ∧ ak = ⟨g, og, none⟩ ∨ ¬ cap = k ∧ ak = ⟨g, og + k * 2, none⟩) := by
                  by_cases h : cap = k
                  · exact .inl ⟨h, by rw [← hck, if_pos h]⟩
                  · exact .inr ⟨h, by rw [← hck, if_neg h]⟩
                clear hck
                rcases hck2.out with ⟨hck, hak⟩ | ⟨hck, hak⟩ <;> subst hak <;> clear hck2
                all_goals
                  go_region_held3 (fun z => z.cell? ⟨w.heap.size, 0, none⟩ = some (.string b) ∧ z.cell? ⟨w.heap.size, 1, none⟩ = some (.bool q)) (go_keep) (first
                    | (refine step_append_own_at (by rfl) _ _ _ (by rfl) x.heap.size 23 i0 _ 2 24 Tryd.underlying28 hi hz0 hz1 hz2 rfl (by decide) _ 0 [] (by rfl) mA.out ⟨g, og, none⟩ k _ (syR.flat (L.take k)) (by rfl) hl1.out (hn1.out _ bA.out) hc1.out (by unfold maxLen; omega) (by omega) bA.out.size ?_
                       intro v1 w1 hown1 hgrow1 hat1
                       have hB1 := (bA.out).grown hgrow1 bA.out.size (fun j hj => by cases hj; first | exact Nat.le_refl _ | exact Nat.le_succ _)
                       obtain ⟨⟨p0, p1⟩, -⟩ := box2f (blk_below hXx.out hB1))
                    | (refine step_append_own_at (by rfl) _ _ _ (by rfl) x.heap.size 23 i0 _ 2 24 Tryd.underlying28 hi hz0 hz1 hz2 rfl (by decide) _ 0 [] (by rfl) mB.out ⟨g, og, none⟩ k _ (syR.flat (L.take k)) (by rfl) hl1.out (hn1.out _ bB.out) hc1.out (by unfold maxLen; omega) (by omega) bB.out.size ?_
                       intro v1 w1 hown1 hgrow1 hat1
                       have hB1 := (bB.out).grown hgrow1 bB.out.size (fun j hj => by cases hj; first | exact Nat.le_refl _ | exact Nat.le_succ _)
                       have hq1 := (hgrow1.block (x.heap.size + 1) (Array.getElem?_eq_some_iff.1 oB.out).1 (by simp [Value.ownBlock])).trans oB.out
                       obtain ⟨⟨p0, p1⟩, -⟩ := box2f (blk_below hXx.out hB1))
                    | (refine step_append_own_at (by rfl) _ _ _ (by rfl) x.heap.size 23 i0 _ 2 24 Tryd.underlying28 hi hz0 hz1 hz2 rfl (by decide) _ 0 [] (by rfl) mC.out ⟨g, og, none⟩ k _ (syR.flat (L.take k)) (by rfl) hl1.out (hn1.out _ bC.out) hc1.out (by unfold maxLen; omega) (by omega) bC.out.size ?_
                       intro v1 w1 hown1 hgrow1 hat1
                       have hB1 := (bC.out).grown hgrow1 bC.out.size (fun j hj => by cases hj; first | exact Nat.le_refl _ | exact Nat.le_succ _)
                       have hq1 := (hgrow1.block (x.heap.size) (Array.getElem?_eq_some_iff.1 oC.out).1 (by simp [Value.ownBlock])).trans oC.out
                       obtain ⟨⟨p0, p1⟩, -⟩ := box2f (blk_below hXx.out hB1))
                    | (refine step_append_own_at (by rfl) _ _ _ (by rfl) x.heap.size 23 i0 _ 2 24 Tryd.underlying28 hi hz0 hz1 hz2 rfl (by decide) v1 (0 + k) _ (by rfl) (hown1.alloc _) ⟨w1.heap.size, 0, none⟩ 1 1 [.string b, .bool q] (by rfl) (by rfl) (cells_new w1 [.string b, .bool q] _) hcon.out (by unfold maxLen; omega) (by omega) (hB1.alloc hB1.size (.cells #[.string b, .bool q] 23)).size ?_
                       intro v2 w2 hown2 hgrow2 hat2
                       have hB2 := ((hB1.alloc hB1.size (.cells #[.string b, .bool q] 23))).grown hgrow2 (hB1.alloc hB1.size (.cells #[.string b, .bool q] 23)).size (fun j hj => (hown1.lt j hj).1)
                       obtain ⟨⟨q0, q1⟩, -⟩ := box2f (blk_below hXx.out hB2))
                    | (refine step_append_own_at (by rfl) _ _ _ (by rfl) x.heap.size 23 i0 _ 2 24 Tryd.underlying28 hi hz0 hz1 hz2 rfl (by decide) v1 (0 + k) _ (by rfl) hown1 ⟨x.heap.size + 1, 0, none⟩ 1 1 [.string b, .bool q] (by rfl) (by rfl) (cells_blkS (cs := [.string b, .bool q]) hq1) hcon.out (by unfold maxLen; omega) (by omega) hB1.size ?_
                       intro v2 w2 hown2 hgrow2 hat2
                       have hB2 := (hB1).grown hgrow2 hB1.size (fun j hj => (hown1.lt j hj).1)
                       obtain ⟨⟨q0, q1⟩, -⟩ := box2f (blk_below hXx.out hB2))
                    | (refine step_append_own_at (by rfl) _ _ _ (by rfl) x.heap.size 23 i0 _ 2 24 Tryd.underlying28 hi hz0 hz1 hz2 rfl (by decide) v1 (0 + k) _ (by rfl) hown1 ⟨x.heap.size, 0, none⟩ 1 1 [.string b, .bool q] (by rfl) (by rfl) (cells_blkS (cs := [.string b, .bool q]) hq1) hcon.out (by unfold maxLen; omega) (by omega) hB1.size ?_
                       intro v2 w2 hown2 hgrow2 hat2
                       have hB2 := (hB1).grown hgrow2 hB1.size (fun j hj => (hown1.lt j hj).1)
                       obtain ⟨⟨q0, q1⟩, -⟩ := box2f (blk_below hXx.out hB2))
                    | (refine step_append_own_at (by rfl) _ _ _ (by rfl) x.heap.size 23 i0 _ 2 24 Tryd.underlying28 hi hz0 hz1 hz2 rfl (by decide) v2 (0 + k + 1) _ (by rfl) hown2 _ (n - k) _ (syR.flat (L.drop k)) (by rfl) hl3.out (hn3.out _ hB2) hc3.out (by unfold maxLen; omega) (by omega) hB2.size ?_
                       intro v3 w3 hown3 hgrow3 hat3
                       have hB3 := hB2.grown hgrow3 hB2.size (fun j hj => (hown2.lt j hj).1)
                       obtain ⟨⟨r0, r1⟩, -⟩ := box2f (blk_below hXx.out hB3)
                       obtain ⟨g9, c9, rfl, hS9⟩ := rput_fin (L := L) (y := (b, q)) hkn hnL.out hown3)
                    | fail)
                all_goals
                  have hfb := hidden (hB0.out.trans ((hBf.out.trans (hB3.mono hBf.out.size)).mono hB0.out.size))
                  replace hS9 := hidden hS9
                  have hln : Hid ((L.take k ++ (b, q) :: L.drop k).length = n + 1) := by show _ = _; have := hnL.out; simp; omega
                  go_wp2
                  go_ret
                  exact ⟨g9, 0, c9, L.take k ++ (b, q) :: L.drop k, by rw [hln.out]; rfl, hS9.out, hput.out, hfb.out⟩
          · have hir := less_irrefl b.toList
            go_wp2_with fail
            go_region
            all_goals
              go_wp2_with fail
              go_region
              all_goals
                clear c0 c1 x0 x1 hir
                go_wp2_with fail
                obtain ⟨x, hxx⟩ : ∃ x, Hid (x = wr.drew.drew) := ⟨_, hidden rfl⟩
                have hBf : Hid (Below w0.heap.size w0 x) := by rw [hxx.out]; exact hBd.out.drew
                rw [← hxx.out]
                clear hxx hBd
                have hslx := h0.out.below hBf.out
                have hXx := hidden (blk_below hX0.out hBf.out)
                obtain ⟨⟨x0, x1⟩, -⟩ := box2f hXx.out
                have hl1 : Hid ((syR.flat (L.take k)).length = k * 2) := by show _ = _; rw [Rec.flat_len, List.length_take, ← hnL.out, Nat.min_eq_left hkn]; rfl
                have hl3 : Hid ((syR.flat (L.drop k)).length = (n - k) * 2) := by show _ = _; rw [Rec.flat_len, List.length_drop, ← hnL.out]; rfl
                have hc1 : Hid (∀ u ∈ syR.flat (L.take k), u.oneCell' = true) := Rec.flat_one_cell (R := syR) _
                have hc3 : Hid (∀ u ∈ syR.flat (L.drop k), u.oneCell' = true) := Rec.flat_one_cell (R := syR) _
                have eT : syR.flat (L.take k) = (syR.flat L).take (k * 2) := by
                  have h1 : syR.flat L = syR.flat (L.take k) ++ syR.flat (L.drop k) := by rw [← Rec.flat_app, List.take_append_drop]
                  rw [h1, List.take_left' hl1.out]
                have eD : syR.flat (L.drop k) = (syR.flat L).drop (k * 2) := by
                  have h1 : syR.flat L = syR.flat (L.take k) ++ syR.flat (L.drop k) := by rw [← Rec.flat_app, List.take_append_drop]
                  rw [h1, List.drop_left' hl1.out]
                have hn1 : Hid (∀ z, Below x.heap.size x z → ∀ j u, (syR.flat (L.take k))[j]? = some u → z.cell? ((⟨g, og, none⟩ : Addr).add j) = some u) := fun z hz j u hj => by
                  rw [add_plain]
                  rw [eT, List.getElem?_take] at hj
                  split at hj
                  · exact (hslx.below hz).cells j u hj
                  · cases hj
                have hn3 : Hid (∀ z, Below x.heap.size x z → ∀ j u, (syR.flat (L.drop k))[j]? = some u → z.cell? ((if cap = k then (⟨g, og, none⟩ : Addr) else ⟨g, og + k * 2, none⟩).add j) = some u) := fun z hz j u hj => by
                  have h8 := (List.getElem?_eq_some_iff.1 hj).1
                  rw [hl3.out] at h8
                  rw [eD, List.getElem?_drop] at hj
                  rw [if_neg (by omega), add_plain, Nat.add_assoc]
                  exact (hslx.below hz).cells _ u hj
                clear hslx eT eD
                have bA : Hid (Below x.heap.size x (x.drew.alloc (.cells #[] 23))) := (Below.refl _ _).drew.alloc (Nat.le_refl _) _
                have bB : Hid (Below x.heap.size x ((x.drew.alloc (.cells #[] 23)).alloc (.cells #[.string b, .bool false] 23))) := bA.out.alloc bA.out.size _
                have bC0 : Hid (Below x.heap.size x (x.drew.alloc (.cells #[.string b, .bool false] 23))) := (Below.refl _ _).drew.alloc (Nat.le_refl _) _
                have bC : Hid (Below x.heap.size x ((x.drew.alloc (.cells #[.string b, .bool false] 23)).alloc (.cells #[] 23))) := bC0.out.alloc bC0.out.size _
                have mA : Hid ((x.drew.alloc (.cells #[] 23)).ownsRow x.heap.size 23 2 (.slice (some ⟨x.heap.size, 0, none⟩) 0 0) 0 []) := World.ownsRow_made x.drew #[] 0 (Nat.le_refl _) (by unfold maxLen; omega) rfl
                have mB : Hid (((x.drew.alloc (.cells #[] 23)).alloc (.cells #[.string b, .bool false] 23)).ownsRow x.heap.size 23 2 (.slice (some ⟨x.heap.size, 0, none⟩) 0 0) 0 []) := mA.out.alloc _
                have mC : Hid (((x.drew.alloc (.cells #[.string b, .bool false] 23)).alloc (.cells #[] 23)).ownsRow x.heap.size 23 2 (.slice (some ⟨x.heap.size + 1, 0, none⟩) 0 0) 0 []) := by
                  have h9 := World.ownsRow_made (base := x.heap.size) (e := 23) (size := 2) (x.drew.alloc (.cells #[.string b, .bool false] 23)) #[] 0 bC0.out.size (by unfold maxLen; omega) rfl
                  have h8 : (x.drew.alloc (.cells #[.string b, .bool false] 23)).heap.size = x.heap.size + 1 := by show (x.heap.push _).size = _; simp
                  rw [h8] at h9
                  exact h9
                have oB : Hid (((x.drew.alloc (.cells #[] 23)).alloc (.cells #[.string b, .bool false] 23)).heap[x.heap.size + 1]? = some (.cells #[.string b, .bool false] 23)) := by
                  have h9 := heap_alloc_new (x.drew.alloc (.cells #[] 23)) (.cells #[.string b, .bool false] 23)
                  have h8 : (x.drew.alloc (.cells #[] 23)).heap.size = x.heap.size + 1 := by show (x.heap.push _).size = _; simp
                  rw [h8] at h9
                  exact h9
                have oC : Hid (((x.drew.alloc (.cells #[.string b, .bool false] 23)).alloc (.cells #[] 23)).heap[x.heap.size]? = some (.cells #[.string b, .bool false] 23)) :=
                  blk_below (heap_alloc_new x.drew (.cells #[.string b, .bool false] 23)) ((Below.refl _ _).alloc (Nat.le_refl _) _)
                have hkn1 : (k : Int) ≤ (n : Int) := by omega
                have hkc : (k : Int) ≤ (cap : Int) := by omega
                have hnc : (n : Int) ≤ (cap : Int) := by omega
                have hcon : ∀ u ∈ ([.string b, .bool false] : List Value), u.oneCell' = true := fun u hu => by simp at hu; rcases hu with rfl | rfl <;> rfl
                replace hcon := hidden hcon
                have hroom' := hidden hroom
                clear hroom
                generalize hck : (if cap = k then (⟨g, og, none⟩ : Addr) else ⟨g, og + k * 2, none⟩) = ak at *
                have hck2 : Hid (cap = k ∧ ak = ⟨g, og, none⟩ ∨ ¬ cap = k ∧ ak = ⟨g, og + k * 2, none⟩) := by
                  by_cases h : cap = k
                  · exact .inl ⟨h, by rw [← hck, if_pos h]⟩
                  · exact .inr ⟨h, by rw [← hck, if_neg h]⟩
                clear hck
                rcases hck2.out with ⟨hck, hak⟩ | ⟨hck, hak⟩ <;> subst hak <;> clear hck2
                all_goals
                  go_region_held3 (fun z => z.cell? ⟨w.heap.size, 0, none⟩ = some (.string b) ∧ z.cell? ⟨w.heap.size, 1, none⟩ = some (.bool false)) (go_keep) (first
                    | (refine step_append_own_at (by rfl) _ _ _ (by rfl) x.heap.size 23 i0 _ 2 24 Tryd.underlying28 hi hz0 hz1 hz2 rfl (by decide) _ 0 [] (by rfl) mA.out ⟨g, og, none⟩ k _ (syR.flat (L.take k)) (by rfl) hl1.out (hn1.out _ bA.out) hc1.out (by unfold maxLen; omega) (by omega) bA.out.size ?_
                       intro v1 w1 hown1 hgrow1 hat1
                       have hB1 := (bA.out).grown hgrow1 bA.out.size (fun j hj => by cases hj; first | exact Nat.le_refl _ | exact Nat.le_succ _)
                       obtain ⟨⟨p0, p1⟩, -⟩ := box2f (blk_below hXx.out hB1))
                    | (refine step_append_own_at (by rfl) _ _ _ (by rfl) x.heap.size 23 i0 _ 2 24 Tryd.underlying28 hi hz0 hz1 hz2 rfl (by decide) _ 0 [] (by rfl) mB.out ⟨g, og, none⟩ k _ (syR.flat (L.take k)) (by rfl) hl1.out (hn1.out _ bB.out) hc1.out (by unfold maxLen; omega) (by omega) bB.out.size ?_
                       intro v1 w1 hown1 hgrow1 hat1
                       have hB1 := (bB.out).grown hgrow1 bB.out.size (fun j hj => by cases hj; first | exact Nat.le_refl _ | exact Nat.le_succ _)
                       have hq1 := (hgrow1.block (x.heap.size + 1) (Array.getElem?_eq_some_iff.1 oB.out).1 (by simp [Value.ownBlock])).trans oB.out
                       obtain ⟨⟨p0, p1⟩, -⟩ := box2f (blk_below hXx.out hB1))
                    | (refine step_append_own_at (by rfl) _ _ _ (by rfl) x.heap.size 23 i0 _ 2 24 Tryd.underlying28 hi hz0 hz1 hz2 rfl (by decide) _ 0 [] (by rfl) mC.out ⟨g, og, none⟩ k _ (syR.flat (L.take k)) (by rfl) hl1.out (hn1.out _ bC.out) hc1.out (by unfold maxLen; omega) (by omega) bC.out.size ?_
                       intro v1 w1 hown1 hgrow1 hat1
                       have hB1 := (bC.out).grown hgrow1 bC.out.size (fun j hj => by cases hj; first | exact Nat.le_refl _ | exact Nat.le_succ _)
                       have hq1 := (hgrow1.block (x.heap.size) (Array.getElem?_eq_some_iff.1 oC.out).1 (by simp [Value.ownBlock])).trans oC.out
                       obtain ⟨⟨p0, p1⟩, -⟩ := box2f (blk_below hXx.out hB1))
                    | (refine step_append_own_at (by rfl) _ _ _ (by rfl) x.heap.size 23 i0 _ 2 24 Tryd.underlying28 hi hz0 hz1 hz2 rfl (by decide) v1 (0 + k) _ (by rfl) (hown1.alloc _) ⟨w1.heap.size, 0, none⟩ 1 1 [.string b, .bool false] (by rfl) (by rfl) (cells_new w1 [.string b, .bool false] _) hcon.out (by unfold maxLen; omega) (by omega) (hB1.alloc hB1.size (.cells #[.string b, .bool false] 23)).size ?_
                       intro v2 w2 hown2 hgrow2 hat2
                       have hB2 := ((hB1.alloc hB1.size (.cells #[.string b, .bool false] 23))).grown hgrow2 (hB1.alloc hB1.size (.cells #[.string b, .bool false] 23)).size (fun j hj => (hown1.lt j hj).1)
                       obtain ⟨⟨q0, q1⟩, -⟩ := box2f (blk_below hXx.out hB2))
                    | (refine step_append_own_at (by rfl) _ _ _ (by rfl) x.heap.size 23 i0 _ 2 24 Tryd.underlying28 hi hz0 hz1 hz2 rfl (by decide) v1 (0 + k) _ (by rfl) hown1 ⟨x.heap.size + 1, 0, none⟩ 1 1 [.string b, .bool false] (by rfl) (by rfl) (cells_blkS (cs := [.string b, .bool false]) hq1) hcon.out (by unfold maxLen; omega) (by omega) hB1.size ?_
                       intro v2 w2 hown2 hgrow2 hat2
                       have hB2 := (hB1).grown hgrow2 hB1.size (fun j hj => (hown1.lt j hj).1)
                       obtain ⟨⟨q0, q1⟩, -⟩ := box2f (blk_below hXx.out hB2))
                    | (refine step_append_own_at (by rfl) _ _ _ (by rfl) x.heap.size 23 i0 _ 2 24 Tryd.underlying28 hi hz0 hz1 hz2 rfl (by decide) v1 (0 + k) _ (by rfl) hown1 ⟨x.heap.size, 0, none⟩ 1 1 [.string b, .bool false] (by rfl) (by rfl) (cells_blkS (cs := [.string b, .bool false]) hq1) hcon.out (by unfold maxLen; omega) (by omega) hB1.size ?_
                       intro v2 w2 hown2 hgrow2 hat2
                       have hB2 := (hB1).grown hgrow2 hB1.size (fun j hj => (hown1.lt j hj).1)
                       obtain ⟨⟨q0, q1⟩, -⟩ := box2f (blk_below hXx.out hB2))
                    | (refine step_append_own_at (by rfl) _ _ _ (by rfl) x.heap.size 23 i0 _ 2 24 Tryd.underlying28 hi hz0 hz1 hz2 rfl (by decide) v2 (0 + k + 1) _ (by rfl) hown2 _ (n - k) _ (syR.flat (L.drop k)) (by rfl) hl3.out (hn3.out _ hB2) hc3.out (by unfold maxLen; omega) (by omega) hB2.size ?_
                       intro v3 w3 hown3 hgrow3 hat3
                       have hB3 := hB2.grown hgrow3 hB2.size (fun j hj => (hown2.lt j hj).1)
                       obtain ⟨⟨r0, r1⟩, -⟩ := box2f (blk_below hXx.out hB3)
                       obtain ⟨g9, c9, rfl, hS9⟩ := rput_fin (L := L) (y := (b, false)) hkn hnL.out hown3)
                    | fail)
                all_goals
                  have hfb := hidden (hB0.out.trans ((hBf.out.trans (hB3.mono hBf.out.size)).mono hB0.out.size))
                  replace hS9 := hidden hS9
                  have hln : Hid ((L.take k ++ (b, false) :: L.drop k).length = n + 1) := by show _ = _; have := hnL.out; simp; omega
                  go_wp2
                  go_ret
                  exact ⟨g9, 0, c9, L.take k ++ (b, false) :: L.drop k, by rw [hln.out]; rfl, hS9.out, hput.out, hfb.out⟩
    · have hlt' : ¬ (k : Int) < (n : Int) := by omega
      have hput : Hid (PutS (b, q) L (L.take k ++ (b, q) :: L.drop k)) := ⟨⟨k, hpl.out, fun h => absurd h (by rw [← hnL.out]; exact hlt), .inr ⟨fun h => absurd h.1 (by rw [← hnL.out]; exact hlt), rfl⟩⟩⟩
      clear hsl hpl hB
      go_wp2_with fail
      go_region
      all_goals
        go_wp2_with fail
        go_region
        all_goals
          clear x0 x1
          go_wp2_with fail
          obtain ⟨x, hxx⟩ : ∃ x, Hid (x = wr.drew.drew) := ⟨_, hidden rfl⟩
          have hBf : Hid (Below w0.heap.size w0 x) := by rw [hxx.out]; exact hBd.out.drew
          rw [← hxx.out]
          clear hxx hBd
          have hslx := h0.out.below hBf.out
          have hXx := hidden (blk_below hX0.out hBf.out)
          obtain ⟨⟨x0, x1⟩, -⟩ := box2f hXx.out
          have hl1 : Hid ((syR.flat (L.take k)).length = k * 2) := by show _ = _; rw [Rec.flat_len, List.length_take, ← hnL.out, Nat.min_eq_left hkn]; rfl
          have hl3 : Hid ((syR.flat (L.drop k)).length = (n - k) * 2) := by show _ = _; rw [Rec.flat_len, List.length_drop, ← hnL.out]; rfl
          have hc1 : Hid (∀ u ∈ syR.flat (L.take k), u.oneCell' = true) := Rec.flat_one_cell (R := syR) _
          have hc3 : Hid (∀ u ∈ syR.flat (L.drop k), u.oneCell' = true) := Rec.flat_one_cell (R := syR) _
          have eT : syR.flat (L.take k) = (syR.flat L).take (k * 2) := by
            have h1 : syR.flat L = syR.flat (L.take k) ++ syR.flat (L.drop k) := by rw [← Rec.flat_app, List.take_append_drop]
            rw [h1, List.take_left' hl1.out]
          have eD : syR.flat (L.drop k) = (syR.flat L).drop (k * 2) := by
            have h1 : syR.flat L = syR.flat (L.take k) ++ syR.flat (L.drop k) := by rw [← Rec.flat_app, List.take_append_drop]
            rw [h1, List.drop_left' hl1.out]
          have hn1 : Hid (∀ z, Below x.heap.size x z → ∀ j u, (syR.flat (L.take k))[j]? = some u → z.cell? ((⟨g, og, none⟩ : Addr).add j) = some u) := fun z hz j u hj => by
            rw [add_plain]
            rw [eT, List.getElem?_take] at hj
            split at hj
            · exact (hslx.below hz).cells j u hj
            · cases hj
          have hn3 : Hid (∀ z, Below x.heap.size x z → ∀ j u, (syR.flat (L.drop k))[j]? = some u → z.cell? ((if cap = k then (⟨g, og, none⟩ : Addr) else ⟨g, og + k * 2, none⟩).add j) = some u) := fun z hz j u hj => by
            have h8 := (List.getElem?_eq_some_iff.1 hj).1
            rw [hl3.out] at h8
            rw [eD, List.getElem?_drop] at hj
            rw [if_neg (by omega), add_plain, Nat.add_assoc]
            exact (hslx.below hz).cells _ u hj
          clear hslx eT eD
          have bA : Hid (Below x.heap.size x (x.drew.alloc (.cells #[] 23))) := (Below.refl _ _).drew.alloc (Nat.le_refl _) _
          have bB : Hid (Below x.heap.size x ((x.drew.alloc (.cells #[] 23)).alloc (.cells #[.string b, .bool q] 23))) := bA.out.alloc bA.out.size _
          have bC0 : Hid (Below x.heap.size x (x.drew.alloc (.cells #[.string b, .bool q] 23))) := (Below.refl _ _).drew.alloc (Nat.le_refl _) _
          have bC : Hid (Below x.heap.size x ((x.drew.alloc (.cells #[.string b, .bool q] 23)).alloc (.cells #[] 23))) := bC0.out.alloc bC0.out.size _
          have mA : Hid ((x.drew.alloc (.cells #[] 23)).ownsRow x.heap.size 23 2 (.slice (some ⟨x.heap.size, 0, none⟩) 0 0) 0 []) := World.ownsRow_made x.drew #[] 0 (Nat.le_refl _) (by unfold maxLen; omega) rfl
          have mB : Hid (((x.drew.alloc (.cells #[] 23)).alloc (.cells #[.string b, .bool q] 23)).ownsRow x.heap.size 23 2 (.slice (some ⟨x.heap.size, 0, none⟩) 0 0) 0 []) := mA.out.alloc _
          have mC : Hid (((x.drew.alloc (.cells #[.string b, .bool q] 23)).alloc (.cells #[] 23)).ownsRow x.heap.size 23 2 (.slice (some ⟨x.heap.size + 1, 0, none⟩) 0 0) 0 []) := by
            have h9 := World.ownsRow_made (base := x.heap.size) (e := 23) (size := 2) (x.drew.alloc (.cells #[.string b, .bool q] 23)) #[] 0 bC0.out.size (by unfold maxLen; omega) rfl
            have h8 : (x.drew.alloc (.cells #[.string b, .bool q] 23)).heap.size = x.heap.size + 1 := by show (x.heap.push _).size = _; simp
            rw [h8] at h9
            exact h9
          have oB : Hid (((x.drew.alloc (.cells #[] 23)).alloc (.cells #[.string b, .bool q] 23)).heap[x.heap.size + 1]? = some (.cells #[.string b, .bool q] 23)) := by
            have h9 := heap_alloc_new (x.drew.alloc (.cells #[] 23)) (.cells #[.string b, .bool q] 23)
            have h8 : (x.drew.alloc (.cells #[] 23)).heap.size = x.heap.size + 1 := by show (x.heap.push _).size = _; simp
            rw [h8] at h9
            exact h9
          have oC : Hid (((x.drew.alloc (.cells #[.string b, .bool q] 23)).alloc (.cells #[] 23)).heap[x.heap.size]? = some (.cells #[.string b, .bool q] 23)) :=
            blk_below (heap_alloc_new x.drew (.cells #[.string b, .bool q] 23)) ((Below.refl _ _).alloc (Nat.le_refl _) _)
          have hkn1 : (k : Int) ≤ (n : Int) := by omega
          have hkc : (k : Int) ≤ (cap : Int) := by omega
          have hnc : (n : Int) ≤ (cap : Int) := by omega
          have hcon : ∀ u ∈ ([.string b, .bool q] : List Value), u.oneCell' = true := fun u hu => by simp at hu; rcases hu with rfl | rfl <;> rfl
          replace hcon := hidden hcon
          have hroom' := hidden hroom
          clear hroom
          generalize hck : (if cap = k then (⟨g, og, none⟩ : Addr) else ⟨g, og + k * 2, none⟩) = ak at *
          have hck2 : Hid (cap = k ∧ ak = ⟨g, og, none⟩ ∨ ¬ cap = k ∧ ak = ⟨g, og + k * 2, none⟩) := by
            by_cases h : cap = k
            · exact .inl ⟨h, by rw [← hck, if_pos h]⟩
            · exact .inr ⟨h, by rw [← hck, if_neg h]⟩
          clear hck
          rcases hck2.out with ⟨hck, hak⟩ | ⟨hck, hak⟩ <;> subst hak <;> clear hck2
          all_goals
            go_region_held3 (fun z => z.cell? ⟨w.heap.size, 0, none⟩ = some (.string b) ∧ z.cell? ⟨w.heap.size, 1, none⟩ = some (.bool q)) (go_keep) (first
              | (refine step_append_own_at (by rfl) _ _ _ (by rfl) x.heap.size 23 i0 _ 2 24 Tryd.underlying28 hi hz0 hz1 hz2 rfl (by decide) _ 0 [] (by rfl) mA.out ⟨g, og, none⟩ k _ (syR.flat (L.take k)) (by rfl) hl1.out (hn1.out _ bA.out) hc1.out (by unfold maxLen; omega) (by omega) bA.out.size ?_
                 intro v1 w1 hown1 hgrow1 hat1
                 have hB1 := (bA.out).grown hgrow1 bA.out.size (fun j hj => by cases hj; first | exact Nat.le_refl _ | exact Nat.le_succ _)
                 obtain ⟨⟨p0, p1⟩, -⟩ := box2f (blk_below hXx.out hB1))
              | (refine step_append_own_at (by rfl) _ _ _ (by rfl) x.heap.size 23 i0 _ 2 24 Tryd.underlying28 hi hz0 hz1 hz2 rfl (by decide) _ 0 [] (by rfl) mB.out ⟨g, og, none⟩ k _ (syR.flat (L.take k)) (by rfl) hl1.out (hn1.out _ bB.out) hc1.out (by unfold maxLen; omega) (by omega) bB.out.size ?_
                 intro v1 w1 hown1 hgrow1 hat1
                 have hB1 := (bB.out).grown hgrow1 bB.out.size (fun j hj => by cases hj; first | exact Nat.le_refl _ | exact Nat.le_succ _)
                 have hq1 := (hgrow1.block (x.heap.size + 1) (Array.getElem?_eq_some_iff.1 oB.out).1 (by simp [Value.ownBlock])).trans oB.out
                 obtain ⟨⟨p0, p1⟩, -⟩ := box2f (blk_below hXx.out hB1))
              | (refine step_append_own_at (by rfl) _ _ _ (by rfl) x.heap.size 23 i0 _ 2 24 Tryd.underlying28 hi hz0 hz1 hz2 rfl (by decide) _ 0 [] (by rfl) mC.out ⟨g, og, none⟩ k _ (syR.flat (L.take k)) (by rfl) hl1.out (hn1.out _ bC.out) hc1.out (by unfold maxLen; omega) (by omega) bC.out.size ?_
                 intro v1 w1 hown1 hgrow1 hat1
                 have hB1 := (bC.out).grown hgrow1 bC.out.size (fun j hj => by cases hj; first | exact Nat.le_refl _ | exact Nat.le_succ _)
                 have hq1 := (hgrow1.block (x.heap.size) (Array.getElem?_eq_some_iff.1 oC.out).1 (by simp [Value.ownBlock])).trans oC.out
                 obtain ⟨⟨p0, p1⟩, -⟩ := box2f (blk_below hXx.out hB1))
              | (refine step_append_own_at (by rfl) _ _ _ (by rfl) x.heap.size 23 i0 _ 2 24 Tryd.underlying28 hi hz0 hz1 hz2 rfl (by decide) v1 (0 + k) _ (by rfl) (hown1.alloc _) ⟨w1.heap.size, 0, none⟩ 1 1 [.string b, .bool q] (by rfl) (by rfl) (cells_new w1 [.string b, .bool q] _) hcon.out (by unfold maxLen; omega) (by omega) (hB1.alloc hB1.size (.cells #[.string b, .bool q] 23)).size ?_
                 intro v2 w2 hown2 hgrow2 hat2
                 have hB2 := ((hB1.alloc hB1.size (.cells #[.string b, .bool q] 23))).grown hgrow2 (hB1.alloc hB1.size (.cells #[.string b, .bool q] 23)).size (fun j hj => (hown1.lt j hj).1)
                 obtain ⟨⟨q0, q1⟩, -⟩ := box2f (blk_below hXx.out hB2))
              | (refine step_append_own_at (by rfl) _ _ _ (by rfl) x.heap.size 23 i0 _ 2 24 Tryd.underlying28 hi hz0 hz1 hz2 rfl (by decide) v1 (0 + k) _ (by rfl) hown1 ⟨x.heap.size + 1, 0, none⟩ 1 1 [.string b, .bool q] (by rfl) (by rfl) (cells_blkS (cs := [.string b, .bool q]) hq1) hcon.out (by unfold maxLen; omega) (by omega) hB1.size ?_
                 intro v2 w2 hown2 hgrow2 hat2
                 have hB2 := (hB1).grown hgrow2 hB1.size (fun j hj => (hown1.lt j hj).1)
                 obtain ⟨⟨q0, q1⟩, -⟩ := box2f (blk_below hXx.out hB2))
              | (refine step_append_own_at (by rfl) _ _ _ (by rfl) x.heap.size 23 i0 _ 2 24 Tryd.underlying28 hi hz0 hz1 hz2 rfl (by decide) v1 (0 + k) _ (by rfl) hown1 ⟨x.heap.size, 0, none⟩ 1 1 [.string b, .bool q] (by rfl) (by rfl) (cells_blkS (cs := [.string b, .bool q]) hq1) hcon.out (by unfold maxLen; omega) (by omega) hB1.size ?_
                 intro v2 w2 hown2 hgrow2 hat2
                 have hB2 := (hB1).grown hgrow2 hB1.size (fun j hj => (hown1.lt j hj).1)
                 obtain ⟨⟨q0, q1⟩, -⟩ := box2f (blk_below hXx.out hB2))
              | (refine step_append_own_at (by rfl) _ _ _ (by rfl) x.heap.size 23 i0 _ 2 24 Tryd.underlying28 hi hz0 hz1 hz2 rfl (by decide) v2 (0 + k + 1) _ (by rfl) hown2 _ (n - k) _ (syR.flat (L.drop k)) (by rfl) hl3.out (hn3.out _ hB2) hc3.out (by unfold maxLen; omega) (by omega) hB2.size ?_
                 intro v3 w3 hown3 hgrow3 hat3
                 have hB3 := hB2.grown hgrow3 hB2.size (fun j hj => (hown2.lt j hj).1)
                 obtain ⟨⟨r0, r1⟩, -⟩ := box2f (blk_below hXx.out hB3)
                 obtain ⟨g9, c9, rfl, hS9⟩ := rput_fin (L := L) (y := (b, q)) hkn hnL.out hown3)
              | fail)
          all_goals
            have hfb := hidden (hB0.out.trans ((hBf.out.trans (hB3.mono hBf.out.size)).mono hB0.out.size))
            replace hS9 := hidden hS9
            have hln : Hid ((L.take k ++ (b, q) :: L.drop k).length = n + 1) := by show _ = _; have := hnL.out; simp; omega
            go_wp2
            go_ret
            exact ⟨g9, 0, c9, L.take k ++ (b, q) :: L.drop k, by rw [hln.out]; rfl, hS9.out, hput.out, hfb.out⟩
end Go.Proofs.YtjgddkbpfpgaoafDoor
/-
  THE LIST WITH ONE STEP MORE: mathematics.
-/
namespace Go.Proofs.YtjgddkbpfpgaoafDoor
open Go.ChangeShapes Go.WideShapes Go.ChangeAt Go.RowKit

/-- Strictly in order. -/
def Strict (L : List Sy) : Prop := L.Pairwise fun a b => sycmp a b < 0
theorem sycmp_ge {x y : Sy} (h : ¬ sycmp x y < 0) (hne : x ≠ y) : sycmp y x < 0 := by
  have a := sycmp_anti x y
  by_cases e : sycmp x y = 0
  · exact absurd (sycmp_zero e) hne
  · omega
theorem getD_mem' {L : List Sy} {k : Nat} (hk : k < L.length) : L.getD k sy0 ∈ L := by
  have : L.getD k sy0 = L[k] := by simp [List.getD, hk]
  rw [this]; exact List.getElem_mem hk
theorem PutS.facts {y : Sy} {L L' : List Sy} (h : PutS y L L') (hs : Strict L) : Strict L' ∧ (∀ x, x ∈ L' ↔ x = y ∨ x ∈ L) ∧ L'.length ≤ L.length + 1 := by
  obtain ⟨k, hp, hb, h | h⟩ := h
  · obtain ⟨hk, he, rfl⟩ := h
    refine ⟨hs, fun x => ⟨.inr, fun h => ?_⟩, by omega⟩
    rcases h with rfl | h
    · rw [← he]; exact getD_mem' hk
    · exact h
  · obtain ⟨hne, rfl⟩ := h
    have hk := hp.le
    have hap : L.take k ++ L.drop k = L := List.take_append_drop ..
    have hs' := hs
    rw [← hap] at hs'
    obtain ⟨s1, s2, s3⟩ := List.pairwise_append.1 hs'
    have hbef : ∀ a ∈ L.take k, sycmp a y < 0 := fun a ha => by
      obtain ⟨j, hj, rfl⟩ := List.mem_iff_getElem.1 ha
      rw [List.length_take] at hj
      have := hp.ahead j (by omega)
      have e : L.getD j sy0 = (L.take k)[j]'(by rw [List.length_take]; omega) := by simp [List.getD, show j < L.length by omega]
      rw [← e]; exact this
    have haft : ∀ a ∈ L.drop k, sycmp y a < 0 := fun a ha => by
      by_cases hk2 : k < L.length
      · have h0 := sycmp_ge (hb hk2) (fun e => hne ⟨hk2, e⟩)
        have e : L.drop k = L.getD k sy0 :: L.drop (k + 1) := by
          rw [List.drop_eq_getElem_cons hk2]; simp [List.getD, hk2]
        rw [e] at ha s2
        rcases List.mem_cons.1 ha with rfl | ha
        · exact h0
        · exact sycmp_trans h0 ((List.pairwise_cons.1 s2).1 a ha)
      · rw [List.drop_eq_nil_of_le (by omega)] at ha; cases ha
    refine ⟨List.pairwise_append.2 ⟨s1, List.pairwise_cons.2 ⟨haft, s2⟩, fun a ha b hb => ?_⟩, fun x => ?_, by simp; omega⟩
    · rcases List.mem_cons.1 hb with rfl | hb
      · exact hbef a ha
      · exact s3 a ha b hb
    · conv => rhs; rw [← hap]
      simp only [List.mem_append, List.mem_cons]
      constructor
      · rintro (h | h | h)
        · exact .inr (.inl h)
        · exact .inl h
        · exact .inr (.inr h)
      · rintro (h | h | h)
        · exact .inr (.inl h)
        · exact .inl h
        · exact .inr (.inr h)
/-- Two of the same members are one. -/
theorem Strict.same : ∀ {A B : List Sy}, Strict A → Strict B → (∀ x, x ∈ A ↔ x ∈ B) → A = B
  | [], [], _, _, _ => rfl
  | [], b :: B, _, _, h => by have := (h b).2 List.mem_cons_self; cases this
  | a :: A, [], _, _, h => by have := (h a).1 List.mem_cons_self; cases this
  | a :: A, b :: B, hA, hB, h => by
    obtain ⟨a1, a2⟩ := List.pairwise_cons.1 hA
    obtain ⟨b1, b2⟩ := List.pairwise_cons.1 hB
    have e : a = b := by
      rcases List.mem_cons.1 ((h a).1 List.mem_cons_self) with h1 | h1
      · exact h1
      · rcases List.mem_cons.1 ((h b).2 List.mem_cons_self) with h2 | h2
        · exact h2.symm
        · have := sycmp_trans (b1 a h1) (a1 b h2)
          rw [sycmp_self] at this; omega
    subst e
    rw [Strict.same a2 b2 fun x => ?_]
    have irr : ∀ {l : List Sy}, (∀ z ∈ l, sycmp a z < 0) → a ∉ l := fun hl hm => by
      have := hl a hm; rw [sycmp_self] at this; omega
    constructor
    · intro hx
      rcases List.mem_cons.1 ((h x).1 (List.mem_cons_of_mem _ hx)) with rfl | h1
      · exact absurd hx (irr a1)
      · exact h1
    · intro hx
      rcases List.mem_cons.1 ((h x).2 (List.mem_cons_of_mem _ hx)) with rfl | h1
      · exact absurd hx (irr b1)
      · exact h1
/-- A list in order, its runs taken together. -/
theorem cpt_strict (L : List Sy) (hs : ∀ i j, i < j → j < L.length → ¬ sycmp (L.getD j sy0) (L.getD i sy0) < 0) : ∀ k, k ≤ L.length → Strict (cpt (L.take k)) ∧ ∀ x, x ∈ cpt (L.take k) ↔ x ∈ L.take k
  | 0, _ => by simp [cpt, Strict]
  | k + 1, hk => by
    obtain ⟨h1, h2⟩ := cpt_strict L hs k (by omega)
    by_cases h0 : k = 0
    · subst h0
      rw [cpt_one L (by omega)]
      refine ⟨?_, fun x => Iff.rfl⟩
      obtain ⟨a, l, rfl⟩ : ∃ a l, L = a :: l := by cases L with
        | nil => simp at hk
        | cons a l => exact ⟨a, l, rfl⟩
      simp [Strict]
    · have ht := take_snocR L sy0 k (by omega)
      by_cases he : L.getD k sy0 = L.getD (k - 1) sy0
      · rw [cpt_drop L (by omega) (by omega) he]
        refine ⟨h1, fun x => ?_⟩
        rw [h2, ht, List.mem_append, List.mem_singleton]
        refine ⟨.inl, fun h => ?_⟩
        rcases h with h | rfl
        · exact h
        · rw [he]
          have : L.getD (k - 1) sy0 = (L.take k)[k - 1]'(by rw [List.length_take]; omega) := by simp [List.getD, show k - 1 < L.length by omega]
          rw [this]
          exact List.getElem_mem _
      · rw [cpt_keep L (by omega) (by omega) he]
        refine ⟨List.pairwise_append.2 ⟨h1, List.pairwise_singleton .., fun a ha b hb => ?_⟩, fun x => ?_⟩
        · rw [List.mem_singleton] at hb
          subst hb
          rw [h2] at ha
          obtain ⟨j, hj, rfl⟩ := List.mem_iff_getElem.1 ha
          rw [List.length_take] at hj
          have e : (L.take k)[j]'(by rw [List.length_take]; omega) = L.getD j sy0 := by simp [List.getD, show j < L.length by omega]
          rw [e]
          have h4 : sycmp (L.getD (k - 1) sy0) (L.getD k sy0) < 0 := sycmp_ge (hs (k - 1) k (by omega) (by omega)) he
          by_cases e2 : j = k - 1
          · subst e2; exact h4
          · by_cases e3 : L.getD j sy0 = L.getD (k - 1) sy0
            · rw [e3]; exact h4
            · exact sycmp_trans (sycmp_ge (hs j (k - 1) (by omega) (by omega)) (Ne.symm e3)) h4
        · rw [ht, List.mem_append, List.mem_append, h2]
end Go.Proofs.YtjgddkbpfpgaoafDoor
/-
  THE REFERENCE's Syms, by contract.
-/
namespace Go.Proofs.YtjgddkbpfpgaoafDoor
open Go.ChangeShapes Go.WideShapes Go.ChangeAt Go.RowKit

/-- The list so far: whose members these are. -/
structure RL (B : Nat) (w x : World) (g og cap : Nat) (L : List Sy) (own : List Sy) (m : Nat) : Prop where
  sl : SlS x g og cap L
  strict : Strict L
  mem : ∀ y, y ∈ L ↔ y ∈ own
  len : L.length ≤ m
  below : Below B w x
theorem RL.put {B : Nat} {w x z : World} {g og cap g' og' cap' m : Nat} {L L' own : List Sy} {y : Sy} (h : RL B w x g og cap L own m) (hs : SlS z g' og' cap' L') (hp : PutS y L L') (hB : Below x.heap.size x z) (hBx : B ≤ x.heap.size) : RL B w z g' og' cap' L' (own ++ [y]) (m + 1) := by
  obtain ⟨h1, h2, h3⟩ := hp.facts h.strict
  refine ⟨hs, h1, fun x => ?_, by have := h.len; omega, h.below.trans (hB.mono hBx)⟩
  rw [h2, h.mem, List.mem_append, List.mem_singleton]
  exact Or.comm
set_option maxHeartbeats 6400000 in
set_option maxRecDepth 100000 in
theorem rsyms_c : ∀ (D : Nat) (ok : Nat → Prop) (v : RxV) (r : Rx) (w : World), HeldX ok w D v r → r.nodes ≤ 1000 →
    Calls Tryd.prog 6 #[.agg #[.int .i64 v.k, .string v.s, .bool v.b, .slice v.a v.n v.c]] w fun e w' => ∃ g og cap L, e = .returned (.slice (some ⟨g, og, none⟩) (List.length L) cap) ∧ RL w.heap.size w w' g og cap L r.syms r.nodes := by
  intro D
  induction D with
  | zero => intro ok v r w h _; exact absurd h (fun h => h)
  | succ D ih =>
    intro ok v r w hv hn
    have hv0 := hidden hv
    obtain ⟨hk, hs, hb, hsz, hnn, -⟩ := hv
    obtain ⟨vk, vsd, vb, va, vn, vc⟩ := v
    simp only at hk hs hb hsz hnn
    subst hk hs hb hnn
    obtain ⟨w1, hw1⟩ : ∃ w1, Hid (w1 = (w.alloc (.cells #[.int .i64 r.k, .string r.s, .bool r.b, .slice va r.ps.length vc] TX)).alloc (.cells #[] 23)) := ⟨_, hidden rfl⟩
    have hB1 : Below w.heap.size w w1 := by
      rw [hw1.out]; exact ((Below.refl _ _).alloc (Nat.le_refl _) _).alloc (by show _ ≤ (w.heap.push _).size; simp) _
    have hs1 : w1.heap.size = w.heap.size + 2 := by rw [hw1.out]; simp
    have hX : w1.heap[w.heap.size]? = some (Obj.cells #[.int .i64 r.k, .string r.s, .bool r.b, .slice va r.ps.length vc] TX) := by
      rw [hw1.out]; exact (heap_alloc_old _ _ (by simp)).trans (heap_alloc_new _ _)
    have hL0 : SlS w1 (w.heap.size + 1) 0 0 [] := ⟨Nat.le_refl _, by omega, fun j u hj => by simp [Rec.flat] at hj⟩
    have hR0 : RL w.heap.size w w1 (w.heap.size + 1) 0 0 [] [] 0 := ⟨hL0, .nil, fun _ => Iff.rfl, Nat.le_refl _, hB1⟩
    have hput := rput_c (r.s, r.b) w1 hL0 (by simp)
    obtain ⟨⟨x0, x1, x2, x3⟩, -⟩ := box4f hX
    have hps : Hid (nodesL r.ps + 1 ≤ 1000) := by show _ ≤ _; rw [← nodes_eq]; exact hn
    have hpl : r.ps.length ≤ 1000 := by have h1 := nodesL_len r.ps; have h2 := hps.out; omega
    obtain ⟨own, how⟩ : ∃ own, Hid (own = if r.k = 2 then [(r.s, r.b)] else []) := ⟨_, hidden rfl⟩
    replace hX := hidden hX
    have hs1h := hidden hs1
    clear hB1 hs1 hL0 hsz
    by_cases hk2 : r.k = 2
    · have how2 : Hid (own = if r.k = 2 then [(r.s, r.b)] else []) := how
      have hown1 : Hid (own.length ≤ 1) := by show _ ≤ _; rw [how.out]; split <;> simp
      have hoe : own = [(r.s, r.b)] := by rw [how.out, if_pos hk2]
      have hkb : (r.k == 2) = true := by simp [hk2]
      clear how hk2
      go_enter Tryd.func6, Tryd.ntmps6
      go_wp2_with fail
      rw [← hw1.out]
      refine hput.mono ?_
      rintro e z ⟨g, og, cap, L, rfl, hS, hP, hBz⟩
      have hR := hR0.put hS hP hBz (by have := hs1h.out; omega)
      replace hR : Hid (RL w.heap.size w z g og cap L own own.length) := by rw [hoe]; exact hR
      replace hBz := hidden hBz
      clear hS hP hput hR0 x0 x1 x2 x3 hw1 hoe
      go_wp2_with fail
      go_loopw [3, 4] (fun u iv x => ∃ (g og cap i : Nat) (L : List Sy), u = .slice (some ⟨g, og, none⟩) L.length cap ∧ iv = .int .i64 i ∧ i ≤ r.ps.length ∧ Hid (RL w.heap.size w x g og cap L (own ++ symsL (r.ps.take i)) (own.length + nodesL (r.ps.take i))) ∧ Hid (Below w1.heap.size w1 x)) (fun _ iv _ => r.ps.length - (intOf iv).toNat)
      case atStart => exact ⟨_, _, _, 0, _, rfl, rfl, Nat.zero_le _, by simpa [symsL, nodesL] using hR, hBz⟩
      case round =>
        clear hR hBz
        obtain ⟨g, og, cap, i, L, rfl, rfl, hi, hR, hB⟩ := hrel
        obtain ⟨⟨x0, x1, x2, x3⟩, -⟩ := box4f (blk_below hX.out hB.out)
        by_cases hlt : i < r.ps.length
        · have hlt' : (i : Int) < (r.ps.length : Int) := by omega
          have hBw := hR.out.below
          obtain ⟨pb, po, q, hva, hpb, c0, c1, c2, c3, hq⟩ := (hv0.out.below hBw).at hlt
          simp only at hva
          subst hva
          have ht := take_snocR r.ps Rx.none i hlt
          have hsT : symsL (r.ps.take (i + 1)) = symsL (r.ps.take i) ++ (r.ps.getD i Rx.none).syms := by rw [ht, symsL_app]; simp [symsL]
          have hnT : nodesL (r.ps.take (i + 1)) = nodesL (r.ps.take i) + (r.ps.getD i Rx.none).nodes := by rw [ht, nodesL_app]; simp [nodesL]
          have hnA : nodesL (r.ps.take (i + 1)) ≤ nodesL r.ps := by
            have h1 : nodesL r.ps = nodesL (r.ps.take (i + 1)) + nodesL (r.ps.drop (i + 1)) := by rw [← nodesL_app, List.take_append_drop]
            omega
          have hnb : Hid (own.length + nodesL (r.ps.take i) + (r.ps.getD i Rx.none).nodes ≤ 1000) := by
            show _ ≤ _; have h1 := hps.out; have h2 := hown1.out; omega
          have hih := ih ok q (r.ps.getD i Rx.none) wr hq (by have := hnb.out; omega)
          have hnx : Hid (∀ (x : World) (g og cap : Nat) (L L2 : List Sy), RL w.heap.size w x g og cap L ((own ++ symsL (r.ps.take i)) ++ L2) (own.length + nodesL (r.ps.take i) + L2.length) → (∀ y, y ∈ L2 ↔ y ∈ (r.ps.getD i Rx.none).syms) → L2.length ≤ (r.ps.getD i Rx.none).nodes → RL w.heap.size w x g og cap L (own ++ symsL (r.ps.take (i + 1))) (own.length + nodesL (r.ps.take (i + 1)))) := fun x g og cap L L2 h h2 h3 => by
            refine ⟨h.sl, h.strict, fun y => ?_, by have := h.len; omega, h.below⟩
            rw [h.mem, hsT, ← List.append_assoc, List.mem_append, List.mem_append (s := own ++ symsL (r.ps.take i)) (t := (r.ps.getD i Rx.none).syms), h2]
          obtain ⟨qk, qs, qb, qa, qn, qc⟩ := q
          simp only at c0 c1 c2 c3 hih
          generalize r.ps.getD i Rx.none = rp at *
          clear hq hsT hnT hnA ht
          go_wp2_with fail
          refine hih.mono ?_
          rintro e z ⟨g2, og2, cap2, L2, rfl, hR2⟩
          have hR20 : Hid (RL w.heap.size w z g og cap L ((own ++ symsL (r.ps.take i)) ++ L2.take 0) (own.length + nodesL (r.ps.take i) + 0)) := by
            show RL ..
            rw [List.take_zero, List.append_nil]
            exact ⟨hR.out.sl.below hR2.below, hR.out.strict, hR.out.mem, hR.out.len, hBw.trans (hR2.below.mono (by have := hBw.size; omega))⟩
          have hBz2 := hidden (hB.out.trans (hR2.below.mono (by have := hB.out.size; omega)))
          have hS2 := hidden hR2.sl
          have hM2 := hidden (And.intro hR2.mem hR2.len)
          have hl2 : Hid (L2.length ≤ rp.nodes) := hR2.len
          clear hih hR2 hR hB hBw c0 c1 c2 c3 x0 x1 x2 x3
          obtain ⟨n2, hn2⟩ : ∃ n2, n2 = L2.length := ⟨_, rfl⟩
          rw [← hn2]
          have hn2b : n2 ≤ 1000 := by have h1 := hl2.out; have h2 := hnb.out; omega
          replace hn2 := hidden hn2
          go_wp2_with fail
          go_loopw [3, 6] (fun u kv x => ∃ (g og cap k : Nat) (L : List Sy), u = .slice (some ⟨g, og, none⟩) L.length cap ∧ kv = .int .i64 k ∧ k ≤ n2 ∧ Hid (RL w.heap.size w x g og cap L ((own ++ symsL (r.ps.take i)) ++ L2.take k) (own.length + nodesL (r.ps.take i) + k)) ∧ Hid (Below z.heap.size z x)) (fun _ kv _ => n2 - (intOf kv).toNat)
          case atStart => exact ⟨g, og, cap, 0, L, rfl, rfl, Nat.zero_le _, hR20, Below.refl _ _⟩
          case round =>
            clear hR20
            obtain ⟨g, og, cap, k, L, rfl, rfl, hk, hR, hB⟩ := hrel
            by_cases hlt2 : k < n2
            · have hlt2' : (k : Int) < (n2 : Int) := by omega
              obtain ⟨c0, c1⟩ := (hS2.out.below hB.out).at2 (k := k) (by rw [← hn2.out]; exact hlt2)
              have hLl : L.length ≤ 1000 := by have h1 := hR.out.len; have h2 := hnb.out; have h3 := hl2.out; have h4 := hn2.out; omega
              have hput := rput_c (L2.getD k sy0) wr hR.out.sl hLl
              have htk : Hid (L2.take (k + 1) = L2.take k ++ [L2.getD k sy0]) := take_snocR L2 sy0 k (by rw [← hn2.out]; exact hlt2)
              generalize L2.getD k sy0 = y at *
              obtain ⟨a, p⟩ := y
              simp only at c0 c1 hput
              have hwz : w.heap.size ≤ wr.heap.size := by have := hR.out.below.size; omega
              go_wp2_with fail
              refine hput.mono ?_
              rintro e z3 ⟨g3, og3, cap3, L3, rfl, hS3, hP3, hB3⟩
              have hRn := hR.out.put hS3 hP3 hB3 hwz
              rw [List.append_assoc, ← htk.out] at hRn
              replace hRn := hidden hRn
              have hBn := hidden (hB.out.trans (hB3.mono (by have := hB.out.size; omega)))
              clear hR hB hS3 hP3 hB3 hput c0 c1
              go_wp2
              go_roundw
              case rel => exact ⟨g3, og3, cap3, k + 1, L3, rfl, by go_num, by omega, hRn, hBn⟩
              case measure => simp [intOf]; omega
            · have hlt2' : ¬ (k : Int) < (n2 : Int) := by omega
              have hend : Hid (RL w.heap.size w wr g og cap L (own ++ symsL (r.ps.take (i + 1))) (own.length + nodesL (r.ps.take (i + 1)))) := by
                have h := hR.out
                have ek : k = L2.length := by have := hn2.out; omega
                rw [ek, List.take_length] at h
                exact hnx.out _ _ _ _ _ L2 h hM2.out.1 hM2.out.2
              have hBe := hidden (hBz2.out.trans (hB.out.mono (by have := hBz2.out.size; omega)))
              clear hR hB hnx hM2
              go_wp2
              go_roundw
              case rel => exact ⟨g, og, cap, i + 1, L, rfl, by go_num, by omega, hend, hBe⟩
              case measure => simp [intOf]; omega
        · have hlt' : ¬ (i : Int) < (r.ps.length : Int) := by omega
          have hfin : Hid (RL w.heap.size w wr g og cap L r.syms r.nodes) := by
            have e : r.ps.take i = r.ps := List.take_of_length_le (by omega)
            have h := hR.out
            rw [e] at h
            have es : own ++ symsL r.ps = r.syms := by rw [syms_eq, how2.out]
            have en := nodes_eq r
            have hol := hown1.out
            rw [es] at h
            exact ⟨h.sl, h.strict, h.mem, by have := h.len; omega, h.below⟩
          clear hR hB
          go_wp2
          go_ret
          exact ⟨g, og, cap, L, rfl, hfin.out⟩
    · have how2 : Hid (own = if r.k = 2 then [(r.s, r.b)] else []) := how
      have hown1 : Hid (own.length ≤ 1) := by show _ ≤ _; rw [how.out]; split <;> simp
      have hoe : own = [] := by rw [how.out, if_neg hk2]
      have hkb : (r.k == 2) = false := by simp [hk2]
      clear how hk2
      go_enter Tryd.func6, Tryd.ntmps6
      go_wp2_with fail
      rw [← hw1.out]
      have hR : Hid (RL w.heap.size w w1 (w.heap.size + 1) 0 0 [] own own.length) := by rw [hoe]; exact hR0
      have hBz : Hid (Below w1.heap.size w1 w1) := Below.refl _ _
      have hl0 : Hid (([] : List Sy).length = 0) := (rfl : _ = _)
      clear hput hR0 x0 x1 x2 x3 hw1 hoe
      go_loopw [3, 4] (fun u iv x => ∃ (g og cap i : Nat) (L : List Sy), u = .slice (some ⟨g, og, none⟩) L.length cap ∧ iv = .int .i64 i ∧ i ≤ r.ps.length ∧ Hid (RL w.heap.size w x g og cap L (own ++ symsL (r.ps.take i)) (own.length + nodesL (r.ps.take i))) ∧ Hid (Below w1.heap.size w1 x)) (fun _ iv _ => r.ps.length - (intOf iv).toNat)
      case atStart => exact ⟨_, _, _, 0, _, rfl, rfl, Nat.zero_le _, by simpa [symsL, nodesL] using hR, hBz⟩
      case round =>
        clear hR hBz
        obtain ⟨g, og, cap, i, L, rfl, rfl, hi, hR, hB⟩ := hrel
        obtain ⟨⟨x0, x1, x2, x3⟩, -⟩ := box4f (blk_below hX.out hB.out)
        by_cases hlt : i < r.ps.length
        · have hlt' : (i : Int) < (r.ps.length : Int) := by omega
          have hBw := hR.out.below
          obtain ⟨pb, po, q, hva, hpb, c0, c1, c2, c3, hq⟩ := (hv0.out.below hBw).at hlt
          simp only at hva
          subst hva
          have ht := take_snocR r.ps Rx.none i hlt
          have hsT : symsL (r.ps.take (i + 1)) = symsL (r.ps.take i) ++ (r.ps.getD i Rx.none).syms := by rw [ht, symsL_app]; simp [symsL]
          have hnT : nodesL (r.ps.take (i + 1)) = nodesL (r.ps.take i) + (r.ps.getD i Rx.none).nodes := by rw [ht, nodesL_app]; simp [nodesL]
          have hnA : nodesL (r.ps.take (i + 1)) ≤ nodesL r.ps := by
            have h1 : nodesL r.ps = nodesL (r.ps.take (i + 1)) + nodesL (r.ps.drop (i + 1)) := by rw [← nodesL_app, List.take_append_drop]
            omega
          have hnb : Hid (own.length + nodesL (r.ps.take i) + (r.ps.getD i Rx.none).nodes ≤ 1000) := by
            show _ ≤ _; have h1 := hps.out; have h2 := hown1.out; omega
          have hih := ih ok q (r.ps.getD i Rx.none) wr hq (by have := hnb.out; omega)
          have hnx : Hid (∀ (x : World) (g og cap : Nat) (L L2 : List Sy), RL w.heap.size w x g og cap L ((own ++ symsL (r.ps.take i)) ++ L2) (own.length + nodesL (r.ps.take i) + L2.length) → (∀ y, y ∈ L2 ↔ y ∈ (r.ps.getD i Rx.none).syms) → L2.length ≤ (r.ps.getD i Rx.none).nodes → RL w.heap.size w x g og cap L (own ++ symsL (r.ps.take (i + 1))) (own.length + nodesL (r.ps.take (i + 1)))) := fun x g og cap L L2 h h2 h3 => by
            refine ⟨h.sl, h.strict, fun y => ?_, by have := h.len; omega, h.below⟩
            rw [h.mem, hsT, ← List.append_assoc, List.mem_append, List.mem_append (s := own ++ symsL (r.ps.take i)) (t := (r.ps.getD i Rx.none).syms), h2]
          obtain ⟨qk, qs, qb, qa, qn, qc⟩ := q
          simp only at c0 c1 c2 c3 hih
          generalize r.ps.getD i Rx.none = rp at *
          clear hq hsT hnT hnA ht
          go_wp2_with fail
          refine hih.mono ?_
          rintro e z ⟨g2, og2, cap2, L2, rfl, hR2⟩
          have hR20 : Hid (RL w.heap.size w z g og cap L ((own ++ symsL (r.ps.take i)) ++ L2.take 0) (own.length + nodesL (r.ps.take i) + 0)) := by
            show RL ..
            rw [List.take_zero, List.append_nil]
            exact ⟨hR.out.sl.below hR2.below, hR.out.strict, hR.out.mem, hR.out.len, hBw.trans (hR2.below.mono (by have := hBw.size; omega))⟩
          have hBz2 := hidden (hB.out.trans (hR2.below.mono (by have := hB.out.size; omega)))
          have hS2 := hidden hR2.sl
          have hM2 := hidden (And.intro hR2.mem hR2.len)
          have hl2 : Hid (L2.length ≤ rp.nodes) := hR2.len
          clear hih hR2 hR hB hBw c0 c1 c2 c3 x0 x1 x2 x3
          obtain ⟨n2, hn2⟩ : ∃ n2, n2 = L2.length := ⟨_, rfl⟩
          rw [← hn2]
          have hn2b : n2 ≤ 1000 := by have h1 := hl2.out; have h2 := hnb.out; omega
          replace hn2 := hidden hn2
          go_wp2_with fail
          go_loopw [3, 6] (fun u kv x => ∃ (g og cap k : Nat) (L : List Sy), u = .slice (some ⟨g, og, none⟩) L.length cap ∧ kv = .int .i64 k ∧ k ≤ n2 ∧ Hid (RL w.heap.size w x g og cap L ((own ++ symsL (r.ps.take i)) ++ L2.take k) (own.length + nodesL (r.ps.take i) + k)) ∧ Hid (Below z.heap.size z x)) (fun _ kv _ => n2 - (intOf kv).toNat)
          case atStart => exact ⟨g, og, cap, 0, L, rfl, rfl, Nat.zero_le _, hR20, Below.refl _ _⟩
          case round =>
            clear hR20
            obtain ⟨g, og, cap, k, L, rfl, rfl, hk, hR, hB⟩ := hrel
            by_cases hlt2 : k < n2
            · have hlt2' : (k : Int) < (n2 : Int) := by omega
              obtain ⟨c0, c1⟩ := (hS2.out.below hB.out).at2 (k := k) (by rw [← hn2.out]; exact hlt2)
              have hLl : L.length ≤ 1000 := by have h1 := hR.out.len; have h2 := hnb.out; have h3 := hl2.out; have h4 := hn2.out; omega
              have hput := rput_c (L2.getD k sy0) wr hR.out.sl hLl
              have htk : Hid (L2.take (k + 1) = L2.take k ++ [L2.getD k sy0]) := take_snocR L2 sy0 k (by rw [← hn2.out]; exact hlt2)
              generalize L2.getD k sy0 = y at *
              obtain ⟨a, p⟩ := y
              simp only at c0 c1 hput
              have hwz : w.heap.size ≤ wr.heap.size := by have := hR.out.below.size; omega
              go_wp2_with fail
              refine hput.mono ?_
              rintro e z3 ⟨g3, og3, cap3, L3, rfl, hS3, hP3, hB3⟩
              have hRn := hR.out.put hS3 hP3 hB3 hwz
              rw [List.append_assoc, ← htk.out] at hRn
              replace hRn := hidden hRn
              have hBn := hidden (hB.out.trans (hB3.mono (by have := hB.out.size; omega)))
              clear hR hB hS3 hP3 hB3 hput c0 c1
              go_wp2
              go_roundw
              case rel => exact ⟨g3, og3, cap3, k + 1, L3, rfl, by go_num, by omega, hRn, hBn⟩
              case measure => simp [intOf]; omega
            · have hlt2' : ¬ (k : Int) < (n2 : Int) := by omega
              have hend : Hid (RL w.heap.size w wr g og cap L (own ++ symsL (r.ps.take (i + 1))) (own.length + nodesL (r.ps.take (i + 1)))) := by
                have h := hR.out
                have ek : k = L2.length := by have := hn2.out; omega
                rw [ek, List.take_length] at h
                exact hnx.out _ _ _ _ _ L2 h hM2.out.1 hM2.out.2
              have hBe := hidden (hBz2.out.trans (hB.out.mono (by have := hBz2.out.size; omega)))
              clear hR hB hnx hM2
              go_wp2
              go_roundw
              case rel => exact ⟨g, og, cap, i + 1, L, rfl, by go_num, by omega, hend, hBe⟩
              case measure => simp [intOf]; omega
        · have hlt' : ¬ (i : Int) < (r.ps.length : Int) := by omega
          have hfin : Hid (RL w.heap.size w wr g og cap L r.syms r.nodes) := by
            have e : r.ps.take i = r.ps := List.take_of_length_le (by omega)
            have h := hR.out
            rw [e] at h
            have es : own ++ symsL r.ps = r.syms := by rw [syms_eq, how2.out]
            have en := nodes_eq r
            have hol := hown1.out
            rw [es] at h
            exact ⟨h.sl, h.strict, h.mem, by have := h.len; omega, h.below⟩
          clear hR hB
          go_wp2
          go_ret
          exact ⟨g, og, cap, L, rfl, hfin.out⟩
end Go.Proofs.YtjgddkbpfpgaoafDoor
