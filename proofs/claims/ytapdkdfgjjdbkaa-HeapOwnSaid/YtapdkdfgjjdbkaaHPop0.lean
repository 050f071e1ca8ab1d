/-
  THE REFERENCE's LIST WITH ONE ITEM MORE, by contract.
-/
import Derived.Test.YtapdkdfgjjdbkaaHApp
import Derived.Test.YtapdkdfgjjdbkaaIRSame
import Derived.Test.YtapdkdfgjjdbkaaHPush
import Derived.Test.YtapdkdfgjjdbkaaHPopC
import Derived.Test.YtapdkdfgjjdbkaaHPeek
import Derived.Test.YtapdkdfgjjdbkaaItems
namespace Go.Proofs.Ytapdkdfgjjdbkaa
open Go.ChangeShapes Go.WideShapes Go.ChangeAt Go.RowKit

/-- A slice of items that lies somewhere. -/
structure SlP (w : World) (g og cap : Nat) (ds : List Pr) : Prop where
  room : ds.length ≤ cap
  blk : ∃ cur, w.heap[g]? = some (.cells cur 24)
  cells : ∀ j u, (encs ds)[j]? = some u → w.cell? ⟨g, og + j, none⟩ = some u
theorem SlP.lt {w : World} {g og cap : Nat} {ds : List Pr} (h : SlP w g og cap ds) : g < w.heap.size := by
  obtain ⟨cur, hc⟩ := h.blk
  exact (Array.getElem?_eq_some_iff.1 hc).1
theorem SlP.below {w w' : World} {g og cap : Nat} {ds : List Pr} (h : SlP w g og cap ds) (hB : Below w.heap.size w w') : SlP w' g og cap ds :=
  ⟨h.room, by obtain ⟨cur, hc⟩ := h.blk; exact ⟨cur, (hB.block g (Array.getElem?_eq_some_iff.1 hc).1).trans hc⟩, fun j u hj => (hB.cell (p := ⟨g, og + j, none⟩) h.lt).trans (h.cells j u hj)⟩
theorem SlP.at4 {w : World} {g og cap : Nat} {ds : List Pr} (h : SlP w g og cap ds) {k : Nat} (hk : k < ds.length) :
    w.cell? ⟨g, og + k * 4, none⟩ = some (.int .i64 (ds.getD k pr0).1.c) ∧ w.cell? ⟨g, og + k * 4 + 1, none⟩ = some (ds.getD k pr0).2 ∧ w.cell? ⟨g, og + k * 4 + 2, none⟩ = some (.int .i64 (ds.getD k pr0).1.p) ∧ w.cell? ⟨g, og + k * 4 + 3, none⟩ = some (.int .i64 (ds.getD k pr0).1.r) :=
  ⟨h.cells _ _ (encs_get ds k 0 hk (by decide)), h.cells _ _ (encs_get ds k 1 hk (by decide)), h.cells _ _ (encs_get ds k 2 hk (by decide)), h.cells _ _ (encs_get ds k 3 hk (by decide))⟩
theorem encs_takeR : ∀ (L : List Pr) (m : Nat), encs (L.take m) = (encs L).take (m * 4)
  | [], m => by simp [encs]
  | p :: L, 0 => by simp [encs]
  | p :: L, m + 1 => by
    have hl : (encP p).length = 4 := rfl
    rw [List.take_succ_cons, encs_cons, encs_cons, encs_takeR L m, List.take_append, hl, show (m + 1) * 4 - 4 = m * 4 by omega, List.take_of_length_le (l := encP p) (by rw [hl]; omega)]
theorem encs_dropR (L : List Pr) (m : Nat) : encs (L.drop m) = (encs L).drop (m * 4) := by
  have h1 := encs_app (L.take m) (L.drop m)
  rw [List.take_append_drop, encs_takeR] at h1
  have h2 := (List.take_append_drop (m * 4) (encs L)).trans h1
  exact (List.append_cancel_left h2).symm
theorem slP_of {w : World} {B g cap n : Nat} {ds : List Pr} (h : w.ownsRow B 24 4 (.slice (some ⟨g, 0, none⟩) n cap) n (encs ds)) (hn : ds.length = n) : SlP w g 0 cap ds := by
  subst hn
  rcases id h.2 with ⟨e, _⟩ | ⟨g', cap', cur, e, _, hc, h3, _⟩
  · cases e
  · simp only [Value.slice.injEq, Option.some.injEq, Addr.mk.injEq, and_true, true_and] at e
    obtain ⟨rfl, rfl⟩ := e
    refine ⟨h3, ⟨cur, hc⟩, fun j u hj => ?_⟩
    rw [Nat.zero_add]
    exact own_cell h hj
/-- What is looked at. -/
def pushed2 (X g o : Nat) (x y : It) (nx ny : Value) : List (Addr × Value) :=
  [(⟨X, 0, none⟩, .int .i64 x.c), (⟨X, 1, none⟩, nx), (⟨X, 2, none⟩, .int .i64 x.p), (⟨X, 3, none⟩, .int .i64 x.r),
   (⟨g, o, none⟩, .int .i64 y.c), (⟨g, o + 1, none⟩, ny), (⟨g, o + 2, none⟩, .int .i64 y.p), (⟨g, o + 3, none⟩, .int .i64 y.r)]
/-- The place of an item. -/
structure Place (y : It) (ds : List Pr) (k : Nat) : Prop where
  le : k ≤ ds.length
  behind : ∀ j, k ≤ j → j < ds.length → icmp y (itF ds j) < 0
theorem cells_blk {z : World} {q : Nat} {cs : List Value} {t : TypeId} (h : z.heap[q]? = some (.cells cs.toArray t)) : ∀ j u, cs[j]? = some u → z.cell? ((⟨q, 0, none⟩ : Addr).add j) = some u := fun j u hj => by
  rw [add_plain]
  simp only [World.cell?, h, Nat.zero_add]
  simpa using hj
/-- The list with one item more. -/
theorem rpush_fin {w3 : World} {B : Nat} {v3 : Value} {ds : List Pr} {k : Nat} {y : It} {nv : Value} (hk : k ≤ ds.length)
    (h : w3.ownsRow B 24 4 v3 (0 + k + 1 + (ds.length - k)) (([] ++ encs (ds.take k)) ++ [.int .i64 y.c, nv, .int .i64 y.p, .int .i64 y.r] ++ encs (ds.drop k))) :
    ∃ g' cap', v3 = .slice (some ⟨g', 0, none⟩) (ds.length + 1) cap' ∧ B ≤ g' ∧ SlP w3 g' 0 cap' (ds.take k ++ (y, nv) :: ds.drop k) := by
  have e : encs (ds.take k ++ (y, nv) :: ds.drop k) = ([] ++ encs (ds.take k)) ++ [.int .i64 y.c, nv, .int .i64 y.p, .int .i64 y.r] ++ encs (ds.drop k) := by
    rw [encs_app, encs_cons]; simp [encP, cellsI]
  rw [← e, show 0 + k + 1 + (ds.length - k) = ds.length + 1 by omega] at h
  rcases id h.2 with ⟨_, h0⟩ | ⟨g, cap, cur, e1, e2, _⟩
  · omega
  · subst e1
    exact ⟨g, cap, rfl, e2, slP_of h (by simp; omega)⟩
/-- What is so behind it. -/
structure RPushed (w w' : World) (ds : List Pr) (y : It) (nv : Value) (g' cap' : Nat) : Prop where
  new : w.heap.size ≤ g'
  is : ∃ k, SlP w' g' 0 cap' (ds.take k ++ (y, nv) :: ds.drop k) ∧ Place y ds k ∧ (k = 0 ∨ 0 ≤ icmp y (itF ds (k - 1)))
  below : Below w.heap.size w w'
set_option maxHeartbeats 3200000 in
set_option maxRecDepth 1000000 in
theorem rpush_c {g og cap : Nat} {ds : List Pr} (y : It) (nv : Value) (w : World) (h : SlP w g og cap ds) (hr : Rowed w ds) (hv : Sl w nv (ints y.l)) (hy : y.l.length ≤ 1000) (hn : ds.length ≤ 1000) (hl : ∀ p ∈ ds, p.1.l.length ≤ 1000) :
    Calls Try.prog 14 #[.slice (some ⟨g, og, none⟩) ds.length cap, itV y nv] w fun e w' => ∃ g' cap', e = .returned (.slice (some ⟨g', 0, none⟩) (ds.length + 1) cap') ∧ RPushed w w' ds y nv g' cap' := by
  obtain ⟨i0, hi, hz0, hz1, hz2⟩ := info_parts infoIt
  obtain ⟨yc, yl, yp, yr⟩ := y
  simp only [itV] at hv hy ⊢
  obtain ⟨na, nc, rfl, hcap, hnil, hspot, hrow⟩ := id hv
  clear hcap hnil hspot hrow
  obtain ⟨w0, hw0⟩ : ∃ w0, w0 = w.alloc (.cells #[.int .i64 yc, .slice na (ints yl).length nc, .int .i64 yp, .int .i64 yr] 24) := ⟨_, rfl⟩
  have hB0 : Below w.heap.size w w0 := by rw [hw0]; exact (Below.refl _ _).alloc (Nat.le_refl _) _
  have hX0 : w0.heap[w.heap.size]? = some (.cells #[.int .i64 yc, .slice na (ints yl).length nc, .int .i64 yp, .int .i64 yr] 24) := by rw [hw0]; exact heap_alloc_new _ _
  have hr0 := hiddenI (hr.below hB0)
  have hv0 := hiddenI (hv.below hB0)
  have h0 := hiddenI (h.below hB0)
  have hroom := h.room
  have hone : Hid (∀ u ∈ encs ds, u.oneCell' = true) := fun u hu => by
    simp only [encs, List.mem_flatMap] at hu
    obtain ⟨p, hp, hu⟩ := hu
    obtain ⟨a, c, e, _⟩ := hr p hp
    simp only [encP, cellsI, List.mem_cons, List.not_mem_nil, or_false] at hu
    rcases hu with rfl | rfl | rfl | rfl
    · rfl
    · rw [e]; rfl
    · rfl
    · rfl
  replace hB0 := hiddenI hB0
  replace hX0 := hiddenI hX0
  replace hw0 := hiddenI hw0
  replace hl := hiddenI hl
  clear hr hv h
  generalize hyn : (ints yl).length = yn at *
  replace hyn := hiddenI hyn
  go_enter Try.func14, Try.ntmps14
  go_wp2_with fail
  rw [← hw0.out]
  go_loopw [5] (fun u x => ∃ k : Nat, u = .int .i64 k ∧ Hid (Place ⟨yc, yl, yp, yr⟩ ds k) ∧ Hid (Below w0.heap.size w0 x)) (fun u _ => (intOf u).toNat)
  case atStart => exact ⟨ds.length, rfl, ⟨Nat.le_refl _, fun j h1 h2 => by omega⟩, Below.refl _ _⟩
  case round =>
    obtain ⟨k, rfl, hpl, hB⟩ := hrel
    have hkl := hpl.out.le
    have hnext : Hid (0 < k → icmp ⟨yc, yl, yp, yr⟩ (itF ds (k - 1)) < 0 → Place ⟨yc, yl, yp, yr⟩ ds (k - 1)) := fun h1 h2 => ⟨by omega, fun j h3 h4 => by
      by_cases e : j = k - 1
      · subst e; exact h2
      · exact hpl.out.behind j (by omega) h4⟩
    have hk1000 : (k : Int) ≤ 1000 := by omega
    have hsl := h0.out.below hB.out
    have hrs := hr0.out.below hB.out
    have hX := hiddenI (box_below hX0.out hB.out)
    obtain ⟨⟨x0, x1, x2, x3⟩, -⟩ := box4 hX.out
    go_wp2_with fail
    obtain ⟨R, hR⟩ : ∃ R : Act → World → Prop, Hid (R = fun a' x => ∃ v8 v9 v10 v11 v12 v13 v14 v15 v16 v17 v18 d, a' = ({ tmps := #[.slice (some ⟨g, og, none⟩) ds.length cap, .agg #[.int .i64 yc, .slice na yn nc, .int .i64 yp, .int .i64 yr], undef, .pointer (some ⟨w.heap.size, 0, none⟩), .slice none 0 0, .int .i64 k, .slice (some ⟨g, og, none⟩) ds.length cap, .int .i64 ds.length, v8, v9, v10, v11, v12, v13, v14, v15, v16, v17, v18, .bool d, u20, u21, undef, undef, undef, undef, undef, undef, undef, undef, undef, undef, undef, undef], defers := [] } : Act) ∧ Below wr.heap.size wr x ∧ (d = true → 0 < k ∧ icmp ⟨yc, yl, yp, yr⟩ (itF ds (k - 1)) < 0) ∧ (d = false → k = 0 ∨ ¬ icmp ⟨yc, yl, yp, yr⟩ (itF ds (k - 1)) < 0)) := ⟨_, hiddenI rfl⟩
    refine wp_only R ?h ?hq
    case hq =>
      intro a' x hRx
      rw [hR.out] at hRx
      obtain ⟨v8, v9, v10, v11, v12, v13, v14, v15, v16, v17, v18, d, rfl, hBx, hT, hF⟩ := hRx
      have hBf := hiddenI (hB.out.trans (hBx.mono hB.out.size))
      clear hR hsl hrs x0 x1 x2 x3 hBx hB
      cases d with
      | true =>
        obtain ⟨hk0, hlt⟩ := hT rfl
        have hnx := hiddenI (hnext.out hk0 hlt)
        have hk1 : IntKind.i64.wrap ((k : Int) - 1) = ((k - 1 : Nat) : Int) := by rw [IntKind.wrap_i64]; omega
        clear hT hF hnext hlt
        go_wp2
        go_roundw
        case rel => exact ⟨k - 1, by go_num, hnx, hBf⟩
        case measure => simp [intOf]; omega
      | false =>
        have hfin := hiddenI (hF rfl)
        clear hT hF hnext
        go_wp2_with fail
        have hslx := h0.out.below hBf.out
        have hXx := hiddenI (box_below hX0.out hBf.out)
        obtain ⟨⟨x0, x1, x2, x3⟩, -⟩ := box4 hXx.out
        have hl1 : Hid ((encs (ds.take k)).length = k * 4) := by show _ = _; rw [encs_len, List.length_take]; omega
        have hl3 : Hid ((encs (ds.drop k)).length = (ds.length - k) * 4) := by show _ = _; rw [encs_len, List.length_drop]
        have hoc : ∀ u ∈ encs ds, u.oneCell' = true := hone.out
        have hc1 : Hid (∀ u ∈ encs (ds.take k), u.oneCell' = true) := fun u hu => by rw [encs_takeR] at hu; exact hoc u (List.mem_of_mem_take hu)
        have hc3 : Hid (∀ u ∈ encs (ds.drop k), u.oneCell' = true) := fun u hu => by rw [encs_dropR] at hu; exact hoc u (List.mem_of_mem_drop hu)
        have hn1 : Hid (∀ z, Below x.heap.size x z → ∀ j u, (encs (ds.take k))[j]? = some u → z.cell? ((⟨g, og, none⟩ : Addr).add j) = some u) := fun z hz j u hj => by
          rw [add_plain]
          rw [encs_takeR, List.getElem?_take] at hj
          split at hj
          · exact (hslx.below hz).cells j u hj
          · cases hj
        have hn3 : Hid (∀ z, Below x.heap.size x z → ∀ j u, (encs (ds.drop k))[j]? = some u → z.cell? ((if cap = k then (⟨g, og, none⟩ : Addr) else ⟨g, og + k * 4, none⟩).add j) = some u) := fun z hz j u hj => by
          rw [encs_dropR, List.getElem?_drop] at hj
          by_cases hck : cap = k
          · have h9 : ds.length ≤ k := by omega
            have h8 := (List.getElem?_eq_some_iff.1 hj).1
            rw [encs_len] at h8
            omega
          · rw [if_neg hck, add_plain, Nat.add_assoc]
            exact (hslx.below hz).cells _ u hj
        clear hslx hoc
        have bA : Hid (Below x.heap.size x (x.drew.alloc (.cells #[] 24))) := (Below.refl _ _).drew.alloc (Nat.le_refl _) _
        have bB : Hid (Below x.heap.size x ((x.drew.alloc (.cells #[] 24)).alloc (.cells #[.int .i64 yc, .slice na yn nc, .int .i64 yp, .int .i64 yr] 24))) := bA.out.alloc bA.out.size _
        have bC0 : Hid (Below x.heap.size x (x.drew.alloc (.cells #[.int .i64 yc, .slice na yn nc, .int .i64 yp, .int .i64 yr] 24))) := (Below.refl _ _).drew.alloc (Nat.le_refl _) _
        have bC : Hid (Below x.heap.size x ((x.drew.alloc (.cells #[.int .i64 yc, .slice na yn nc, .int .i64 yp, .int .i64 yr] 24)).alloc (.cells #[] 24))) := bC0.out.alloc bC0.out.size _
        have mA : Hid ((x.drew.alloc (.cells #[] 24)).ownsRow x.heap.size 24 4 (.slice (some ⟨x.heap.size, 0, none⟩) 0 0) 0 []) := World.ownsRow_made x.drew #[] 0 (Nat.le_refl _) (by unfold maxLen; omega) rfl
        have mB : Hid (((x.drew.alloc (.cells #[] 24)).alloc (.cells #[.int .i64 yc, .slice na yn nc, .int .i64 yp, .int .i64 yr] 24)).ownsRow x.heap.size 24 4 (.slice (some ⟨x.heap.size, 0, none⟩) 0 0) 0 []) := mA.out.alloc _
        have mC : Hid (((x.drew.alloc (.cells #[.int .i64 yc, .slice na yn nc, .int .i64 yp, .int .i64 yr] 24)).alloc (.cells #[] 24)).ownsRow x.heap.size 24 4 (.slice (some ⟨x.heap.size + 1, 0, none⟩) 0 0) 0 []) := by
          have h9 := World.ownsRow_made (base := x.heap.size) (e := 24) (size := 4) (x.drew.alloc (.cells #[.int .i64 yc, .slice na yn nc, .int .i64 yp, .int .i64 yr] 24)) #[] 0 bC0.out.size (by unfold maxLen; omega) rfl
          have h8 : (x.drew.alloc (.cells #[.int .i64 yc, .slice na yn nc, .int .i64 yp, .int .i64 yr] 24)).heap.size = x.heap.size + 1 := by show (x.heap.push _).size = _; simp
          rw [h8] at h9
          exact h9
        have oB : Hid (((x.drew.alloc (.cells #[] 24)).alloc (.cells #[.int .i64 yc, .slice na yn nc, .int .i64 yp, .int .i64 yr] 24)).heap[x.heap.size + 1]? = some (.cells #[.int .i64 yc, .slice na yn nc, .int .i64 yp, .int .i64 yr] 24)) := by
          have h9 := heap_alloc_new (x.drew.alloc (.cells #[] 24)) (.cells #[.int .i64 yc, .slice na yn nc, .int .i64 yp, .int .i64 yr] 24)
          have h8 : (x.drew.alloc (.cells #[] 24)).heap.size = x.heap.size + 1 := by show (x.heap.push _).size = _; simp
          rw [h8] at h9
          exact h9
        have oC : Hid (((x.drew.alloc (.cells #[.int .i64 yc, .slice na yn nc, .int .i64 yp, .int .i64 yr] 24)).alloc (.cells #[] 24)).heap[x.heap.size]? = some (.cells #[.int .i64 yc, .slice na yn nc, .int .i64 yp, .int .i64 yr] 24)) :=
          box_below (heap_alloc_new x.drew (.cells #[.int .i64 yc, .slice na yn nc, .int .i64 yp, .int .i64 yr] 24)) ((Below.refl _ _).alloc (Nat.le_refl _) _)
        have hkn : (k : Int) ≤ (ds.length : Int) := by omega
        have hkc : (k : Int) ≤ (cap : Int) := by omega
        have hnc : (ds.length : Int) ≤ (cap : Int) := by omega
        have hcon : ∀ u ∈ ([.int .i64 yc, .slice na yn nc, .int .i64 yp, .int .i64 yr] : List Value), u.oneCell' = true := fun u hu => by simp at hu; rcases hu with rfl | rfl | rfl | rfl <;> rfl
        replace hcon := hiddenI hcon
        replace hroom := hiddenI hroom
        generalize hck : (if cap = k then (⟨g, og, none⟩ : Addr) else ⟨g, og + k * 4, none⟩) = ak at *
        replace hn3 := hn3
        have hck2 : Hid (cap = k ∧ ak = ⟨g, og, none⟩ ∨ ¬ cap = k ∧ ak = ⟨g, og + k * 4, none⟩) := by
          by_cases h : cap = k
          · exact .inl ⟨h, by rw [← hck, if_pos h]⟩
          · exact .inr ⟨h, by rw [← hck, if_neg h]⟩
        clear hck
        rcases hck2.out with ⟨hck, hak⟩ | ⟨hck, hak⟩ <;> subst hak <;> clear hck2
        all_goals
          go_region_held3 (fun z => z.cell? ⟨w.heap.size, 0, none⟩ = some (.int .i64 yc) ∧ z.cell? ⟨w.heap.size, 1, none⟩ = some (.slice na yn nc) ∧ z.cell? ⟨w.heap.size, 2, none⟩ = some (.int .i64 yp) ∧ z.cell? ⟨w.heap.size, 3, none⟩ = some (.int .i64 yr)) (go_keep) (first
            | (refine step_append_own_at (by rfl) _ _ _ (by rfl) x.heap.size 24 i0 _ 4 48 Try.underlying31 hi hz0 hz1 hz2 rfl (by decide) _ 0 [] (by rfl) mA.out ⟨g, og, none⟩ k _ (encs (ds.take k)) (by rfl) hl1.out (hn1.out _ bA.out) hc1.out (by unfold maxLen; omega) (by omega) bA.out.size ?_
               intro v1 w1 hown1 hgrow1 hat1
               have hB1 := (bA.out).grown hgrow1 bA.out.size (fun j hj => by cases hj; first | exact Nat.le_refl _ | exact Nat.le_succ _)
               obtain ⟨⟨p0, p1, p2, p3⟩, -⟩ := box4 (box_below hXx.out hB1))
            | (refine step_append_own_at (by rfl) _ _ _ (by rfl) x.heap.size 24 i0 _ 4 48 Try.underlying31 hi hz0 hz1 hz2 rfl (by decide) _ 0 [] (by rfl) mB.out ⟨g, og, none⟩ k _ (encs (ds.take k)) (by rfl) hl1.out (hn1.out _ bB.out) hc1.out (by unfold maxLen; omega) (by omega) bB.out.size ?_
               intro v1 w1 hown1 hgrow1 hat1
               have hB1 := (bB.out).grown hgrow1 bB.out.size (fun j hj => by cases hj; first | exact Nat.le_refl _ | exact Nat.le_succ _)
               have hq1 := (hgrow1.block (x.heap.size + 1) (Array.getElem?_eq_some_iff.1 oB.out).1 (by simp [Value.ownBlock])).trans oB.out
               obtain ⟨⟨p0, p1, p2, p3⟩, -⟩ := box4 (box_below hXx.out hB1))
            | (refine step_append_own_at (by rfl) _ _ _ (by rfl) x.heap.size 24 i0 _ 4 48 Try.underlying31 hi hz0 hz1 hz2 rfl (by decide) _ 0 [] (by rfl) mC.out ⟨g, og, none⟩ k _ (encs (ds.take k)) (by rfl) hl1.out (hn1.out _ bC.out) hc1.out (by unfold maxLen; omega) (by omega) bC.out.size ?_
               intro v1 w1 hown1 hgrow1 hat1
               have hB1 := (bC.out).grown hgrow1 bC.out.size (fun j hj => by cases hj; first | exact Nat.le_refl _ | exact Nat.le_succ _)
               have hq1 := (hgrow1.block (x.heap.size) (Array.getElem?_eq_some_iff.1 oC.out).1 (by simp [Value.ownBlock])).trans oC.out
               obtain ⟨⟨p0, p1, p2, p3⟩, -⟩ := box4 (box_below hXx.out hB1))
            | (refine step_append_own_at (by rfl) _ _ _ (by rfl) x.heap.size 24 i0 _ 4 48 Try.underlying31 hi hz0 hz1 hz2 rfl (by decide) v1 (0 + k) _ (by rfl) (hown1.alloc _) ⟨w1.heap.size, 0, none⟩ 1 1 [.int .i64 yc, .slice na yn nc, .int .i64 yp, .int .i64 yr] (by rfl) (by rfl) (cells_blk (cs := [.int .i64 yc, .slice na yn nc, .int .i64 yp, .int .i64 yr]) (heap_alloc_new w1 (.cells #[.int .i64 yc, .slice na yn nc, .int .i64 yp, .int .i64 yr] 24))) hcon.out (by unfold maxLen; omega) (by omega) (hB1.alloc hB1.size (.cells #[.int .i64 yc, .slice na yn nc, .int .i64 yp, .int .i64 yr] 24)).size ?_
               intro v2 w2 hown2 hgrow2 hat2
               have hB2 := ((hB1.alloc hB1.size (.cells #[.int .i64 yc, .slice na yn nc, .int .i64 yp, .int .i64 yr] 24))).grown hgrow2 (hB1.alloc hB1.size (.cells #[.int .i64 yc, .slice na yn nc, .int .i64 yp, .int .i64 yr] 24)).size (fun j hj => (hown1.lt j hj).1)
               obtain ⟨⟨q0, q1, q2, q3⟩, -⟩ := box4 (box_below hXx.out hB2))
            | (refine step_append_own_at (by rfl) _ _ _ (by rfl) x.heap.size 24 i0 _ 4 48 Try.underlying31 hi hz0 hz1 hz2 rfl (by decide) v1 (0 + k) _ (by rfl) hown1 ⟨x.heap.size + 1, 0, none⟩ 1 1 [.int .i64 yc, .slice na yn nc, .int .i64 yp, .int .i64 yr] (by rfl) (by rfl) (cells_blk (cs := [.int .i64 yc, .slice na yn nc, .int .i64 yp, .int .i64 yr]) hq1) hcon.out (by unfold maxLen; omega) (by omega) hB1.size ?_
               intro v2 w2 hown2 hgrow2 hat2
               have hB2 := (hB1).grown hgrow2 hB1.size (fun j hj => (hown1.lt j hj).1)
               obtain ⟨⟨q0, q1, q2, q3⟩, -⟩ := box4 (box_below hXx.out hB2))
            | (refine step_append_own_at (by rfl) _ _ _ (by rfl) x.heap.size 24 i0 _ 4 48 Try.underlying31 hi hz0 hz1 hz2 rfl (by decide) v1 (0 + k) _ (by rfl) hown1 ⟨x.heap.size, 0, none⟩ 1 1 [.int .i64 yc, .slice na yn nc, .int .i64 yp, .int .i64 yr] (by rfl) (by rfl) (cells_blk (cs := [.int .i64 yc, .slice na yn nc, .int .i64 yp, .int .i64 yr]) hq1) hcon.out (by unfold maxLen; omega) (by omega) hB1.size ?_
               intro v2 w2 hown2 hgrow2 hat2
               have hB2 := (hB1).grown hgrow2 hB1.size (fun j hj => (hown1.lt j hj).1)
               obtain ⟨⟨q0, q1, q2, q3⟩, -⟩ := box4 (box_below hXx.out hB2))
            | (refine step_append_own_at (by rfl) _ _ _ (by rfl) x.heap.size 24 i0 _ 4 48 Try.underlying31 hi hz0 hz1 hz2 rfl (by decide) v2 (0 + k + 1) _ (by rfl) hown2 _ (ds.length - k) _ (encs (ds.drop k)) (by rfl) hl3.out (hn3.out _ hB2) hc3.out (by unfold maxLen; omega) (by omega) hB2.size ?_
               intro v3 w3 hown3 hgrow3 hat3
               have hB3 := hB2.grown hgrow3 hB2.size (fun j hj => (hown2.lt j hj).1)
               obtain ⟨⟨r0, r1, r2, r3⟩, -⟩ := box4 (box_below hXx.out hB3)
               obtain ⟨g9, c9, rfl, hg9, hS9⟩ := rpush_fin (y := ⟨yc, yl, yp, yr⟩) (nv := .slice na yn nc) hkl hown3)
            | fail)
        all_goals
          have hfb := hiddenI (hB0.out.trans ((hBf.out.trans (hB3.mono hBf.out.size)).mono hB0.out.size))
          have hg8 := hiddenI (Nat.le_trans (Nat.le_trans hB0.out.size hBf.out.size) hg9)
          replace hS9 := hiddenI hS9
          go_wp2
          go_ret
          exact ⟨g9, c9, rfl, ⟨hg8.out, ⟨k, hS9.out, hpl.out, hfin.out⟩, hfb.out⟩⟩
    by_cases hk0 : 0 < k
    · obtain ⟨c0, c1, c2, c3⟩ := hsl.at4 (k := k - 1) (by omega)
      have hxh := (hrs _ (getD_mem (L := ds) (k := k - 1) (by omega))).holds
      have hxl := hl.out _ (getD_mem (L := ds) (k := k - 1) (by omega))
      have hyh := (hv0.out.below hB.out).holds
      have hit : itF ds (k - 1) = (ds.getD (k - 1) pr0).1 := rfl
      rw [hit] at hR
      generalize ds.getD (k - 1) pr0 = p at *
      obtain ⟨⟨xc, xl, xp, xr⟩, xv⟩ := p
      simp only at c0 c1 c2 c3 hxh hxl hR
      have hm1 : IntKind.i64.wrap ((k : Int) - 1) = ((k - 1 : Nat) : Int) := by rw [IntKind.wrap_i64]; omega
      have hml : ((k - 1 : Nat) : Int) < (ds.length : Int) := by omega
      have hk0' : (k : Int) > 0 := by omega
      generalize hmm : k - 1 = m at *
      have hkk : Keeps wr (pushed2 w.heap.size g (og + m * 4) ⟨yc, yl, yp, yr⟩ ⟨xc, xl, xp, xr⟩ (.slice na yn nc) xv) wr.drew := by
        refine Keeps.drew ⟨Below.refl _ _, fun p hp => ?_⟩
        simp only [pushed2, List.mem_cons, List.not_mem_nil, or_false] at hp
        rcases hp with rfl | rfl | rfl | rfl | rfl | rfl | rfl | rfl <;> assumption
      have hcall : ∀ z : In (Keeps wr (pushed2 w.heap.size g (og + m * 4) ⟨yc, yl, yp, yr⟩ ⟨xc, xl, xp, xr⟩ (.slice na yn nc) xv)), Calls Try.prog 16 #[itV ⟨yc, yl, yp, yr⟩ (.slice na yn nc), itV ⟨xc, xl, xp, xr⟩ xv] z.w fun e w'' => e = .returned (.int .i64 (icmp ⟨yc, yl, yp, yr⟩ ⟨xc, xl, xp, xr⟩)) ∧ ∃ u : In (Keeps wr (pushed2 w.heap.size g (og + m * 4) ⟨yc, yl, yp, yr⟩ ⟨xc, xl, xp, xr⟩ (.slice na yn nc) xv)), w'' = u.w :=
        fun z => later_of ((rorder_c ⟨yc, yl, yp, yr⟩ ⟨xc, xl, xp, xr⟩ (.slice na yn nc) xv z.w (hyh.below z.h.1) (hxh.below z.h.1) (by show yl.length ≤ _; omega) (by show xl.length ≤ _; omega)).mono fun _ _ ⟨he, hb⟩ => ⟨he, z.h.below hb⟩)
      generalize icmp ⟨yc, yl, yp, yr⟩ ⟨xc, xl, xp, xr⟩ = c at *
      simp only [itV] at hcall
      clear hsl hrs hnext hxh hyh hxl hit x0 x1 x2 x3 c0 c1 c2 c3
      have f0 : ∀ z : In (Keeps wr (pushed2 w.heap.size g (og + m * 4) ⟨yc, yl, yp, yr⟩ ⟨xc, xl, xp, xr⟩ (.slice na yn nc) xv)), _ := Keeps.at 0 rfl
      have f1 : ∀ z : In (Keeps wr (pushed2 w.heap.size g (og + m * 4) ⟨yc, yl, yp, yr⟩ ⟨xc, xl, xp, xr⟩ (.slice na yn nc) xv)), _ := Keeps.at 1 rfl
      have f2 : ∀ z : In (Keeps wr (pushed2 w.heap.size g (og + m * 4) ⟨yc, yl, yp, yr⟩ ⟨xc, xl, xp, xr⟩ (.slice na yn nc) xv)), _ := Keeps.at 2 rfl
      have f3 : ∀ z : In (Keeps wr (pushed2 w.heap.size g (og + m * 4) ⟨yc, yl, yp, yr⟩ ⟨xc, xl, xp, xr⟩ (.slice na yn nc) xv)), _ := Keeps.at 3 rfl
      have f4 : ∀ z : In (Keeps wr (pushed2 w.heap.size g (og + m * 4) ⟨yc, yl, yp, yr⟩ ⟨xc, xl, xp, xr⟩ (.slice na yn nc) xv)), _ := Keeps.at 4 rfl
      have f5 : ∀ z : In (Keeps wr (pushed2 w.heap.size g (og + m * 4) ⟨yc, yl, yp, yr⟩ ⟨xc, xl, xp, xr⟩ (.slice na yn nc) xv)), _ := Keeps.at 5 rfl
      have f6 : ∀ z : In (Keeps wr (pushed2 w.heap.size g (og + m * 4) ⟨yc, yl, yp, yr⟩ ⟨xc, xl, xp, xr⟩ (.slice na yn nc) xv)), _ := Keeps.at 6 rfl
      have f7 : ∀ z : In (Keeps wr (pushed2 w.heap.size g (og + m * 4) ⟨yc, yl, yp, yr⟩ ⟨xc, xl, xp, xr⟩ (.slice na yn nc) xv)), _ := Keeps.at 7 rfl
      dsimp only at f0 f1 f2 f3 f4 f5 f6 f7
      generalize pushed2 w.heap.size g (og + m * 4) ⟨yc, yl, yp, yr⟩ ⟨xc, xl, xp, xr⟩ (.slice na yn nc) xv = F at *
      refine wp_region_later (Keeps wr F) (by kernel_rfl) (by kernel_rfl) hkk (fun hne => ?_)
      repeat (go_big_quiet_step (exact hcall _))
      refine wpQuiet_nil ?_
      intro wL hL
      refine OnlyN.mk ?_
      rw [hR.out]
      exact ⟨_, _, _, _, _, _, _, _, _, _, _, _, rfl, hL.1, fun h => ⟨hk0, by simpa using h⟩, fun h => .inr (by simpa using h)⟩
    · have hk0' : ¬ (k : Int) > 0 := by omega
      have hkz : k = 0 := by omega
      replace hkz := hiddenI hkz
      have hkk : Keeps wr [] wr.drew := Keeps.drew ⟨Below.refl _ _, fun p hp => by cases hp⟩
      clear hsl hrs hnext x0 x1 x2 x3
      refine wp_region_later (Keeps wr []) (by kernel_rfl) (by kernel_rfl) hkk (fun hne => ?_)
      repeat (go_big_quiet_step (fail))
      refine wpQuiet_nil ?_
      intro wL hL
      refine OnlyN.mk ?_
      rw [hR.out]
      exact ⟨_, _, _, _, _, _, _, _, _, _, _, _, rfl, hL.1, fun h => (by cases h), fun _ => .inl hkz.out⟩
end Go.Proofs.Ytapdkdfgjjdbkaa
/-
  A HEAP AND A LIST IN ORDER, held against each other.
-/
namespace Go.Proofs.Ytapdkdfgjjdbkaa
open Go.ChangeShapes Go.WideShapes Go.ChangeAt Go.RowKit

/-- Items in memory of their own, as pairs. -/
theorem its_ds {w : World} {xs : List Value} {ys : List It} (h : ItsIn 3 w xs ys) : ∃ ds : List Pr, ds.map (·.1) = ys ∧ xs = encs ds ∧ ∀ p ∈ ds, w.ownsRow 0 3 1 p.2 p.1.l.length (ints p.1.l) := by
  induction h with
  | nil => exact ⟨[], rfl, rfl, fun _ h => by cases h⟩
  | @snoc xs ys y nv _ hn ih =>
    obtain ⟨ds, h1, h2, h3⟩ := ih
    refine ⟨ds ++ [(y, nv)], by simp [h1], by rw [encs_app, h2]; simp [encs, encP], fun p hp => ?_⟩
    rcases List.mem_append.1 hp with hp | hp
    · exact h3 p hp
    · obtain rfl := List.mem_singleton.1 hp
      exact hn
/-- Two lists in order that are the same but for their order. -/
theorem sorted_eq {xs ys : List It} (h : xs.Perm ys) (hx : xs.Pairwise le) (hy : ys.Pairwise le) : xs = ys :=
  h.eq_of_pairwise (fun _ _ _ _ h1 h2 => le_anti h1 h2) hx hy
theorem pairwise_of_rising {ys : List It} (h : Rising ys) : ys.Pairwise le := by
  rw [List.pairwise_iff_getElem]
  intro i j hi hj hij
  have h1 := h i j hij hj
  have e1 : ys.getD i It.none = ys[i] := by simp [List.getD, hi]
  have e2 : ys.getD j It.none = ys[j] := by simp [List.getD, hj]
  rw [e1, e2] at h1
  unfold le; omega
/-- One item more, in its place. -/
theorem ins_sorted {ds : List Pr} {y : It} {nv : Value} {k : Nat} (hs : (ds.map (·.1)).Pairwise le) (hp : Place y ds k) (h : k = 0 ∨ 0 ≤ icmp y (itF ds (k - 1))) : ((ds.take k ++ (y, nv) :: ds.drop k).map (·.1)).Pairwise le := by
  have hk := hp.le
  have hat : ∀ j (hj : j < ds.length), itF ds j = ds[j].1 := fun j hj => by simp [itF, List.getD, hj]
  rw [List.map_append, List.map_cons, List.map_take, List.map_drop]
  rw [List.pairwise_append, List.pairwise_cons]
  have hle : ∀ i j (hi : i < ds.length) (hj : j < ds.length), i ≤ j → le (itF ds i) (itF ds j) := fun i j hi hj hij => by
    by_cases e : i = j
    · subst e; exact le_refl _
    · have := (List.pairwise_iff_getElem.1 hs) i j (by simpa using hi) (by simpa using hj) (by omega)
      rw [hat i hi, hat j hj]
      simpa using this
  have hbef : ∀ a ∈ (ds.map (·.1)).take k, le a y := fun a ha => by
    obtain ⟨j, hj, rfl⟩ := List.mem_iff_getElem.1 ha
    have hj1 : j < k := by simp at hj; omega
    have hj2 : j < ds.length := by omega
    have e : ((ds.map (·.1)).take k)[j] = itF ds j := by rw [hat j hj2]; simp
    rw [e]
    rcases h with h0 | h0
    · omega
    · exact le_trans (hle j (k - 1) hj2 (by omega) (by omega)) (by unfold le; omega)
  have haft : ∀ a ∈ (ds.map (·.1)).drop k, le y a := fun a ha => by
    obtain ⟨j, hj, rfl⟩ := List.mem_iff_getElem.1 ha
    have hj2 : k + j < ds.length := by simp at hj; omega
    have e : ((ds.map (·.1)).drop k)[j] = itF ds (k + j) := by rw [hat _ hj2]; simp
    rw [e]
    exact le_of_lt (hp.behind _ (by omega) hj2)
  exact ⟨hs.sublist (List.take_sublist _ _), ⟨haft, hs.sublist (List.drop_sublist _ _)⟩, fun a ha b hb => by
    rcases List.mem_cons.1 hb with rfl | hb
    · exact hbef a ha
    · exact le_trans (hbef a ha) (haft b hb)⟩
theorem ins_perm {ds : List Pr} {p : Pr} {k : Nat} : ((ds.take k ++ p :: ds.drop k).map (·.1)).Perm (p.1 :: ds.map (·.1)) := by
  have h := (List.perm_middle (a := p) (l₁ := ds.take k) (l₂ := ds.drop k))
  rw [List.take_append_drop] at h
  exact h.map (·.1)
theorem SlP.save2 {w x : World} {b g g2 og cap : Nat} {ds : List Pr} (h : SlP w g2 og cap ds) (hS : Save2 b g w x) (hb : g2 ≠ b) (hg : g2 ≠ g) : SlP x g2 og cap ds := by
  have e := hS.block g2 h.lt hb hg
  refine ⟨h.room, by obtain ⟨cur, hc⟩ := h.blk; exact ⟨cur, e.trans hc⟩, fun j u hj => ?_⟩
  exact (World.cell?_of_block e).trans (h.cells j u hj)
/-- Rows of items, each in memory of its own. -/
def Rows1 (y : World) (es : List Pr) : Prop := ∀ p ∈ es, y.ownsRow 0 3 1 p.2 p.1.l.length (ints p.1.l) ∧ p.1.l.length ≤ 1000
theorem Rows1.below {y z : World} {es : List Pr} (h : Rows1 y es) (hB : Below y.heap.size y z) : Rows1 z es := fun p hp => ⟨owns_keep (h p hp).1 hB, (h p hp).2⟩
theorem Rows1.save2 {y z : World} {es : List Pr} {b g : Nat} {cb cg : Array Value} (h : Rows1 y es) (hS : Save2 b g y z) (hb : y.heap[b]? = some (.cells cb 47)) (hg : y.heap[g]? = some (.cells cg 24)) : Rows1 z es :=
  fun p hp => ⟨own_save2 (h p hp).1 hS (row_ne (h p hp).1 hb (by decide)) (row_ne (h p hp).1 hg (by decide)), (h p hp).2⟩
theorem Rows1.rowed {y : World} {es : List Pr} (h : Rows1 y es) : Rowed y es := fun p hp => sl_of_owns (h p hp).1
/-- A heap, and a list in order: the heap holds zs. -/
structure HR (B b g cap : Nat) (L : List Pr) (g2 og cap2 : Nat) (es : List Pr) (zs : List It) (w y : World) : Prop where
  heap : HeapL B y b g cap L
  up : Up (itF L) L.length
  hp : (L.map (·.1)).Perm zs
  ref : SlP y g2 og cap2 es
  sort : (es.map (·.1)).Pairwise le
  ne : g2 ≠ g
  rows : Rows1 y es
  len : ∀ z ∈ zs, z.l.length ≤ 1000
  below : Below w.heap.size w y
  base : w.heap.size ≤ B
theorem HR.lens {B b g cap : Nat} {L : List Pr} {g2 og cap2 : Nat} {es : List Pr} {zs : List It} {w y : World} (h : HR B b g cap L g2 og cap2 es zs w y) : ∀ p ∈ L, p.1.l.length ≤ 1000 :=
  fun _ hp => h.len _ (h.hp.mem_iff.1 (List.mem_map_of_mem hp))
theorem HR.count {B b g cap : Nat} {L : List Pr} {g2 og cap2 : Nat} {es : List Pr} {zs : List It} {w y : World} (h : HR B b g cap L g2 og cap2 es zs w y) : L.length = zs.length := by
  have := h.hp.length_eq; simpa using this
theorem HR.step {B b g cap : Nat} {L : List Pr} {g2 og cap2 : Nat} {es : List Pr} {zs : List It} {w y z : World} (h : HR B b g cap L g2 og cap2 es zs w y) (hB : Below y.heap.size y z) : HR B b g cap L g2 og cap2 es zs w z :=
  ⟨h.heap.step hB, h.up, h.hp, h.ref.below hB, h.sort, h.ne, h.rows.below hB, h.len, h.below.trans (hB.mono h.below.size), h.base⟩
theorem HR.neb {B b g cap : Nat} {L : List Pr} {g2 og cap2 : Nat} {es : List Pr} {zs : List It} {w y : World} (h : HR B b g cap L g2 og cap2 es zs w y) : g2 ≠ b := by
  obtain ⟨cur, hc⟩ := h.ref.blk
  exact ne_types hc h.heap.box (by decide)
/-- The heap turned, the list as it was. -/
theorem HR.turned {B b g cap : Nat} {L : List Pr} {g2 og cap2 : Nat} {es : List Pr} {zs : List It} {w y z : World} (h : HR B b g cap L g2 og cap2 es zs w y) {g' cap' : Nat} {L' : List Pr} {zs' : List It} (hH : HeapL B z b g' cap' L') (hu : Up (itF L') L'.length) (hp : (L'.map (·.1)).Perm zs') (hl : ∀ z ∈ zs', z.l.length ≤ 1000) (hg : g' = g ∨ y.heap.size ≤ g') (hB : Below B y z) (hS : Save2 b g y z) : HR B b g' cap' L' g2 og cap2 es zs' w z := by
  obtain ⟨cur, hc⟩ := h.heap.block
  exact ⟨hH, hu, hp, h.ref.save2 hS h.neb h.ne, h.sort, by have := h.ne; have := h.ref.lt; omega, h.rows.save2 hS h.heap.box hc, hl, h.below.trans (hB.mono h.base), h.base⟩
/-- heap.Push, of such. -/
theorem HR.pushing {B b g cap : Nat} {L : List Pr} {g2 og cap2 : Nat} {es : List Pr} {zs : List It} {w y : World} (h : HR B b g cap L g2 og cap2 es zs w y) (t : It) (nv : Value) (hv : Sl y nv (ints t.l)) (ht : t.l.length ≤ 1000) (hn : zs.length ≤ 1000) :
    Calls Try.prog 8 #[.pointer (some ⟨b, 0, none⟩), itV t nv] y fun e z => e = .returned (.tuple #[]) ∧ (∃ g' cap' L', HR B b g' cap' L' g2 og cap2 es (t :: zs) w z ∧ (g' = g ∨ y.heap.size ≤ g')) ∧ Save2 b g y z := by
  refine (push_c t nv y h.heap hv ht (by rw [h.count]; exact hn) h.lens h.up).mono ?_
  rintro e z ⟨rfl, g', cap', L', hH, hp, hu, hg, hB, hS⟩
  refine ⟨rfl, ⟨g', cap', L', h.turned hH hu (hp.trans (h.hp.cons t)) (fun z hz => ?_) hg hB hS, hg⟩, hS⟩
  rcases List.mem_cons.1 hz with rfl | hz
  · exact ht
  · exact h.len z hz
/-- The reference's Push, of such. -/
theorem HR.rpushing {B b g cap : Nat} {L : List Pr} {g2 og cap2 : Nat} {es : List Pr} {zs : List It} {w y : World} (h : HR B b g cap L g2 og cap2 es zs w y) (t : It) (nv : Value) (hv : y.ownsRow 0 3 1 nv t.l.length (ints t.l)) (ht : t.l.length ≤ 1000) (hn : es.length ≤ 1000) :
    Calls Try.prog 14 #[.slice (some ⟨g2, og, none⟩) es.length cap2, itV t nv] y fun e z => ∃ g3 cap3, e = .returned (.slice (some ⟨g3, 0, none⟩) (es.length + 1) cap3) ∧ (∃ es', es'.length = es.length + 1 ∧ (es'.map (·.1)).Perm (t :: es.map (·.1)) ∧ HR B b g cap L g3 0 cap3 es' zs w z) ∧ Below y.heap.size y z := by
  refine (rpush_c t nv y h.ref h.rows.rowed (sl_of_owns hv) ht hn (fun p hp => (h.rows p hp).2)).mono ?_
  rintro e z ⟨g3, cap3, rfl, hR⟩
  obtain ⟨k, hS, hpl, hk⟩ := hR.is
  have hz := h.step hR.below
  obtain ⟨cur, hc⟩ := h.heap.block
  refine ⟨g3, cap3, rfl, ⟨es.take k ++ (t, nv) :: es.drop k, by have := hpl.le; simp; omega, ins_perm, hz.heap, hz.up, hz.hp, hS, ins_sorted h.sort hpl hk, ?_, fun p hp => ?_, h.len, hz.below, h.base⟩, hR.below⟩
  · have h1 := (Array.getElem?_eq_some_iff.1 hc).1
    have h2 := hR.new
    omega
  · rcases List.mem_append.1 hp with hp | hp
    · exact hz.rows p (List.mem_of_mem_take hp)
    · rcases List.mem_cons.1 hp with rfl | hp
      · exact ⟨owns_keep hv hR.below, ht⟩
      · exact hz.rows p (List.mem_of_mem_drop hp)
/-- heap.Pop, of such: what is popped is the least. -/
theorem HR.popping {B b g cap : Nat} {L : List Pr} {g2 og cap2 : Nat} {es : List Pr} {t : It} {zs : List It} {w y : World} (h : HR B b g cap L g2 og cap2 es (t :: zs) w y) (hs : (t :: zs).Pairwise le) (hn : zs.length + 1 ≤ 1000) :
    Calls Try.prog 15 #[.pointer (some ⟨b, 0, none⟩)] y fun e z => (∃ nv, e = .returned (.tuple #[itV t nv, .bool true]) ∧ z.ownsRow 0 3 1 nv t.l.length (ints t.l)) ∧ (∃ L', HR B b g cap L' g2 og cap2 es zs w z) ∧ Save2 b g y z := by
  have hc := h.count
  simp only [List.length_cons] at hc
  have hu := h.up
  rw [hc] at hu
  refine (pop_c y h.heap hc hn h.lens hu).mono ?_
  rintro e z ⟨rfl, hown, L', hH, hp, hu', hB, hS⟩
  have h0 : (L.getD 0 pr0).1 = t := by
    have hm : (L.getD 0 pr0).1 ∈ t :: zs := h.hp.mem_iff.1 (List.mem_map_of_mem (getD_mem (by omega)))
    have h1 : le t (L.getD 0 pr0).1 := by
      rcases List.mem_cons.1 hm with e | hm
      · rw [e]; exact le_refl _
      · exact (List.pairwise_cons.1 hs).1 _ hm
    have ht : t ∈ L.map (·.1) := h.hp.mem_iff.2 List.mem_cons_self
    obtain ⟨p, hpL, rfl⟩ := List.mem_map.1 ht
    obtain ⟨j, hj, rfl⟩ := List.mem_iff_getElem.1 hpL
    have h2 := h.up.least j hj
    have e : itF L j = L[j].1 := by simp [itF, List.getD, hj]
    rw [e] at h2
    exact le_anti h2 h1
  generalize L.getD 0 pr0 = Y at *
  obtain ⟨Y1, nv⟩ := Y
  simp only at h0
  subst h0
  refine ⟨⟨nv, rfl, owns_base hown (Nat.zero_le _)⟩, ⟨L', h.turned hH hu' ?_ (fun z hz => h.len z (List.mem_cons_of_mem _ hz)) (.inl rfl) hB hS⟩, hS⟩
  exact (List.Perm.cons_inv (hp.trans h.hp))
end Go.Proofs.Ytapdkdfgjjdbkaa
/-
  AN EMPTY HEAP: Pop, Peek, by contract.
-/
namespace Go.Proofs.Ytapdkdfgjjdbkaa
open Go.ChangeShapes Go.WideShapes Go.ChangeAt Go.RowKit

theorem len0_c {b g cap : Nat} (w : World) (hc : w.cell? ⟨b, 0, none⟩ = some (.slice (some ⟨g, 0, none⟩) 0 cap)) :
    Calls Try.prog 17 #[.pointer (some ⟨b, 0, none⟩)] w fun e w' => e = .returned (.int .i64 0) ∧ w' = w := by
  go_enter Try.func17, Try.ntmps17
  go_wp2
  go_ret
  exact ⟨rfl, rfl⟩
set_option maxHeartbeats 1600000 in
set_option maxRecDepth 100000 in
theorem pop0_c {b g cap : Nat} (w : World) (hc : w.cell? ⟨b, 0, none⟩ = some (.slice (some ⟨g, 0, none⟩) 0 cap)) :
    Calls Try.prog 15 #[.pointer (some ⟨b, 0, none⟩)] w fun e w' => e = .returned (.tuple #[.agg #[.int .i64 0, .slice none 0 0, .int .i64 0, .int .i64 0], .bool false]) ∧ Below w.heap.size w w' := by
  obtain ⟨wA, hwA⟩ : ∃ wA, wA = w.alloc (.cells #[.int .i64 0, .slice none 0 0, .int .i64 0, .int .i64 0] 24) := ⟨_, rfl⟩
  have hBA : Below w.heap.size w wA := by rw [hwA]; exact (Below.refl _ _).alloc (Nat.le_refl _) _
  have hX : wA.heap[w.heap.size]? = some (.cells #[.int .i64 0, .slice none 0 0, .int .i64 0, .int .i64 0] 24) := by rw [hwA]; exact heap_alloc_new _ _
  have hlen := len0_c wA ((hBA.cell (p := ⟨b, 0, none⟩) (World.block_lt_of_cell? _ _ hc)).trans hc)
  obtain ⟨⟨x0, x1, x2, x3⟩, z0, z1, z2, z3⟩ := box4 hX
  have hfin := hiddenI (heap_set4 hX (.int .i64 0) (.slice none 0 0) (.int .i64 0) (.int .i64 0))
  have hBf := hiddenI ((((hBA.setCell (p := ⟨w.heap.size, 0, none⟩) (Nat.le_refl _) (.int .i64 0)).setCell (p := ⟨w.heap.size, 1, none⟩) (Nat.le_refl _) (.slice none 0 0)).setCell (p := ⟨w.heap.size, 2, none⟩) (Nat.le_refl _) (.int .i64 0)).setCell (p := ⟨w.heap.size, 3, none⟩) (Nat.le_refl _) (.int .i64 0))
  replace hwA := hiddenI hwA
  clear hBA hX hc
  go_enter Try.func15, Try.ntmps15
  go_wp2_with fail
  rw [← hwA.out]
  refine hlen.mono ?_
  rintro e w1 ⟨rfl, rfl⟩
  go_wp2
  replace hfin := hfin.out
  refine bodyPost_ret (v := .tuple #[.agg #[.int .i64 0, .slice none 0 0, .int .i64 0, .int .i64 0], .bool false]) ?_ rfl ⟨rfl, hBf.out⟩
  rw [results_cell_tmp rfl]
  have hv := run_loadVar_row _ _ _ 24 _ _ _ hfin Try.underlying24 rfl (by kernel_rfl)
  simp [asAddr, hv, Result.andThen]
set_option maxHeartbeats 1600000 in
set_option maxRecDepth 100000 in
theorem peek0_c {b g cap : Nat} (w : World) (hc : w.cell? ⟨b, 0, none⟩ = some (.slice (some ⟨g, 0, none⟩) 0 cap)) :
    Calls Try.prog 9 #[.pointer (some ⟨b, 0, none⟩)] w fun e w' => e = .returned (.tuple #[.agg #[.int .i64 0, .slice none 0 0, .int .i64 0, .int .i64 0], .bool false]) ∧ Below w.heap.size w w' := by
  obtain ⟨wA, hwA⟩ : ∃ wA, wA = w.alloc (.cells #[.int .i64 0, .slice none 0 0, .int .i64 0, .int .i64 0] 24) := ⟨_, rfl⟩
  have hBA : Below w.heap.size w wA := by rw [hwA]; exact (Below.refl _ _).alloc (Nat.le_refl _) _
  have hX : wA.heap[w.heap.size]? = some (.cells #[.int .i64 0, .slice none 0 0, .int .i64 0, .int .i64 0] 24) := by rw [hwA]; exact heap_alloc_new _ _
  have hlen := len0_c wA ((hBA.cell (p := ⟨b, 0, none⟩) (World.block_lt_of_cell? _ _ hc)).trans hc)
  obtain ⟨⟨x0, x1, x2, x3⟩, z0, z1, z2, z3⟩ := box4 hX
  have hfin := hiddenI (heap_set4 hX (.int .i64 0) (.slice none 0 0) (.int .i64 0) (.int .i64 0))
  have hBf := hiddenI ((((hBA.setCell (p := ⟨w.heap.size, 0, none⟩) (Nat.le_refl _) (.int .i64 0)).setCell (p := ⟨w.heap.size, 1, none⟩) (Nat.le_refl _) (.slice none 0 0)).setCell (p := ⟨w.heap.size, 2, none⟩) (Nat.le_refl _) (.int .i64 0)).setCell (p := ⟨w.heap.size, 3, none⟩) (Nat.le_refl _) (.int .i64 0))
  replace hwA := hiddenI hwA
  clear hBA hX hc
  go_enter Try.func9, Try.ntmps9
  go_wp2_with fail
  rw [← hwA.out]
  refine hlen.mono ?_
  rintro e w1 ⟨rfl, rfl⟩
  go_wp2
  replace hfin := hfin.out
  refine bodyPost_ret (v := .tuple #[.agg #[.int .i64 0, .slice none 0 0, .int .i64 0, .int .i64 0], .bool false]) ?_ rfl ⟨rfl, hBf.out⟩
  rw [results_cell_tmp rfl]
  have hv := run_loadVar_row _ _ _ 24 _ _ _ hfin Try.underlying24 rfl (by kernel_rfl)
  simp [asAddr, hv, Result.andThen]
end Go.Proofs.Ytapdkdfgjjdbkaa
