/-
  A QUERY COPIED, by contract.
-/
import Derived.Test.YtnmjhbnadfjapaaQNames
import Derived.Test.YtnmjhbnadfjapaaColNew
import Derived.Maps.AppendAt
namespace Go.Proofs.Ytnmjhbnadfjapaa
open Go.ChangeShapes Go.WideShapes Go.ChangeAt Go.RowKit

def OnlyN (R : Act → World → Prop) : Exit → Act → World → Prop
  | .normal, a, w => R a w
  | _, _, _ => False
theorem wp_only {P : Program} {C : Code} {Q : Exit → Act → World → Prop} {a : Act} {w : World} (R : Act → World → Prop) (h : C.wp P (OnlyN R) a w) (hq : ∀ a' w', R a' w' → Q .normal a' w') : C.wp P Q a w :=
  Code.wp_mono (fun e a w h => by cases e <;> first | exact hq _ _ h | exact h.elim) h
def OnlyE (id : Nat) (R : Act → World → Prop) : Exit → Act → World → Prop
  | .exit i, a, w => i = id ∧ R a w
  | _, _, _ => False
theorem wp_onlyE {P : Program} {C : Code} {Q : Exit → Act → World → Prop} {a : Act} {w : World} (id : Nat) (R : Act → World → Prop) (h : C.wp P (OnlyE id R) a w) (hq : ∀ a' w', R a' w' → Q (.exit id) a' w') : C.wp P Q a w :=
  Code.wp_mono (fun e a w h => match e, h with | .exit _, ⟨hi, h⟩ => hi ▸ hq a w h | .normal, h => h.elim | .goto _, h => h.elim | .ret, h => h.elim | .panic _, h => h.elim | .outgrown, h => h.elim) h
theorem three_o (w : World) (o1 o2 o3 : Obj) : (((w.alloc o1).alloc o2).alloc o3).heap[w.heap.size]? = some o1 ∧ (((w.alloc o1).alloc o2).alloc o3).heap[w.heap.size + 1]? = some o2 ∧ (((w.alloc o1).alloc o2).alloc o3).heap[w.heap.size + 2]? = some o3 ∧ Below w.heap.size w (((w.alloc o1).alloc o2).alloc o3) := by
  refine ⟨?_, ?_, ?_, (((Below.refl _ _).alloc (Nat.le_refl _) _).alloc (by show _ ≤ (w.heap.push _).size; simp) _).alloc (by show _ ≤ ((w.heap.push _).push _).size; simp; omega) _⟩
  · show (((w.heap.push _).push _).push _)[_]? = _
    rw [Array.getElem?_push, if_neg (by simp; omega), Array.getElem?_push, if_neg (by simp), Array.getElem?_push, if_pos rfl]
  · show (((w.heap.push _).push _).push _)[_]? = _
    rw [Array.getElem?_push, if_neg (by simp), Array.getElem?_push, if_pos (by simp)]
  · show (((w.heap.push _).push _).push _)[_]? = _
    rw [Array.getElem?_push, if_pos (by simp)]
theorem box7f {x : World} {b : Nat} {c0 c1 c2 c3 c4 c5 c6 : Value} {t : TypeId} (h : x.heap[b]? = some (.cells #[c0, c1, c2, c3, c4, c5, c6] t)) :
    (x.cell? ⟨b, 0, none⟩ = some c0 ∧ x.cell? ⟨b, 1, none⟩ = some c1 ∧ x.cell? ⟨b, 2, none⟩ = some c2 ∧ x.cell? ⟨b, 3, none⟩ = some c3 ∧ x.cell? ⟨b, 4, none⟩ = some c4 ∧ x.cell? ⟨b, 5, none⟩ = some c5 ∧ x.cell? ⟨b, 6, none⟩ = some c6) ∧ ∀ j, x.frozen? ⟨b, j, none⟩ = false := by
  simp [World.cell?, World.frozen?, h]
theorem box3fQ {x : World} {b : Nat} {c0 c1 c2 : Value} {t : TypeId} (h : x.heap[b]? = some (.cells #[c0, c1, c2] t)) :
    (x.cell? ⟨b, 0, none⟩ = some c0 ∧ x.cell? ⟨b, 1, none⟩ = some c1 ∧ x.cell? ⟨b, 2, none⟩ = some c2) ∧ ∀ j, x.frozen? ⟨b, j, none⟩ = false := by
  simp [World.cell?, World.frozen?, h]
theorem box5f {x : World} {b : Nat} {c0 c1 c2 c3 c4 : Value} {t : TypeId} (h : x.heap[b]? = some (.cells #[c0, c1, c2, c3, c4] t)) :
    (x.cell? ⟨b, 0, none⟩ = some c0 ∧ x.cell? ⟨b, 1, none⟩ = some c1 ∧ x.cell? ⟨b, 2, none⟩ = some c2 ∧ x.cell? ⟨b, 3, none⟩ = some c3 ∧ x.cell? ⟨b, 4, none⟩ = some c4) ∧ ∀ j, x.frozen? ⟨b, j, none⟩ = false := by
  simp [World.cell?, World.frozen?, h]
theorem box9f {x : World} {b : Nat} {c0 c1 c2 c3 c4 c5 c6 c7 c8 : Value} {t : TypeId} (h : x.heap[b]? = some (.cells #[c0, c1, c2, c3, c4, c5, c6, c7, c8] t)) :
    (x.cell? ⟨b, 0, none⟩ = some c0 ∧ x.cell? ⟨b, 1, none⟩ = some c1 ∧ x.cell? ⟨b, 2, none⟩ = some c2 ∧ x.cell? ⟨b, 3, none⟩ = some c3 ∧ x.cell? ⟨b, 4, none⟩ = some c4 ∧ x.cell? ⟨b, 5, none⟩ = some c5 ∧ x.cell? ⟨b, 6, none⟩ = some c6 ∧ x.cell? ⟨b, 7, none⟩ = some c7 ∧ x.cell? ⟨b, 8, none⟩ = some c8) ∧ ∀ j, x.frozen? ⟨b, j, none⟩ = false := by
  simp [World.cell?, World.frozen?, h]
theorem list_get {n : Nat} {l : List Value} (h : l.length = n) : l = (List.range n).map fun i => l.getD i undef := by
  refine List.ext_getElem (by simp [h]) fun i h1 h2 => ?_
  simp [List.getD, h1]
theorem list142 {l : List Value} (h : l.length = 142) : ∃ u : Nat → Value, l = [u 0, u 1, u 2, u 3, u 4, u 5, u 6, u 7, u 8, u 9, u 10, u 11, u 12, u 13, u 14, u 15, u 16, u 17, u 18, u 19, u 20, u 21, u 22, u 23, u 24, u 25, u 26, u 27, u 28, u 29, u 30, u 31, u 32, u 33, u 34, u 35, u 36, u 37, u 38, u 39, u 40, u 41, u 42, u 43, u 44, u 45, u 46, u 47, u 48, u 49, u 50, u 51, u 52, u 53, u 54, u 55, u 56, u 57, u 58, u 59, u 60, u 61, u 62, u 63, u 64, u 65, u 66, u 67, u 68, u 69, u 70, u 71, u 72, u 73, u 74, u 75, u 76, u 77, u 78, u 79, u 80, u 81, u 82, u 83, u 84, u 85, u 86, u 87, u 88, u 89, u 90, u 91, u 92, u 93, u 94, u 95, u 96, u 97, u 98, u 99, u 100, u 101, u 102, u 103, u 104, u 105, u 106, u 107, u 108, u 109, u 110, u 111, u 112, u 113, u 114, u 115, u 116, u 117, u 118, u 119, u 120, u 121, u 122, u 123, u 124, u 125, u 126, u 127, u 128, u 129, u 130, u 131, u 132, u 133, u 134, u 135, u 136, u 137, u 138, u 139, u 140, u 141] := ⟨fun i => l.getD i undef, list_get h⟩
theorem list131 {l : List Value} (h : l.length = 131) (hd : l.drop 70 = [undef, undef, undef, undef, undef, undef, undef, undef, undef, undef, undef, undef, undef, undef, undef, undef, undef, undef, undef, undef, undef, undef, undef, undef, undef, undef, undef, undef, undef, undef, undef, undef, undef, undef, undef, undef, undef, undef, undef, undef, undef, undef, undef, undef, undef, undef, undef, undef, undef, undef, undef, undef, undef, undef, undef, undef, undef, undef, undef, undef, undef]) : ∃ u : Nat → Value, l = [u 0, u 1, u 2, u 3, u 4, u 5, u 6, u 7, u 8, u 9, u 10, u 11, u 12, u 13, u 14, u 15, u 16, u 17, u 18, u 19, u 20, u 21, u 22, u 23, u 24, u 25, u 26, u 27, u 28, u 29, u 30, u 31, u 32, u 33, u 34, u 35, u 36, u 37, u 38, u 39, u 40, u 41, u 42, u 43, u 44, u 45, u 46, u 47, u 48, u 49, u 50, u 51, u 52, u 53, u 54, u 55, u 56, u 57, u 58, u 59, u 60, u 61, u 62, u 63, u 64, u 65, u 66, u 67, u 68, u 69, undef, undef, undef, undef, undef, undef, undef, undef, undef, undef, undef, undef, undef, undef, undef, undef, undef, undef, undef, undef, undef, undef, undef, undef, undef, undef, undef, undef, undef, undef, undef, undef, undef, undef, undef, undef, undef, undef, undef, undef, undef, undef, undef, undef, undef, undef, undef, undef, undef, undef, undef, undef, undef, undef, undef, undef, undef, undef, undef, undef, undef] := ⟨fun i => l.getD i undef, by
  have h1 : (l.take 70).length = 70 := by simp [h]
  have h2 := list_get h1
  have h3 : l = l.take 70 ++ l.drop 70 := (List.take_append_drop 70 l).symm
  rw [hd, h2] at h3
  have h4 : ∀ i, i < 70 → (l.take 70).getD i undef = l.getD i undef := fun i hi => by simp [List.getD, hi]
  rw [List.map_congr_left (g := fun i => l.getD i undef) (fun i hi => h4 i (List.mem_range.1 hi))] at h3
  exact h3⟩
theorem listCut {n : Nat} {l T : List Value} (h : n ≤ l.length) (hd : l.drop n = T) : l = (List.range n).map (fun i => l.getD i undef) ++ T := by
  have h1 : (l.take n).length = n := by simp; omega
  have h2 := list_get h1
  have h3 : l = l.take n ++ l.drop n := (List.take_append_drop n l).symm
  rw [hd, h2] at h3
  have h4 : ∀ i, i < n → (l.take n).getD i undef = l.getD i undef := fun i hi => by simp [List.getD, hi]
  rw [List.map_congr_left (g := fun i => l.getD i undef) (fun i hi => h4 i (List.mem_range.1 hi))] at h3
  exact h3
theorem list28 {l T : List Value} (h : 28 ≤ l.length) (hd : l.drop 28 = T) : ∃ u : Nat → Value, l = u 0 :: u 1 :: u 2 :: u 3 :: u 4 :: u 5 :: u 6 :: u 7 :: u 8 :: u 9 :: u 10 :: u 11 :: u 12 :: u 13 :: u 14 :: u 15 :: u 16 :: u 17 :: u 18 :: u 19 :: u 20 :: u 21 :: u 22 :: u 23 :: u 24 :: u 25 :: u 26 :: u 27 :: T := ⟨fun i => l.getD i undef, listCut h hd⟩
theorem list38 {l T : List Value} (h : 38 ≤ l.length) (hd : l.drop 38 = T) : ∃ u : Nat → Value, l = u 0 :: u 1 :: u 2 :: u 3 :: u 4 :: u 5 :: u 6 :: u 7 :: u 8 :: u 9 :: u 10 :: u 11 :: u 12 :: u 13 :: u 14 :: u 15 :: u 16 :: u 17 :: u 18 :: u 19 :: u 20 :: u 21 :: u 22 :: u 23 :: u 24 :: u 25 :: u 26 :: u 27 :: u 28 :: u 29 :: u 30 :: u 31 :: u 32 :: u 33 :: u 34 :: u 35 :: u 36 :: u 37 :: T := ⟨fun i => l.getD i undef, listCut h hd⟩
theorem list22 {l T : List Value} (h : 22 ≤ l.length) (hd : l.drop 22 = T) : ∃ u : Nat → Value, l = u 0 :: u 1 :: u 2 :: u 3 :: u 4 :: u 5 :: u 6 :: u 7 :: u 8 :: u 9 :: u 10 :: u 11 :: u 12 :: u 13 :: u 14 :: u 15 :: u 16 :: u 17 :: u 18 :: u 19 :: u 20 :: u 21 :: T := ⟨fun i => l.getD i undef, listCut h hd⟩
/-- What is left of it all. -/
structure Done (w x : World) (cs : Array Value) (pu : Value) (vs : List PlV) (ps : List Pl) (eu : Value) (us : List PthV) (es : List Pth) (ru : Value) (rs : List ByteArray) : Prop where
  below : Below w.heap.size w x
  box : x.heap[w.heap.size + 1]? = some (.cells cs 74)
  places : PlacesAt (w.heap.size + 3) pu vs ps x
  paths : PathsAt (w.heap.size + 3) eu ru us es x
  rets : x.ownsRow (w.heap.size + 3) 9 1 ru rs.length (tx rs)
theorem Done.set {w x : World} {cs : Array Value} {pu : Value} {vs : List PlV} {ps : List Pl} {eu : Value} {us : List PthV} {es : List Pth} {ru : Value} {rs : List ByteArray} (h : Done w x cs pu vs ps eu us es ru rs) (j : Nat) (v : Value) : Done w (x.setCell ⟨w.heap.size + 1, j, none⟩ v) (cs.setIfInBounds j v) pu vs ps eu us es ru rs :=
  ⟨h.below.setCell (by simp) _, set_heap h.box _ _, h.places.set h.box _ _, h.paths.set h.box (by omega) _ _, own_set h.rets h.box (by decide) _ _⟩
set_option maxHeartbeats 6400000 in
set_option maxRecDepth 100000 in
theorem qfew_c (ps : List Pl) (es : List Pth) (rs : List ByteArray) (qc : Bool) (sk li : Int) (ct : Bool) (na : Option Addr) (N0 nc : Nat) (ea : Option Addr) (M0 ec : Nat) (ra : Option Addr) (R0 rc : Nat) (w : World) (hP : HoldsP w (.slice na N0 nc) ps) (hE : HoldsE w (.slice ea M0 ec) es) (hR : Holds w (.slice ra R0 rc) (tx rs)) (hN : ps.length ≤ 9223372036854775807) (hM : es.length ≤ 9223372036854775807) (hRl : rs.length ≤ 9223372036854775807) (hT : ∀ x ∈ ps, x.ts.length ≤ 9223372036854775807) :
    Calls Try.prog 33 #[.agg #[.slice na N0 nc, .slice ea M0 ec, .slice ra R0 rc, .bool qc, .int .i64 sk, .int .i64 li, .bool ct]] w fun e w' => ∃ (vs : List PlV) (pa : Option Addr) (pn pc : Nat) (us : List PthV) (fa : Option Addr) (fn fc : Nat) (ua : Option Addr) (un uc : Nat),
      e = .returned (.agg #[.slice pa pn pc, .slice fa fn fc, .slice ua un uc, .bool qc, .int .i64 sk, .int .i64 li, .bool ct]) ∧ PlacesAt (w.heap.size + 3) (.slice pa pn pc) vs ((ps.take 17).map Pl.few) w' ∧ PathsAt (w.heap.size + 3) (.slice fa fn fc) (.slice ua un uc) us ((es.take 17).map Pth.few) w' ∧
        w'.ownsRow (w.heap.size + 3) 9 1 (.slice ua un uc) ((rs.take 33).map fun s => cutB s 32).length (tx ((rs.take 33).map fun s => cutB s 32)) ∧ Below w.heap.size w w' := by
  obtain ⟨na', nc', hPe⟩ := hP.slice
  obtain ⟨ea', ec', hEe⟩ := hE.slice
  obtain ⟨ra', rc', hRe, hRr⟩ := hR
  rw [tx_len] at hRe
  simp only [Value.slice.injEq] at hPe hEe hRe
  obtain ⟨-, hN0, -⟩ := hPe
  obtain ⟨-, hM0, -⟩ := hEe
  obtain ⟨rfl, hR0, rfl⟩ := hRe
  replace hN0 := hidden hN0
  replace hM0 := hidden hM0
  replace hR0 := hidden hR0
  replace hP := hidden hP
  replace hE := hidden hE
  replace hRr := hidden hRr
  replace hT := hidden hT
  have hNb : N0 ≤ 9223372036854775807 := by rw [hN0.out]; exact hN
  have hMb : M0 ≤ 9223372036854775807 := by rw [hM0.out]; exact hM
  have hRb : R0 ≤ 9223372036854775807 := by rw [hR0.out]; exact hRl
  clear hN hM hRl
  obtain ⟨it, hit, ht0, ht1, ht2⟩ := info_parts infoTs
  obtain ⟨ip, hip, hp0, hp1, hp2⟩ := info_parts infoPl
  obtain ⟨ie, hie, he0, he1, he2⟩ := info_parts infoPt
  obtain ⟨ix, hix, hx0, hx1, hx2⟩ := info_parts infoTxt
  obtain ⟨t1, t2, t3, t4⟩ := three_o w (.cells #[.slice na N0 nc, .slice ea M0 ec, .slice ra R0 rc, .bool qc, .int .i64 sk, .int .i64 li, .bool ct] 74) (.cells #[.slice none 0 0, .slice none 0 0, .slice none 0 0, .bool false, .int .i64 0, .int .i64 0, .bool false] 74) (.cells #[.slice none 0 0, .slice none 0 0, .slice none 0 0, .bool qc, .int .i64 sk, .int .i64 li, .bool ct] 74)
  have hF0 : Hid (FQ w (((w.alloc (.cells #[.slice na N0 nc, .slice ea M0 ec, .slice ra R0 rc, .bool qc, .int .i64 sk, .int .i64 li, .bool ct] 74)).alloc (.cells #[.slice none 0 0, .slice none 0 0, .slice none 0 0, .bool false, .int .i64 0, .int .i64 0, .bool false] 74)).alloc (.cells #[.slice none 0 0, .slice none 0 0, .slice none 0 0, .bool qc, .int .i64 sk, .int .i64 li, .bool ct] 74)) #[.slice na N0 nc, .slice ea M0 ec, .slice ra R0 rc, .bool qc, .int .i64 sk, .int .i64 li, .bool ct] [.bool qc, .int .i64 sk, .int .i64 li, .bool ct] (.slice none 0 0) [] [] (.slice none 0 0) [] [] (.slice none 0 0) []) :=
    ⟨t4, t1, t2, t3, ⟨World.ownsRow_nil .., rfl, fun i hi => by simp at hi⟩, ⟨World.ownsRow_nil .., rfl, fun i hi => by simp at hi⟩, World.ownsRow_nil ..⟩
  obtain ⟨⟨g0, g1, g2, g3, g4, g5, g6⟩, -⟩ := box7f t1
  clear t1 t2 t3 t4
  obtain ⟨Rp, hRp⟩ : ∃ R : Act → World → Prop, Hid (∀ a' x, R a' x ↔ (∃ l, a' = ({ tmps := List.toArray ((.agg #[.slice na N0 nc, .slice ea M0 ec, .slice ra R0 rc, .bool qc, .int .i64 sk, .int .i64 li, .bool ct]) :: (.pointer (some ⟨w.heap.size, 0, none⟩)) :: (.pointer (some ⟨w.heap.size + 1, 0, none⟩)) :: (.pointer (some ⟨w.heap.size + 1 + 1, 0, none⟩)) :: l), defers := [] } : Act) ∧ l.length = 142 ∧ ∃ pu vs, FQ w x #[.slice na N0 nc, .slice ea M0 ec, .slice ra R0 rc, .bool qc, .int .i64 sk, .int .i64 li, .bool ct] [.bool qc, .int .i64 sk, .int .i64 li, .bool ct] pu vs ((ps.take 17).map Pl.few) (.slice none 0 0) [] [] (.slice none 0 0) [])) := ⟨_, hidden fun _ _ => Iff.rfl⟩
  obtain ⟨Re, hRe⟩ : ∃ R : Act → World → Prop, Hid (∀ a' x, R a' x ↔ (∃ l, a' = ({ tmps := List.toArray ((.agg #[.slice na N0 nc, .slice ea M0 ec, .slice ra R0 rc, .bool qc, .int .i64 sk, .int .i64 li, .bool ct]) :: (.pointer (some ⟨w.heap.size, 0, none⟩)) :: (.pointer (some ⟨w.heap.size + 1, 0, none⟩)) :: (.pointer (some ⟨w.heap.size + 1 + 1, 0, none⟩)) :: l), defers := [] } : Act) ∧ l.length = 142 ∧ ∃ pu vs eu us, FQ w x #[.slice na N0 nc, .slice ea M0 ec, .slice ra R0 rc, .bool qc, .int .i64 sk, .int .i64 li, .bool ct] [.bool qc, .int .i64 sk, .int .i64 li, .bool ct] pu vs ((ps.take 17).map Pl.few) eu us ((es.take 17).map Pth.few) (.slice none 0 0) [])) := ⟨_, hidden fun _ _ => Iff.rfl⟩
  go_enter Try.func33, Try.ntmps33
  go_wp2
  refine wp_onlyE 0 Rp ?h ?hq
  case h =>
    go_loopw [4] (fun i x => ∃ (k : Nat) (vs : List PlV) (u : Value), k ≤ N0 ∧ k ≤ 17 ∧ i = .int .i64 k ∧ Hid (FQ w x #[.slice na N0 nc, .slice ea M0 ec, .slice ra R0 rc, .bool qc, .int .i64 sk, .int .i64 li, .bool ct] [.bool qc, .int .i64 sk, .int .i64 li, .bool ct] u vs ((ps.take k).map Pl.few) (.slice none 0 0) [] [] (.slice none 0 0) [])) (fun i _ => N0 - (intOf i).toNat)
    case atStart => exact ⟨0, [], _, Nat.zero_le _, Nat.zero_le _, rfl, hF0⟩
    case round =>
      clear hF0 g0 g1 g2 g3 g4 g5 g6
      obtain ⟨k, vs, u, hk, hk17, rfl, hF⟩ := hrel
      obtain ⟨⟨g0, g1, g2, g3, g4, g5, g6⟩, -⟩ := box7f hF.out.b1
      by_cases hlt : k < N0 ∧ k < 17
      · obtain ⟨hlt1, hlt2⟩ := hlt
        have hkp : k < ps.length := by rw [← hN0.out]; exact hlt1
        obtain ⟨b, off, pta, ptc, rfl, hb, c0, c1, c2, htr⟩ := placeQ_at hP.out hkp
        have htl : (ps.getD k Pl.none).ts.length ≤ 9223372036854775807 := hT.out _ (by
          rw [show ps.getD k Pl.none = ps[k] by simp [List.getD, hkp]]
          exact List.getElem_mem _)
        have htk := hidden (take_snocR ps Pl.none k hkp)
        generalize ps.getD k Pl.none = pd at *
        obtain ⟨pv, pl, pts⟩ := pd
        simp only at c0 c1 c2 htr htl
        have hx0' := (hF.out.below.cell (p := ⟨b, off + k * 3, none⟩) hb).trans c0
        have hx1' := (hF.out.below.cell (p := ⟨b, off + k * 3 + 1, none⟩) hb).trans c1
        have hj1 : (k : Int) < (N0 : Int) := by omega
        have hj2 : (k : Int) < 17 := by omega
        have hcv := fun z => cut_c pv 32 z (by decide)
        have hcl := fun z => cut_c pl 32 z (by decide)
        generalize hev : cutB pv 32 = cv at *
        generalize hel : cutB pl 32 = cl at *
        replace hev := hidden hev
        replace hel := hidden hel
        replace htr := hidden htr
        have hne1 := World.new_ne _ _ hx0'
        have hne2 := World.new_ne _ _ g0
        have hne3 : ¬ b = wr.heap.size := fun e => hne1 e.symm
        have hne4 : ¬ w.heap.size = wr.heap.size := fun e => hne2 e.symm
        go_wp2_with fail
        rename World => y0
        obtain ⟨R6, hR6⟩ : ∃ R : Act → World → Prop, Hid (∀ a' x, R a' x ↔ (∃ u6 u7 l, a' = ({ tmps := List.toArray ((.agg #[.slice (some ⟨b, off, none⟩) N0 nc, .slice ea M0 ec, .slice ra R0 rc, .bool qc, .int .i64 sk, .int .i64 li, .bool ct]) :: (.pointer (some ⟨w.heap.size, 0, none⟩)) :: (.pointer (some ⟨w.heap.size + 1, 0, none⟩)) :: (.pointer (some ⟨w.heap.size + 1 + 1, 0, none⟩)) :: (.int .i64 k) :: (.pointer (some ⟨y0.heap.size, 0, none⟩)) :: u6 :: u7 :: undef :: undef :: undef :: (.agg #[.slice (some ⟨b, off, none⟩) N0 nc, .slice ea M0 ec, .slice ra R0 rc, .bool qc, .int .i64 sk, .int .i64 li, .bool ct]) :: (.pointer (some ⟨w.heap.size + 1 + 1, 0, none⟩)) :: (.pointer (some ⟨w.heap.size + 1 + 1, 1, none⟩)) :: (.pointer (some ⟨w.heap.size + 1 + 1, 2, none⟩)) :: l), defers := [] } : Act) ∧ (l.length = 131 ∧ l.drop 70 = [undef, undef, undef, undef, undef, undef, undef, undef, undef, undef, undef, undef, undef, undef, undef, undef, undef, undef, undef, undef, undef, undef, undef, undef, undef, undef, undef, undef, undef, undef, undef, undef, undef, undef, undef, undef, undef, undef, undef, undef, undef, undef, undef, undef, undef, undef, undef, undef, undef, undef, undef, undef, undef, undef, undef, undef, undef, undef, undef, undef, undef]) ∧ x = (y0.alloc (.cells #[.string cv, .string cl, .slice none 0 0] 105)).drew)) := ⟨_, hidden fun _ _ => Iff.rfl⟩
        obtain ⟨Rt, hRt⟩ : ∃ R : Act → World → Prop, Hid (∀ a' x, R a' x ↔ (∃ u6 u7 l, a' = ({ tmps := List.toArray ((.agg #[.slice (some ⟨b, off, none⟩) N0 nc, .slice ea M0 ec, .slice ra R0 rc, .bool qc, .int .i64 sk, .int .i64 li, .bool ct]) :: (.pointer (some ⟨w.heap.size, 0, none⟩)) :: (.pointer (some ⟨w.heap.size + 1, 0, none⟩)) :: (.pointer (some ⟨w.heap.size + 1 + 1, 0, none⟩)) :: (.int .i64 k) :: (.pointer (some ⟨y0.heap.size, 0, none⟩)) :: u6 :: u7 :: undef :: undef :: undef :: (.agg #[.slice (some ⟨b, off, none⟩) N0 nc, .slice ea M0 ec, .slice ra R0 rc, .bool qc, .int .i64 sk, .int .i64 li, .bool ct]) :: (.pointer (some ⟨w.heap.size + 1 + 1, 0, none⟩)) :: (.pointer (some ⟨w.heap.size + 1 + 1, 1, none⟩)) :: (.pointer (some ⟨w.heap.size + 1 + 1, 2, none⟩)) :: l), defers := [] } : Act) ∧ (l.length = 131 ∧ l.drop 70 = [undef, undef, undef, undef, undef, undef, undef, undef, undef, undef, undef, undef, undef, undef, undef, undef, undef, undef, undef, undef, undef, undef, undef, undef, undef, undef, undef, undef, undef, undef, undef, undef, undef, undef, undef, undef, undef, undef, undef, undef, undef, undef, undef, undef, undef, undef, undef, undef, undef, undef, undef, undef, undef, undef, undef, undef, undef, undef, undef, undef, undef]) ∧ ∃ tu, InP cv cl ((pts.take 9).map Tst.few) tu y0 x)) := ⟨_, hidden fun _ _ => Iff.rfl⟩
        refine wp_only R6 ?h6 ?q6
        case h6 =>
          go_region_held3 (fun z => z.cell? ⟨w.heap.size, 0, none⟩ = some (.slice (some ⟨b, off, none⟩) N0 nc) ∧ z.cell? ⟨b, off + k * 3, none⟩ = some (.string pv) ∧ z.cell? ⟨b, off + k * 3 + 1, none⟩ = some (.string pl)) (go_keep) (first
            | (go_at_call_of 8 (Value.string pv); refine (hcv _).mono ?_; rintro e y1 ⟨rfl, rfl⟩)
            | (go_at_call_of 8 (Value.string pl); refine (hcl _).mono ?_; rintro e y2 ⟨rfl, rfl⟩)
            | fail)
          all_goals
            refine (hR6.out _ _).2 ⟨_, _, _, rfl, ?_, rfl⟩
            exact ⟨rfl, rfl⟩
        case q6 =>
          intro a' x hx
          obtain ⟨u6, u7, l, rfl, hl, hxe⟩ := (hR6.out _ _).1 hx
          obtain ⟨u9, rfl⟩ := list131 hl.1 hl.2
          have hI0 : Hid (InP cv cl [] (.slice none 0 0) y0 x) := by
            rw [hxe]
            exact ⟨((Below.refl _ _).alloc (Nat.le_refl _) _).drew, heap_alloc_new _ _, World.ownsRow_nil ..⟩
          clear hx hxe hl hR6 hcv hcl hne1 hne2 hne3 hne4 hx0' hx1' g0 g1 g2 g3 g4 g5 g6
          have hx2' : Hid (∀ z, Below w.heap.size w z → z.cell? ⟨b, off + k * 3 + 2, none⟩ = some (.slice pta pts.length ptc)) := fun z hz => (hz.cell (p := ⟨b, off + k * 3 + 2, none⟩) hb).trans c2
          clear c0 c1 c2
          obtain ⟨T0, hT0⟩ : ∃ T0, Hid (T0 = pts.length) := ⟨_, hidden rfl⟩
          rw [← hT0.out] at htl hx2'
          go_wp2_with fail
          refine wp_onlyE 2 Rt ?ht ?qt
          case ht =>
            go_loopw [6] (fun i x => ∃ (j : Nat) (tu : Value), j ≤ T0 ∧ j ≤ 9 ∧ i = .int .i64 j ∧ Hid (InP cv cl ((pts.take j).map Tst.few) tu y0 x)) (fun i _ => T0 - (intOf i).toNat)
            case atStart => exact ⟨0, _, Nat.zero_le _, Nat.zero_le _, rfl, hI0⟩
            case round =>
              clear hI0
              obtain ⟨j, tu, hj, hj9, rfl, hin2⟩ := hrel
              have hG2 := hidden (hF.out.step hin2.out.below)
              obtain ⟨⟨g0, g1, g2, g3, g4, g5, g6⟩, -⟩ := box7f hG2.out.b1
              have hx2 := hx2'.out _ hG2.out.below
              by_cases hlt : j < T0 ∧ j < 9
              · obtain ⟨hlt3, hlt4⟩ := hlt
                have hi1 : (j : Int) < (T0 : Int) := by omega
                have hi2 : (j : Int) < 9 := by omega
                have hjp : j < pts.length := by rw [← hT0.out]; exact hlt3
                obtain ⟨b5, o5, rfl, hb5, e0, e1, e2, e3, e4⟩ := testQ_at htr.out hjp
                have htj := hidden (take_snocR pts Tst.none j hjp)
                generalize pts.getD j Tst.none = q at *
                obtain ⟨qs, qo, qk, qn, qt⟩ := q
                simp only at e0 e1 e2 e3 e4
                have f0 := (hG2.out.below.cell (p := ⟨b5, o5 + j * 5, none⟩) hb5).trans e0
                have f1 := (hG2.out.below.cell (p := ⟨b5, o5 + j * 5 + 1, none⟩) hb5).trans e1
                have f2 := (hG2.out.below.cell (p := ⟨b5, o5 + j * 5 + 2, none⟩) hb5).trans e2
                have f3 := (hG2.out.below.cell (p := ⟨b5, o5 + j * 5 + 3, none⟩) hb5).trans e3
                have f4 := (hG2.out.below.cell (p := ⟨b5, o5 + j * 5 + 4, none⟩) hb5).trans e4
                have hIA := hidden (hin2.out.step ((Below.refl _ _).alloc (Nat.le_refl _) (.cells #[.string qs, .int .i64 qo, .int .i64 qk, .int .i64 qn, .string qt] 62)))
                have hPB := hidden (heap_alloc_new wr (.cells #[.string qs, .int .i64 qo, .int .i64 qk, .int .i64 qn, .string qt] 62))
                generalize hxa : wr.alloc (.cells #[.string qs, .int .i64 qo, .int .i64 qk, .int .i64 qn, .string qt] 62) = xa at *
                replace hxa := hidden hxa
                have hcutp := fun z => cut_c qs 32 z (by decide)
                have hvf := vfew_c qk qn qt xa.drew
                have hfe : Hid (Tst.few ⟨qs, qo, qk, qn, qt⟩ = ⟨cutB qs 32, qo, qk, qn, cutB qt 120⟩) := hidden rfl
                have hcnt : Hid (((pts.take j).map Tst.few).length = j) := by show _ = _; rw [List.length_map, List.length_take]; omega
                have htj2 : Hid ((pts.take (j + 1)).map Tst.few = (pts.take j).map Tst.few ++ [⟨cutB qs 32, qo, qk, qn, cutB qt 120⟩]) := by
                  show _ = _
                  rw [htj.out, List.map_append, ← hfe.out]; rfl
                generalize cutB qs 32 = cs at *
                generalize cutB qt 120 = ctx at *
                generalize (pts.take j).map Tst.few = TL at *
                clear e0 e1 e2 e3 e4
                obtain ⟨⟨p0, p1, p2, p3, p4⟩, -⟩ := box5f hPB.out
                obtain ⟨⟨n0, n1, n2⟩, hfz⟩ := box3fQ hIA.out.box
                have m2 := hfz 2
                clear hfz
                go_wp2_with fail
                rw [hxa.out]
                obtain ⟨R11, hR11⟩ : ∃ R : Act → World → Prop, Hid (∀ a' x, R a' x ↔ (∃ l, a' = ({ tmps := List.toArray ((.agg #[.slice (some ⟨b, off, none⟩) N0 nc, .slice ea M0 ec, .slice ra R0 rc, .bool qc, .int .i64 sk, .int .i64 li, .bool ct]) :: (.pointer (some ⟨w.heap.size, 0, none⟩)) :: (.pointer (some ⟨w.heap.size + 1, 0, none⟩)) :: (.pointer (some ⟨w.heap.size + 1 + 1, 0, none⟩)) :: (.int .i64 k) :: (.pointer (some ⟨y0.heap.size, 0, none⟩)) :: (.int .i64 j) :: (.pointer (some ⟨wr.heap.size, 0, none⟩)) :: undef :: undef :: undef :: (.agg #[.slice (some ⟨b, off, none⟩) N0 nc, .slice ea M0 ec, .slice ra R0 rc, .bool qc, .int .i64 sk, .int .i64 li, .bool ct]) :: (.pointer (some ⟨w.heap.size + 1 + 1, 0, none⟩)) :: (.pointer (some ⟨w.heap.size + 1 + 1, 1, none⟩)) :: (.pointer (some ⟨w.heap.size + 1 + 1, 2, none⟩)) :: (u9 0) :: (u9 1) :: (u9 2) :: (u9 3) :: (u9 4) :: (u9 5) :: (u9 6) :: (u9 7) :: (u9 8) :: (u9 9) :: (u9 10) :: (u9 11) :: (u9 12) :: (u9 13) :: (u9 14) :: (u9 15) :: (u9 16) :: (u9 17) :: (u9 18) :: (u9 19) :: (u9 20) :: (u9 21) :: (u9 22) :: (u9 23) :: (u9 24) :: (u9 25) :: l), defers := [] } : Act) ∧ (l.length = 105 ∧ l.drop 38 = [u9 64, u9 65, u9 66, u9 67, u9 68, u9 69, undef, undef, undef, undef, undef, undef, undef, undef, undef, undef, undef, undef, undef, undef, undef, undef, undef, undef, undef, undef, undef, undef, undef, undef, undef, undef, undef, undef, undef, undef, undef, undef, undef, undef, undef, undef, undef, undef, undef, undef, undef, undef, undef, undef, undef, undef, undef, undef, undef, undef, undef, undef, undef, undef, undef, undef, undef, undef, undef, undef, undef]) ∧ ∃ tu', InP cv cl ((pts.take (j + 1)).map Tst.few) tu' y0 x)) := ⟨_, hidden fun _ _ => Iff.rfl⟩
                refine wp_only R11 ?h11 ?q11
                case h11 =>
                  refine wp_region_parts (S := (fun z => z.cell? ⟨wr.heap.size, 0, none⟩ = some (.string qs) ∧ z.cell? ⟨wr.heap.size, 1, none⟩ = some (.int .i64 qo) ∧ z.cell? ⟨wr.heap.size, 2, none⟩ = some (.int .i64 qk) ∧ z.cell? ⟨wr.heap.size, 3, none⟩ = some (.int .i64 qn) ∧ z.cell? ⟨wr.heap.size, 4, none⟩ = some (.string qt) ∧ z.cell? ⟨y0.heap.size, 2, none⟩ = some tu)) #[false, false, false, false, false, false, false, false, false, false, false, false, true, true, true] #[true, true, true, true, true, true, true, true, true, true, true, true, false, false, false] [12, 13, 14] 40 12 (by kernel_rfl) (by kernel_rfl) (by kernel_rfl) (by rfl) ?_ (fun hHeld => ?_)
                  · go_keep
                  first
                    | (refine wpAnyH_take (i := 0) (v := ?_) at0 (by kernel_rfl) (by kernel_rfl) (by kernel_rfl) (fun _ _ _ h => h) (Or.inl ⟨by rfl, ?_⟩) (by assumption) ?_
                       rotate_left
                       · intro w hSw; (try dsimp only at hSw); go_simp; try with_reducible rfl)
                    | fail "take 0"
                  try simp only [Act.put, List.setIfInBounds_toArray, List.set_cons_zero, List.set_cons_succ]
                  first
                    | (refine wpAnyH_take (i := 1) (v := ?_) at1 (by kernel_rfl) (by kernel_rfl) (by kernel_rfl) (fun _ _ _ h => h) (Or.inl ⟨by rfl, ?_⟩) (by assumption) ?_
                       rotate_left
                       · intro w hSw; (try dsimp only at hSw); go_simp; try with_reducible rfl)
                    | fail "take 1"
                  try simp only [Act.put, List.setIfInBounds_toArray, List.set_cons_zero, List.set_cons_succ]
                  first
                    | (refine wpAnyH_take (i := 2) (v := ?_) at2 (by kernel_rfl) (by kernel_rfl) (by kernel_rfl) (fun _ _ _ h => h) (Or.inl ⟨by rfl, ?_⟩) (by assumption) ?_
                       rotate_left
                       · intro w hSw; (try dsimp only at hSw); go_simp; try with_reducible rfl)
                    | fail "take 2"
                  try simp only [Act.put, List.setIfInBounds_toArray, List.set_cons_zero, List.set_cons_succ]
                  first
                    | (refine wpAnyH_take (i := 3) (v := ?_) at3 (by kernel_rfl) (by kernel_rfl) (by kernel_rfl) (fun _ _ _ h => h) (Or.inl ⟨by rfl, ?_⟩) (by assumption) ?_
                       rotate_left
                       · intro w hSw; (try dsimp only at hSw); go_simp; try with_reducible rfl)
                    | fail "take 3"
                  try simp only [Act.put, List.setIfInBounds_toArray, List.set_cons_zero, List.set_cons_succ]
                  first
                    | (refine wpAnyH_take (i := 5) (v := ?_) at5 (by kernel_rfl) (by kernel_rfl) (by kernel_rfl) (fun _ _ _ h => h) (Or.inl ⟨by rfl, ?_⟩) (by assumption) ?_
                       rotate_left
                       · intro w hSw; (try dsimp only at hSw); go_simp; try with_reducible rfl)
                    | fail "take 5"
                  try simp only [Act.put, List.setIfInBounds_toArray, List.set_cons_zero, List.set_cons_succ]
                  first
                    | (refine wpAnyH_take (i := 6) (v := ?_) at6 (by kernel_rfl) (by kernel_rfl) (by kernel_rfl) (fun _ _ _ h => h) (Or.inl ⟨by rfl, ?_⟩) (by assumption) ?_
                       rotate_left
                       · intro w hSw; (try dsimp only at hSw); go_simp; try with_reducible rfl)
                    | fail "take 6"
                  try simp only [Act.put, List.setIfInBounds_toArray, List.set_cons_zero, List.set_cons_succ]
                  first
                    | (refine wpAnyH_take (i := 7) (v := ?_) at7 (by kernel_rfl) (by kernel_rfl) (by kernel_rfl) (fun _ _ _ h => h) (Or.inl ⟨by rfl, ?_⟩) (by assumption) ?_
                       rotate_left
                       · intro w hSw; (try dsimp only at hSw); go_simp; try with_reducible rfl)
                    | fail "take 7"
                  try simp only [Act.put, List.setIfInBounds_toArray, List.set_cons_zero, List.set_cons_succ]
                  first
                    | (refine wpAnyH_take (i := 8) (v := ?_) at8 (by kernel_rfl) (by kernel_rfl) (by kernel_rfl) (fun _ _ _ h => h) (Or.inl ⟨by rfl, ?_⟩) (by assumption) ?_
                       rotate_left
                       · intro w hSw; (try dsimp only at hSw); go_simp; try with_reducible rfl)
                    | fail "take 8"
                  try simp only [Act.put, List.setIfInBounds_toArray, List.set_cons_zero, List.set_cons_succ]
                  refine wpAnyH_ready (rs := [4]) (by kernel_rfl) (by simp) ?_
                  refine AllReadyH.cons (i := 4) at4 (fun K hK => ?_) AllReadyH.nil
                  go_simp
                  refine (hcutp _).mono ?_
                  rintro e z ⟨rfl, rfl⟩
                  go_wp2_with fail
                  refine hK.out _ _ ?_ (fun hNew => ?_)
                  · first | exact hHeld | exact ⟨s0, s1, s2, s3, s4, d1⟩ | go_keep
                  clear hK K hHeld
                  have hHeld := hNew
                  clear hNew
                  try simp only [List.setIfInBounds_toArray, List.set_cons_zero, List.set_cons_succ]
                  refine wpAnyH_ready (rs := [9]) (by kernel_rfl) (by simp) ?_
                  refine AllReadyH.cons (i := 9) at9 (fun K hK => ?_) AllReadyH.nil
                  go_simp
                  refine hvf.mono ?_
                  rintro e w5 ⟨rfl, hB5⟩
                  have hB6 : Below xa.heap.size xa w5 := (Below.refl _ _).drew.trans hB5
                  have hI5 := hidden (hIA.out.step hB6)
                  obtain ⟨⟨s0, s1, s2, s3, s4⟩, -⟩ := box5f (box_below hPB.out hB6)
                  have d1 := (box3fQ hI5.out.box).1.2.2
                  have z1 := World.new_ne _ _ d1
                  go_wp2_with fail
                  refine hK.out _ _ ?_ (fun hNew => ?_)
                  · first | exact hHeld | exact ⟨s0, s1, s2, s3, s4, d1⟩ | go_keep
                  clear hK K hHeld
                  have hHeld := hNew
                  clear hNew
                  try simp only [List.setIfInBounds_toArray, List.set_cons_zero, List.set_cons_succ]
                  first
                    | (refine wpAnyH_take (i := 10) (v := ?_) at10 (by kernel_rfl) (by kernel_rfl) (by kernel_rfl) (fun _ _ _ h => h) (Or.inl ⟨by rfl, ?_⟩) (by assumption) ?_
                       rotate_left
                       · intro w hSw; (try dsimp only at hSw); go_simp; try with_reducible rfl)
                    | fail "take 10"
                  try simp only [Act.put, List.setIfInBounds_toArray, List.set_cons_zero, List.set_cons_succ]
                  refine wpAnyH_ready (rs := [11]) (by kernel_rfl) (by simp) ?_
                  refine AllReadyH.cons (i := 11) at11 (fun K hK => ?_) AllReadyH.nil
                  go_simp
                  refine hK.out _ _ ?_ (fun hNew => ?_)
                  · first | exact hHeld | exact ⟨s0, s1, s2, s3, s4, d1⟩ | go_keep
                  clear hK K hHeld
                  have hHeld := hNew
                  clear hNew
                  try simp only [List.setIfInBounds_toArray, List.set_cons_zero, List.set_cons_succ]
                  refine tail_list (is := [12, 13, 14]) (l := _) (by kernel_rfl) (by kernel_rfl) (by kernel_rfl) rfl ?_
                  simp only [List.filterMap_cons, List.filterMap_nil, at12, at13, at14]
                  show wpList _ _ _ (_ :: _) _ _
                  go_wp2_with (at_builtin; go_loud (refine wpList_append_own _ rfl _ _ 65 rfl y0.heap.size 62 it _ 5 56 Try.underlying65 hit ht0 ht1 ht2 rfl (by decide) tu _ _ rfl (hI5.out.row.alloc _) ⟨w5.heap.size, 0, none⟩ 1 1 [.string cs, .int .i64 qo, .int .i64 qk, .int .i64 qn, .string ctx] rfl rfl (cells_new w5 [_, _, _, _, _] _) (by simp [Value.oneCell']) (by have := hcnt.out; unfold maxLen; omega) (by have := hcnt.out; omega) (by have := hI5.out.below.size; simp; omega) ?_); intro v' w6 hown6 hgrow6 _; obtain ⟨a9, c9, rfl⟩ := own_shape hown6; have hb6 := box_grown (heap_alloc_old _ _ (Array.getElem?_eq_some_iff.1 hI5.out.box).1 |>.trans hI5.out.box) (hI5.out.row.alloc _) (by decide) hgrow6; obtain ⟨⟨r0, r1, r2⟩, hq6⟩ := box3fQ hb6; have q2 := hq6 2)
                  have hI6 := (hI5.out.step ((Below.refl _ _).alloc (Nat.le_refl _) (.cells #[.string cs, .int .i64 qo, .int .i64 qk, .int .i64 qn, .string ctx] 62))).next (q := ⟨cs, qo, qk, qn, ctx⟩) hown6 hgrow6
                  rw [← htj2.out] at hI6
                  refine (hR11.out _ _).2 ⟨_, rfl, ?_, _, hI6⟩
                  exact ⟨rfl, rfl⟩
                case q11 =>
                  intro a' x hx
                  obtain ⟨l, rfl, hl, tu', hI6⟩ := (hR11.out _ _).1 hx
                  obtain ⟨u8, rfl⟩ := list38 (Nat.le_of_ble_eq_true (by rw [hl.1]; rfl)) hl.2
                  replace hI6 := hidden hI6
                  clear hx hl hR11 p0 p1 p2 p3 p4 n0 n1 n2 m2 hvf hcutp hxa hPB hIA f0 f1 f2 f3 f4 g0 g1 g2 g3 g4 g5 g6 hx2 hG2 hin2 htj htj2 hfe hcnt
                  go_wp2
                  go_roundw
                  case rel => exact ⟨j + 1, _, by omega, by omega, by go_num, hI6⟩
                  case measure => simp [intOf]; omega
              · have e10 : pts.take 9 = pts.take j := by
                  have := hT0.out
                  by_cases h : j < pts.length
                  · obtain rfl : j = 9 := by omega
                    rfl
                  · rw [List.take_of_length_le (by omega), List.take_of_length_le (by omega)]
                have hin3 : Hid (InP cv cl ((pts.take 9).map Tst.few) tu y0 wr) := by show InP ..; rw [e10]; exact hin2.out
                clear e10 hin2
                by_cases hlt3 : j < T0
                all_goals
                  first
                    | (have hi3 : ¬ (j : Int) < 9 := by omega)
                    | (have hi3 : ¬ (j : Int) < (T0 : Int) := by omega)
                  first
                    | (have hi4 : (j : Int) < (T0 : Int) := by omega)
                    | skip
                  clear hlt
                  go_wp2
                  refine ⟨rfl, (hRt.out _ _).2 ⟨_, _, _, rfl, ?_, tu, hin3.out⟩⟩
                  exact ⟨rfl, rfl⟩
          case qt =>
            intro a' x hx
            obtain ⟨u6, u7, l, rfl, hl, tu, hin2⟩ := (hRt.out _ _).1 hx
            obtain ⟨u9, rfl⟩ := list131 hl.1 hl.2
            clear hx hl hRt hI0
            replace hin2 := hidden hin2
            have hG2 := hidden (hF.out.step hin2.out.below)
            have hnf : Hid (Pl.few ⟨pv, pl, pts⟩ = Pl.mk cv cl ((pts.take 9).map Tst.few)) := by
              show Pl.few _ = _
              unfold Pl.few
              rw [hev.out, hel.out]
            have hvl : Hid (vs.length = k) := by
              have := hN0.out
              show _ = _
              rw [hF.out.places.len, List.length_map, List.length_take]; omega
            obtain ⟨pa6, pc6, rfl⟩ := own_shape hin2.out.row
            generalize hL : ((pts.take 9).map Tst.few).length = LL at *
            replace hL := hidden hL
            obtain ⟨⟨n0, n1, n2⟩, -⟩ := box3fQ hin2.out.box
            have hb3 : x.heap[w.heap.size + 1 + 1]? = some (.cells #[u, .slice none 0 0, .slice none 0 0, .bool qc, .int .i64 sk, .int .i64 li, .bool ct] 74) := hG2.out.b3
            have hbs : w.heap.size + 3 ≤ x.heap.size := by have := (Array.getElem?_eq_some_iff.1 hb3).1; omega
            obtain ⟨⟨o0, o1, o2, o3, o4, o5, o6⟩, -⟩ := box7f hb3
            obtain ⟨⟨g0, g1, g2, g3, g4, g5, g6⟩, -⟩ := box7f hG2.out.b1
            replace hb3 := hidden hb3
            replace hbs := hidden hbs
            go_wp2_with (at_builtin; go_loud (refine wpList_append_own _ rfl _ _ 70 rfl (w.heap.size + 3) 105 ip (.agg #[.string ⟨#[]⟩, .string ⟨#[]⟩, .slice none 0 0]) 3 56 Try.underlying70 hip hp0 hp1 hp2 rfl (by decide) u _ _ rfl (hG2.out.places.row.alloc _) ⟨x.heap.size, 0, none⟩ 1 1 [.string cv, .string cl, .slice pa6 LL pc6] rfl rfl (cells_new x [_, _, _] _) (by intro x hx; simp at hx; rcases hx with rfl | rfl | rfl <;> rfl) (by have := hvl.out; unfold maxLen; omega) (by have := hvl.out; omega) (by have := hbs.out; simp; omega) ?_); intro v' w6 hown6 hgrow6 _; obtain ⟨a9, c9, rfl⟩ := own_shape hown6; have hb6 := box_grown ((heap_alloc_old _ _ (Array.getElem?_eq_some_iff.1 hb3.out).1).trans hb3.out) (hG2.out.places.row.alloc _) (by decide) hgrow6; obtain ⟨⟨r0, r1, r2, r3, r4, r5, r6⟩, hq6⟩ := box7f hb6; have q0 := hq6 0)
            have hG7 := (hG2.out.step ((Below.refl _ _).alloc (Nat.le_refl _) (.cells #[.string cv, .string cl, .slice pa6 LL pc6] 105))).place (ts := (pts.take 9).map Tst.few) (own_le (owns_keep (by have h := hin2.out.row; rw [← hL.out] at h ⊢; exact h) ((Below.refl _ _).alloc (Nat.le_refl _) _)) (Nat.zero_le _)) hown6 hgrow6
            rw [show (ps.take k).map Pl.few ++ [Pl.mk cv cl ((pts.take 9).map Tst.few)] = (ps.take (k + 1)).map Pl.few by rw [htk.out, List.map_append, ← hnf.out]; rfl] at hG7
            replace hG7 := hidden hG7
            clear hown6 hgrow6 hb6 r0 r1 r2 r3 r4 r5 r6 hq6 q0 n0 n1 n2 o0 o1 o2 o3 o4 o5 o6 hb3 hin2 hG2 hF htk hnf hev hel g0 g1 g2 g3 g4 g5 g6
            go_wp2
            go_roundw
            case rel => exact ⟨k + 1, _, _, by omega, by omega, by go_num, hG7⟩
            case measure => simp [intOf]; omega
      · have e10 : ps.take 17 = ps.take k := by
          have := hN0.out
          by_cases h : k < ps.length
          · obtain rfl : k = 17 := by omega
            rfl
          · rw [List.take_of_length_le (by omega), List.take_of_length_le (by omega)]
        have hF3 : Hid (FQ w wr #[.slice na N0 nc, .slice ea M0 ec, .slice ra R0 rc, .bool qc, .int .i64 sk, .int .i64 li, .bool ct] [.bool qc, .int .i64 sk, .int .i64 li, .bool ct] u vs ((ps.take 17).map Pl.few) (.slice none 0 0) [] [] (.slice none 0 0) []) := by show FQ ..; rw [e10]; exact hF.out
        clear e10 hF
        by_cases hlt3 : k < N0
        all_goals
          first
            | (have hi3 : ¬ (k : Int) < 17 := by omega)
            | (have hi3 : ¬ (k : Int) < (N0 : Int) := by omega)
          first
            | (have hi4 : (k : Int) < (N0 : Int) := by omega)
            | skip
          clear hlt
          go_wp2
          refine ⟨rfl, (hRp.out _ _).2 ⟨_, rfl, ?_, u, vs, hF3.out⟩⟩
          rfl
  case hq =>
    intro a' x hx
    obtain ⟨l, rfl, hl, pu, vs, hF⟩ := (hRp.out _ _).1 hx
    obtain ⟨u, rfl⟩ := list142 hl
    clear hx hl hRp hF0 g0 g1 g2 g3 g4 g5 g6 hP hT hNb hN0
    replace hF := hidden hF
    generalize hLp : (ps.take 17).map Pl.few = Ps at *
    replace hLp := hidden hLp
    rename World => x0
    go_wp2_with fail
    refine wp_onlyE 4 Re ?e ?r
    case e =>
      go_loopw [8] (fun i x => ∃ (k : Nat) (us : List PthV) (eu : Value), k ≤ M0 ∧ k ≤ 17 ∧ i = .int .i64 k ∧ Hid (FQ w x #[.slice na N0 nc, .slice ea M0 ec, .slice ra R0 rc, .bool qc, .int .i64 sk, .int .i64 li, .bool ct] [.bool qc, .int .i64 sk, .int .i64 li, .bool ct] pu vs Ps eu us ((es.take k).map Pth.few) (.slice none 0 0) [])) (fun i _ => M0 - (intOf i).toNat)
      case atStart => exact ⟨0, [], _, Nat.zero_le _, Nat.zero_le _, rfl, hF⟩
      case round =>
        clear hF
        obtain ⟨k, us, eu, hk, hk17, rfl, hF⟩ := hrel
        obtain ⟨⟨g0, g1, g2, g3, g4, g5, g6⟩, -⟩ := box7f hF.out.b1
        by_cases hlt : k < M0 ∧ k < 17
        · obtain ⟨hlt1, hlt2⟩ := hlt
          have hkp : k < es.length := by rw [← hM0.out]; exact hlt1
          obtain ⟨b, off, D, xv, rfl, hb, c0, c1, c2, c3, c4, c5, c6, c7, c8, hxv⟩ := path_at hE.out hkp
          have htk := hidden (take_snocR es Pth.none k hkp)
          generalize es.getD k Pth.none = pd at *
          obtain ⟨pf, pt, pr, pv, ph, psh⟩ := pd
          obtain ⟨xk, xs, xb, xxa, xn, xc⟩ := xv
          simp only at c0 c1 c2 c3 c4 c5 c6 c7 c8 hxv
          have f0 := (hF.out.below.cell (p := ⟨b, off + k * 9, none⟩) hb).trans c0
          have f1 := (hF.out.below.cell (p := ⟨b, off + k * 9 + 1, none⟩) hb).trans c1
          have f2 := (hF.out.below.cell (p := ⟨b, off + k * 9 + 2, none⟩) hb).trans c2
          have f3 := (hF.out.below.cell (p := ⟨b, off + k * 9 + 3, none⟩) hb).trans c3
          have f4 := (hF.out.below.cell (p := ⟨b, off + k * 9 + 4, none⟩) hb).trans c4
          have f5 := (hF.out.below.cell (p := ⟨b, off + k * 9 + 5, none⟩) hb).trans c5
          have f6 := (hF.out.below.cell (p := ⟨b, off + k * 9 + 6, none⟩) hb).trans c6
          have f7 := (hF.out.below.cell (p := ⟨b, off + k * 9 + 7, none⟩) hb).trans c7
          have f8 := (hF.out.below.cell (p := ⟨b, off + k * 9 + 8, none⟩) hb).trans c8
          clear c0 c1 c2 c3 c4 c5 c6 c7 c8
          have hj1 : (k : Int) < (M0 : Int) := by omega
          have hj2 : (k : Int) < 17 := by omega
          have hBA := hidden ((Below.refl wr.heap.size wr).alloc (Nat.le_refl _) (.cells #[.string pf, .string pt, .int .i64 xk, .string xs, .bool xb, .slice xxa xn xc, .string pv, .int .i64 ph, .bool psh] 114))
          have hPB := hidden (heap_alloc_new wr (.cells #[.string pf, .string pt, .int .i64 xk, .string xs, .bool xb, .slice xxa xn xc, .string pv, .int .i64 ph, .bool psh] 114))
          have hSA : Hid ((wr.alloc (.cells #[.string pf, .string pt, .int .i64 xk, .string xs, .bool xb, .slice xxa xn xc, .string pv, .int .i64 ph, .bool psh] 114)).heap.size = wr.heap.size + 1) := hidden (by simp)
          generalize hxa : wr.alloc (.cells #[.string pf, .string pt, .int .i64 xk, .string xs, .bool xb, .slice xxa xn xc, .string pv, .int .i64 ph, .bool psh] 114) = xA at *
          replace hxa := hidden hxa
          have hcf := fun z => cut_c pf 32 z (by decide)
          have hct := fun z => cut_c pt 32 z (by decide)
          have hcv := fun z => cut_c pv 32 z (by decide)
          have hfe : Hid (Pth.few ⟨pf, pt, pr, pv, ph, psh⟩ = ⟨cutB pf 32, cutB pt 32, pr.few 3, cutB pv 32, ph, psh⟩) := hidden rfl
          have hre := rxFew_c (hxv.below (hF.out.below.trans (hBA.out.mono hF.out.below.size)).drew)
          dsimp only at hre
          generalize cutB pf 32 = cf at *
          generalize cutB pt 32 = ctx at *
          generalize cutB pv 32 = cvv at *
          obtain ⟨⟨p0, p1, p2, p3, p4, p5, p6, p7, p8⟩, -⟩ := box9f hPB.out
          go_wp2_with fail
          rw [hxa.out]
          obtain ⟨R17, hR17⟩ : ∃ R : Act → World → Prop, Hid (∀ a' x, R a' x ↔ (∃ l, a' = ({ tmps := List.toArray ((.agg #[.slice na N0 nc, .slice (some ⟨b, off, none⟩) M0 ec, .slice ra R0 rc, .bool qc, .int .i64 sk, .int .i64 li, .bool ct]) :: (.pointer (some ⟨w.heap.size, 0, none⟩)) :: (.pointer (some ⟨w.heap.size + 1, 0, none⟩)) :: (.pointer (some ⟨w.heap.size + 1 + 1, 0, none⟩)) :: (u 0) :: (u 1) :: (u 2) :: (u 3) :: (.int .i64 k) :: (.pointer (some ⟨wr.heap.size, 0, none⟩)) :: (u 6) :: (u 7) :: (u 8) :: (u 9) :: (u 10) :: (u 11) :: (u 12) :: (u 13) :: (u 14) :: (u 15) :: (u 16) :: (u 17) :: (u 18) :: (u 19) :: (u 20) :: (u 21) :: (u 22) :: (u 23) :: (u 24) :: (u 25) :: (u 26) :: (u 27) :: (u 28) :: (u 29) :: (u 30) :: (u 31) :: (u 32) :: (u 33) :: (u 34) :: (u 35) :: (u 36) :: (u 37) :: (u 38) :: (u 39) :: (u 40) :: (u 41) :: (u 42) :: (u 43) :: (u 44) :: (u 45) :: (u 46) :: (u 47) :: (u 48) :: (u 49) :: (u 50) :: (u 51) :: (u 52) :: (u 53) :: (u 54) :: (u 55) :: (u 56) :: (u 57) :: (u 58) :: (u 59) :: (u 60) :: (u 61) :: (u 62) :: (u 63) :: (u 64) :: (u 65) :: (u 66) :: (u 67) :: (u 68) :: (u 69) :: (u 70) :: (u 71) :: (u 72) :: (u 73) :: (u 74) :: (u 75) :: (u 76) :: (u 77) :: (u 78) :: (u 79) :: (u 80) :: l), defers := [] } : Act) ∧ (l.length = 61 ∧ l.drop 38 = [u 119, u 120, u 121, u 122, u 123, u 124, u 125, u 126, u 127, u 128, u 129, u 130, u 131, u 132, u 133, u 134, u 135, u 136, u 137, u 138, u 139, u 140, u 141]) ∧ ∃ q : RxV, Below wr.heap.size wr x ∧ x.heap[wr.heap.size]? = some (.cells #[.string cf, .string ctx, .int .i64 q.k, .string q.s, .bool q.b, .slice q.a q.n q.c, .string cvv, .int .i64 ph, .bool psh] 114) ∧ HeldX (fun g => wr.heap.size + 1 ≤ g) x 4 q (pr.few 3))) := ⟨_, hidden fun _ _ => Iff.rfl⟩
          refine wp_only R17 ?h17 ?q17
          case h17 =>
            refine wp_region_parts (S := (fun z => z.cell? ⟨wr.heap.size, 0, none⟩ = some (.string pf) ∧ z.cell? ⟨wr.heap.size, 1, none⟩ = some (.string pt) ∧ z.cell? ⟨wr.heap.size, 2, none⟩ = some (.int .i64 xk) ∧ z.cell? ⟨wr.heap.size, 3, none⟩ = some (.string xs) ∧ z.cell? ⟨wr.heap.size, 4, none⟩ = some (.bool xb) ∧ z.cell? ⟨wr.heap.size, 5, none⟩ = some (.slice xxa xn xc) ∧ z.cell? ⟨wr.heap.size, 6, none⟩ = some (.string pv))) #[false, false, false, false, false, false, false, false, false, false, false, false, false, true, true, true, true, true, true, true] #[true, true, true, true, true, true, true, true, true, true, true, true, true, false, false, false, false, false, false, false] [13, 14, 15, 16, 17, 18, 19] 40 13 (by kernel_rfl) (by kernel_rfl) (by kernel_rfl) (by rfl) ?_ (fun hHeld => ?_)
            · go_keep
            first
              | (refine wpAnyH_take (i := 0) (v := ?_) at0 (by kernel_rfl) (by kernel_rfl) (by kernel_rfl) (fun _ _ _ h => h) (Or.inl ⟨by rfl, ?_⟩) (by assumption) ?_
                 rotate_left
                 · intro w hSw; (try dsimp only at hSw); go_simp; try with_reducible rfl)
              | fail "take 0"
            try simp only [Act.put, List.setIfInBounds_toArray, List.set_cons_zero, List.set_cons_succ]
            first
              | (refine wpAnyH_take (i := 1) (v := ?_) at1 (by kernel_rfl) (by kernel_rfl) (by kernel_rfl) (fun _ _ _ h => h) (Or.inl ⟨by rfl, ?_⟩) (by assumption) ?_
                 rotate_left
                 · intro w hSw; (try dsimp only at hSw); go_simp; try with_reducible rfl)
              | fail "take 1"
            try simp only [Act.put, List.setIfInBounds_toArray, List.set_cons_zero, List.set_cons_succ]
            first
              | (refine wpAnyH_take (i := 3) (v := ?_) at3 (by kernel_rfl) (by kernel_rfl) (by kernel_rfl) (fun _ _ _ h => h) (Or.inl ⟨by rfl, ?_⟩) (by assumption) ?_
                 rotate_left
                 · intro w hSw; (try dsimp only at hSw); go_simp; try with_reducible rfl)
              | fail "take 3"
            try simp only [Act.put, List.setIfInBounds_toArray, List.set_cons_zero, List.set_cons_succ]
            first
              | (refine wpAnyH_take (i := 4) (v := ?_) at4 (by kernel_rfl) (by kernel_rfl) (by kernel_rfl) (fun _ _ _ h => h) (Or.inl ⟨by rfl, ?_⟩) (by assumption) ?_
                 rotate_left
                 · intro w hSw; (try dsimp only at hSw); go_simp; try with_reducible rfl)
              | fail "take 4"
            try simp only [Act.put, List.setIfInBounds_toArray, List.set_cons_zero, List.set_cons_succ]
            first
              | (refine wpAnyH_take (i := 6) (v := ?_) at6 (by kernel_rfl) (by kernel_rfl) (by kernel_rfl) (fun _ _ _ h => h) (Or.inl ⟨by rfl, ?_⟩) (by assumption) ?_
                 rotate_left
                 · intro w hSw; (try dsimp only at hSw); go_simp; try with_reducible rfl)
              | fail "take 6"
            try simp only [Act.put, List.setIfInBounds_toArray, List.set_cons_zero, List.set_cons_succ]
            first
              | (refine wpAnyH_take (i := 7) (v := ?_) at7 (by kernel_rfl) (by kernel_rfl) (by kernel_rfl) (fun _ _ _ h => h) (Or.inl ⟨by rfl, ?_⟩) (by assumption) ?_
                 rotate_left
                 · intro w hSw; (try dsimp only at hSw); go_simp; try with_reducible rfl)
              | fail "take 7"
            try simp only [Act.put, List.setIfInBounds_toArray, List.set_cons_zero, List.set_cons_succ]
            first
              | (refine wpAnyH_take (i := 9) (v := ?_) at9 (by kernel_rfl) (by kernel_rfl) (by kernel_rfl) (fun _ _ _ h => h) (Or.inl ⟨by rfl, ?_⟩) (by assumption) ?_
                 rotate_left
                 · intro w hSw; (try dsimp only at hSw); go_simp; try with_reducible rfl)
              | fail "take 9"
            try simp only [Act.put, List.setIfInBounds_toArray, List.set_cons_zero, List.set_cons_succ]
            first
              | (refine wpAnyH_take (i := 10) (v := ?_) at10 (by kernel_rfl) (by kernel_rfl) (by kernel_rfl) (fun _ _ _ h => h) (Or.inl ⟨by rfl, ?_⟩) (by assumption) ?_
                 rotate_left
                 · intro w hSw; (try dsimp only at hSw); go_simp; try with_reducible rfl)
              | fail "take 10"
            try simp only [Act.put, List.setIfInBounds_toArray, List.set_cons_zero, List.set_cons_succ]
            refine wpAnyH_ready (rs := [2]) (by kernel_rfl) (by simp) ?_
            refine AllReadyH.cons (i := 2) at2 (fun K hK => ?_) AllReadyH.nil
            go_simp
            refine (hcf _).mono ?_
            rintro e z ⟨rfl, rfl⟩
            go_wp2_with fail
            refine hK.out _ _ ?_ (fun hNew => ?_)
            · first | exact hHeld | exact ⟨s0, s1, s2, s3, s4, s5, s6⟩ | go_keep
            clear hK K hHeld
            have hHeld := hNew
            clear hNew
            try simp only [List.setIfInBounds_toArray, List.set_cons_zero, List.set_cons_succ]
            first
              | (refine wpAnyH_take (i := 12) (v := ?_) at12 (by kernel_rfl) (by kernel_rfl) (by kernel_rfl) (fun _ _ _ h => h) (Or.inl ⟨by rfl, ?_⟩) (by assumption) ?_
                 rotate_left
                 · intro w hSw; (try dsimp only at hSw); go_simp; try with_reducible rfl)
              | fail "take 12"
            try simp only [Act.put, List.setIfInBounds_toArray, List.set_cons_zero, List.set_cons_succ]
            refine wpAnyH_ready (rs := [5]) (by kernel_rfl) (by simp) ?_
            refine AllReadyH.cons (i := 5) at5 (fun K hK => ?_) AllReadyH.nil
            go_simp
            refine (hct _).mono ?_
            rintro e z ⟨rfl, rfl⟩
            go_wp2_with fail
            refine hK.out _ _ ?_ (fun hNew => ?_)
            · first | exact hHeld | exact ⟨s0, s1, s2, s3, s4, s5, s6⟩ | go_keep
            clear hK K hHeld
            have hHeld := hNew
            clear hNew
            try simp only [List.setIfInBounds_toArray, List.set_cons_zero, List.set_cons_succ]
            refine wpAnyH_ready (rs := [8]) (by kernel_rfl) (by simp) ?_
            refine AllReadyH.cons (i := 8) at8 (fun K hK => ?_) AllReadyH.nil
            go_simp
            refine (hcv _).mono ?_
            rintro e z ⟨rfl, rfl⟩
            go_wp2_with fail
            refine hK.out _ _ ?_ (fun hNew => ?_)
            · first | exact hHeld | exact ⟨s0, s1, s2, s3, s4, s5, s6⟩ | go_keep
            clear hK K hHeld
            have hHeld := hNew
            clear hNew
            try simp only [List.setIfInBounds_toArray, List.set_cons_zero, List.set_cons_succ]
            refine wpAnyH_ready (rs := [11]) (by kernel_rfl) (by simp) ?_
            refine AllReadyH.cons (i := 11) at11 (fun K hK => ?_) AllReadyH.nil
            go_simp
            refine hre.mono ?_
            rintro e w5 ⟨⟨qk, qs, qb, qa, qn, qcc⟩, rfl, hq5, hB5⟩
            have hB6 : Below xA.heap.size xA w5 := (Below.refl _ _).drew.trans hB5
            have hb5 := hidden (box_below hPB.out hB6)
            obtain ⟨⟨s0, s1, s2, s3, s4, s5, s6, s7, s8⟩, hfz⟩ := box9f hb5.out
            have z0 := hfz 0
            have z1 := hfz 1
            have z2 := hfz 2
            have z3 := hfz 3
            have z4 := hfz 4
            have z5 := hfz 5
            have z6 := hfz 6
            clear hfz
            go_wp2_with fail
            refine hK.out _ _ ?_ (fun hNew => ?_)
            · first | exact hHeld | exact ⟨s0, s1, s2, s3, s4, s5, s6⟩ | go_keep
            clear hK K hHeld
            have hHeld := hNew
            clear hNew
            try simp only [List.setIfInBounds_toArray, List.set_cons_zero, List.set_cons_succ]
            refine tail_list (is := [13, 14, 15, 16, 17, 18, 19]) (l := _) (by kernel_rfl) (by kernel_rfl) (by kernel_rfl) rfl ?_
            simp only [List.filterMap_cons, List.filterMap_nil, at13, at14, at15, at16, at17, at18, at19]
            show wpList _ _ _ (_ :: _) _ _
            go_wp2
            refine (hR17.out _ _).2 ⟨_, rfl, ?_, ⟨qk, qs, qb, qa, qn, qcc⟩, ?_, ?_, ?_⟩
            · exact ⟨rfl, rfl⟩
            · exact (((((((hBA.out.trans (hB6.mono (by have := hSA.out; omega))).setCell (Nat.le_refl _) _).setCell (Nat.le_refl _) _).setCell (Nat.le_refl _) _).setCell (Nat.le_refl _) _).setCell (Nat.le_refl _) _).setCell (Nat.le_refl _) _).setCell (Nat.le_refl _) _
            · simpa using set_heap (set_heap (set_heap (set_heap (set_heap (set_heap (set_heap hb5.out 0 _) 1 _) 6 _) 2 _) 3 _) 4 _) 5 _
            · refine hq5.kept fun g hg hlt => ⟨by have := hSA.out; have h : xA.heap.size ≤ g := hg; omega, by simpa [World.setCell] using hlt, ?_⟩
              have h : xA.heap.size ≤ g := hg
              have h2 := hSA.out
              have : wr.heap.size ≠ g := by omega
              simp [World.setCell, Array.getElem?_modify, this]
          case q17 =>
            intro a' x hx
            obtain ⟨l, rfl, hl, ⟨qk, qs, qb, qa, qn, qcc⟩, hBx, hbx, hqx⟩ := (hR17.out _ _).1 hx
            obtain ⟨u8, rfl⟩ := list38 (Nat.le_of_ble_eq_true (by rw [hl.1]; rfl)) hl.2
            clear hx hl hR17 hBA hPB hSA hxa hcf hct hcv hre p0 p1 p2 p3 p4 p5 p6 p7 p8 f0 f1 f2 f3 f4 f5 f6 f7 f8 g0 g1 g2 g3 g4 g5 g6
            simp only at hbx
            have hG2 := hidden (hF.out.step hBx)
            have hul : Hid (us.length = k) := by
              have := hM0.out
              show _ = _
              rw [hF.out.paths.len, List.length_map, List.length_take]; omega
            have hb3 : x.heap[w.heap.size + 1 + 1]? = some (.cells #[pu, eu, .slice none 0 0, .bool qc, .int .i64 sk, .int .i64 li, .bool ct] 74) := hG2.out.b3
            have hb3w : wr.heap[w.heap.size + 2]? = some (.cells #[pu, eu, .slice none 0 0, .bool qc, .int .i64 sk, .int .i64 li, .bool ct] 74) := hF.out.b3
            have hbw : w.heap.size + 3 ≤ wr.heap.size := by have := (Array.getElem?_eq_some_iff.1 hb3w).1; omega
            have hq' : Hid (HeldX (fun b => w.heap.size + 3 ≤ b ∧ eu.ownBlock ≠ some b) x 4 ⟨qk, qs, qb, qa, qn, qcc⟩ (pr.few 3)) := hidden (hqx.weak fun g hg _ => ⟨by omega, fun e => by have := (hF.out.paths.row.lt g e).2; omega⟩)
            have hbs : w.heap.size + 3 ≤ x.heap.size := by have := (Array.getElem?_eq_some_iff.1 hb3).1; omega
            obtain ⟨⟨o0, o1, o2, o3, o4, o5, o6⟩, -⟩ := box7f hb3
            obtain ⟨⟨n0, n1, n2, n3, n4, n5, n6, n7, n8⟩, -⟩ := box9f hbx
            obtain ⟨⟨g0, g1, g2, g3, g4, g5, g6⟩, -⟩ := box7f hG2.out.b1
            replace hb3 := hidden hb3
            replace hbs := hidden hbs
            clear hb3w hbw hqx hBx hbx hF
            go_wp2_with (at_builtin; go_loud (refine wpList_append_own_at _ rfl _ _ 71 rfl (w.heap.size + 3) 114 ie (.agg #[.string ⟨#[]⟩, .string ⟨#[]⟩, .int .i64 0, .string ⟨#[]⟩, .bool false, .slice none 0 0, .string ⟨#[]⟩, .int .i64 0, .bool false]) 9 120 Try.underlying71 hie he0 he1 he2 rfl (by decide) eu _ _ rfl (hG2.out.paths.row.alloc _) ⟨x.heap.size, 0, none⟩ 1 1 [.string cf, .string ctx, .int .i64 qk, .string qs, .bool qb, .slice qa qn qcc, .string cvv, .int .i64 ph, .bool psh] rfl rfl (cells_new x [_, _, _, _, _, _, _, _, _] _) (by intro x hx; simp at hx; rcases hx with rfl | rfl | rfl | rfl | rfl | rfl | rfl | rfl | rfl <;> rfl) (by have := hul.out; unfold maxLen; omega) (by have := hul.out; omega) (by have := hbs.out; simp; omega) ?_); intro v' w6 hown6 hgrow6 _ hat6; obtain ⟨a9, c9, rfl⟩ := own_shape hown6; have hb6 := box_grown ((heap_alloc_old _ _ (Array.getElem?_eq_some_iff.1 hb3.out).1).trans hb3.out) (hG2.out.paths.row.alloc _) (by decide) hgrow6; obtain ⟨⟨r0, r1, r2, r3, r4, r5, r6⟩, hq6⟩ := box7f hb6; have q1 := hq6 1)
            have hG7 := (hG2.out.step ((Below.refl _ _).alloc (Nat.le_refl _) (.cells #[.string cf, .string ctx, .int .i64 qk, .string qs, .bool qb, .slice qa qn qcc, .string cvv, .int .i64 ph, .bool psh] 114))).path (q := ⟨cf, ctx, ⟨qk, qs, qb, qa, qn, qcc⟩, cvv, ph, psh⟩) (p := ⟨cf, ctx, pr.few 3, cvv, ph, psh⟩) ⟨rfl, rfl, rfl, rfl, rfl⟩ (hq'.out.below ((Below.refl _ _).alloc (Nat.le_refl _) _)) hown6 hgrow6 hat6
            rw [show (es.take k).map Pth.few ++ [⟨cf, ctx, pr.few 3, cvv, ph, psh⟩] = (es.take (k + 1)).map Pth.few by rw [htk.out, List.map_append, ← hfe.out]; rfl] at hG7
            replace hG7 := hidden hG7
            clear hown6 hgrow6 hat6 hb6 r0 r1 r2 r3 r4 r5 r6 hq6 q1 n0 n1 n2 n3 n4 n5 n6 n7 n8 o0 o1 o2 o3 o4 o5 o6 hb3 hG2 hq' htk hfe hul g0 g1 g2 g3 g4 g5 g6
            go_wp2
            go_roundw
            case rel => exact ⟨k + 1, _, _, by omega, by omega, by go_num, hG7⟩
            case measure => simp [intOf]; omega
        · have e10 : es.take 17 = es.take k := by
            have := hM0.out
            by_cases h : k < es.length
            · obtain rfl : k = 17 := by omega
              rfl
            · rw [List.take_of_length_le (by omega), List.take_of_length_le (by omega)]
          have hF3 : Hid (FQ w wr #[.slice na N0 nc, .slice ea M0 ec, .slice ra R0 rc, .bool qc, .int .i64 sk, .int .i64 li, .bool ct] [.bool qc, .int .i64 sk, .int .i64 li, .bool ct] pu vs Ps eu us ((es.take 17).map Pth.few) (.slice none 0 0) []) := by show FQ ..; rw [e10]; exact hF.out
          clear e10 hF
          by_cases hlt3 : k < M0
          all_goals
            first
              | (have hi3 : ¬ (k : Int) < 17 := by omega)
              | (have hi3 : ¬ (k : Int) < (M0 : Int) := by omega)
            first
              | (have hi4 : (k : Int) < (M0 : Int) := by omega)
              | skip
            clear hlt
            go_wp2
            refine ⟨rfl, (hRe.out _ _).2 ⟨_, rfl, ?_, pu, vs, eu, us, hF3.out⟩⟩
            rfl
    case r =>
      intro a' x hx
      clear hF
      obtain ⟨l, rfl, hl, pu, vs, eu, us, hF⟩ := (hRe.out _ _).1 hx
      obtain ⟨u, rfl⟩ := list142 hl
      clear hx hl hRe hE hM0 hMb
      replace hF := hidden hF
      generalize hLe : (es.take 17).map Pth.few = Es at *
      replace hLe := hidden hLe
      obtain ⟨Rr, hRr2⟩ : ∃ R : Act → World → Prop, Hid (∀ a' x, R a' x ↔ (∃ l, a' = ({ tmps := List.toArray ((.agg #[.slice na N0 nc, .slice ea M0 ec, .slice ra R0 rc, .bool qc, .int .i64 sk, .int .i64 li, .bool ct]) :: (.pointer (some ⟨w.heap.size, 0, none⟩)) :: (.pointer (some ⟨w.heap.size + 1, 0, none⟩)) :: (.pointer (some ⟨w.heap.size + 1 + 1, 0, none⟩)) :: l), defers := [] } : Act) ∧ l.length = 142 ∧ ∃ ru, FQ w x #[.slice na N0 nc, .slice ea M0 ec, .slice ra R0 rc, .bool qc, .int .i64 sk, .int .i64 li, .bool ct] [.bool qc, .int .i64 sk, .int .i64 li, .bool ct] pu vs Ps eu us Es ru ((rs.take 33).map fun s => cutB s 32))) := ⟨_, hidden fun _ _ => Iff.rfl⟩
      rename World => x1
      go_wp2_with fail
      refine wp_onlyE 6 Rr ?s ?t
      case s =>
        go_loopw [10] (fun i x => ∃ (k : Nat) (ru : Value), k ≤ R0 ∧ k ≤ 33 ∧ i = .int .i64 k ∧ Hid (FQ w x #[.slice na N0 nc, .slice ea M0 ec, .slice ra R0 rc, .bool qc, .int .i64 sk, .int .i64 li, .bool ct] [.bool qc, .int .i64 sk, .int .i64 li, .bool ct] pu vs Ps eu us Es ru ((rs.take k).map fun s => cutB s 32))) (fun i _ => R0 - (intOf i).toNat)
        case atStart => exact ⟨0, _, Nat.zero_le _, Nat.zero_le _, rfl, hF⟩
        case round =>
          clear hF
          obtain ⟨k, ru, hk, hk33, rfl, hF⟩ := hrel
          obtain ⟨⟨g0, g1, g2, g3, g4, g5, g6⟩, -⟩ := box7f hF.out.b1
          by_cases hlt : k < R0 ∧ k < 33
          · obtain ⟨hlt1, hlt2⟩ := hlt
            have hkp : k < rs.length := by rw [← hR0.out]; exact hlt1
            obtain ⟨b, off, rfl, hb, c0⟩ := txt_at hRr.out hkp
            have htk := hidden (take_snocR rs ⟨#[]⟩ k hkp)
            generalize rs.getD k ⟨#[]⟩ = pd at *
            have f0 := (hF.out.below.cell (p := ⟨b, off + k, none⟩) hb).trans c0
            clear c0
            have hj1 : (k : Int) < (R0 : Int) := by omega
            have hj2 : (k : Int) < 33 := by omega
            have hcc := fun z => cut_c pd 32 z (by decide)
            have htk2 : Hid ((rs.take (k + 1)).map (fun s => cutB s 32) = (rs.take k).map (fun s => cutB s 32) ++ [cutB pd 32]) := by
              show _ = _
              rw [htk.out, List.map_append]; rfl
            generalize cutB pd 32 = cs at *
            have hcnt : Hid (((rs.take k).map fun s => cutB s 32).length = k) := by show _ = _; rw [List.length_map, List.length_take]; omega
            have hFD := hidden (hF.out.step (Below.refl _ _).drew)
            have hb3 : wr.heap[w.heap.size + 1 + 1]? = some (.cells #[pu, eu, ru, .bool qc, .int .i64 sk, .int .i64 li, .bool ct] 74) := hF.out.b3
            have hb3d := hidden hFD.out.b3
            have hbs : Hid (w.heap.size + 3 ≤ wr.heap.size) := by show _ ≤ _; have := (Array.getElem?_eq_some_iff.1 hb3).1; omega
            obtain ⟨⟨o0, o1, o2, o3, o4, o5, o6⟩, -⟩ := box7f hb3
            have o7 : ∀ o, (wr.alloc o).cell? ⟨w.heap.size + 1 + 1, 2, none⟩ = some ru := fun o => (World.cell?_alloc_lt _ _ _ (World.block_lt_of_cell? _ _ o2)).trans o2
            replace hb3 := hidden hb3
            generalize (rs.take k).map (fun s => cutB s 32) = RL at *
            clear htk
            go_wp2_with fail
            obtain ⟨R22, hR22⟩ : ∃ R : Act → World → Prop, Hid (∀ a' x, R a' x ↔ (∃ l, a' = ({ tmps := List.toArray ((.agg #[.slice na N0 nc, .slice ea M0 ec, .slice (some ⟨b, off, none⟩) R0 rc, .bool qc, .int .i64 sk, .int .i64 li, .bool ct]) :: (.pointer (some ⟨w.heap.size, 0, none⟩)) :: (.pointer (some ⟨w.heap.size + 1, 0, none⟩)) :: (.pointer (some ⟨w.heap.size + 1 + 1, 0, none⟩)) :: (u 0) :: (u 1) :: (u 2) :: (u 3) :: (u 4) :: (u 5) :: (.int .i64 k) :: (u 7) :: (u 8) :: (u 9) :: (u 10) :: (u 11) :: (u 12) :: (u 13) :: (u 14) :: (u 15) :: (u 16) :: (u 17) :: (u 18) :: (u 19) :: (u 20) :: (u 21) :: (u 22) :: (u 23) :: (u 24) :: (u 25) :: (u 26) :: (u 27) :: (u 28) :: (u 29) :: (u 30) :: (u 31) :: (u 32) :: (u 33) :: (u 34) :: (u 35) :: (u 36) :: (u 37) :: (u 38) :: (u 39) :: (u 40) :: (u 41) :: (u 42) :: (u 43) :: (u 44) :: (u 45) :: (u 46) :: (u 47) :: (u 48) :: (u 49) :: (u 50) :: (u 51) :: (u 52) :: (u 53) :: (u 54) :: (u 55) :: (u 56) :: (u 57) :: (u 58) :: (u 59) :: (u 60) :: (u 61) :: (u 62) :: (u 63) :: (u 64) :: (u 65) :: (u 66) :: (u 67) :: (u 68) :: (u 69) :: (u 70) :: (u 71) :: (u 72) :: (u 73) :: (u 74) :: (u 75) :: (u 76) :: (u 77) :: (u 78) :: (u 79) :: (u 80) :: (u 81) :: (u 82) :: (u 83) :: (u 84) :: (u 85) :: (u 86) :: (u 87) :: (u 88) :: (u 89) :: (u 90) :: (u 91) :: (u 92) :: (u 93) :: (u 94) :: (u 95) :: (u 96) :: (u 97) :: (u 98) :: (u 99) :: (u 100) :: (u 101) :: (u 102) :: (u 103) :: (u 104) :: (u 105) :: (u 106) :: (u 107) :: (u 108) :: (u 109) :: (u 110) :: (u 111) :: (u 112) :: (u 113) :: (u 114) :: (u 115) :: (u 116) :: (u 117) :: (u 118) :: l), defers := [] } : Act) ∧ (l.length = 23 ∧ l.drop 22 = [u 141]) ∧ ∃ ru', FQ w x #[.slice na N0 nc, .slice ea M0 ec, .slice (some ⟨b, off, none⟩) R0 rc, .bool qc, .int .i64 sk, .int .i64 li, .bool ct] [.bool qc, .int .i64 sk, .int .i64 li, .bool ct] pu vs Ps eu us Es ru' ((rs.take (k + 1)).map fun s => cutB s 32))) := ⟨_, hidden fun _ _ => Iff.rfl⟩
            refine wp_only R22 ?h22 ?q22
            case h22 =>
              refine wp_region_parts (S := (fun z => z.cell? ⟨w.heap.size + 1 + 1, 2, none⟩ = some ru ∧ z.cell? ⟨w.heap.size, 2, none⟩ = some (.slice (some ⟨b, off, none⟩) R0 rc) ∧ z.cell? ⟨b, off + k, none⟩ = some (.string pd))) #[false, false, false, false, false, false, false, false, false, true, true, true] #[true, true, true, true, true, true, true, true, true, false, false, false] [9, 10, 11] 40 9 (by kernel_rfl) (by kernel_rfl) (by kernel_rfl) (by rfl) ?_ (fun hHeld => ?_)
              · go_keep
              first
                | (refine wpAnyH_take (i := 0) (v := ?_) at0 (by kernel_rfl) (by kernel_rfl) (by kernel_rfl) (fun _ _ _ h => h) (Or.inl ⟨by rfl, ?_⟩) (by assumption) ?_
                   rotate_left
                   · intro w hSw; (try dsimp only at hSw); go_simp; try with_reducible rfl)
                | fail "take 0"
              try simp only [Act.put, List.setIfInBounds_toArray, List.set_cons_zero, List.set_cons_succ]
              first
                | (refine wpAnyH_take (i := 1) (v := ?_) at1 (by kernel_rfl) (by kernel_rfl) (by kernel_rfl) (fun _ _ _ h => h) (Or.inl ⟨by rfl, ?_⟩) (by assumption) ?_
                   rotate_left
                   · intro w hSw; (try dsimp only at hSw); go_simp; try with_reducible rfl)
                | fail "take 1"
              try simp only [Act.put, List.setIfInBounds_toArray, List.set_cons_zero, List.set_cons_succ]
              first
                | (refine wpAnyH_take (i := 2) (v := ?_) at2 (by kernel_rfl) (by kernel_rfl) (by kernel_rfl) (fun _ _ _ h => h) (Or.inl ⟨by rfl, ?_⟩) (by assumption) ?_
                   rotate_left
                   · intro w hSw; (try dsimp only at hSw); go_simp; try with_reducible rfl)
                | fail "take 2"
              try simp only [Act.put, List.setIfInBounds_toArray, List.set_cons_zero, List.set_cons_succ]
              first
                | (refine wpAnyH_take (i := 3) (v := ?_) at3 (by kernel_rfl) (by kernel_rfl) (by kernel_rfl) (fun _ _ _ h => h) (Or.inl ⟨by rfl, ?_⟩) (by assumption) ?_
                   rotate_left
                   · intro w hSw; (try dsimp only at hSw); go_simp; try with_reducible rfl)
                | fail "take 3"
              try simp only [Act.put, List.setIfInBounds_toArray, List.set_cons_zero, List.set_cons_succ]
              first
                | (refine wpAnyH_take (i := 4) (v := ?_) at4 (by kernel_rfl) (by kernel_rfl) (by kernel_rfl) (fun _ _ _ h => h) (Or.inl ⟨by rfl, ?_⟩) (by assumption) ?_
                   rotate_left
                   · intro w hSw; (try dsimp only at hSw); go_simp; try with_reducible rfl)
                | fail "take 4"
              try simp only [Act.put, List.setIfInBounds_toArray, List.set_cons_zero, List.set_cons_succ]
              first
                | (refine wpAnyH_take (i := 5) (v := ?_) at5 (by kernel_rfl) (by kernel_rfl) (by kernel_rfl) (fun _ _ _ h => h) (Or.inl ⟨by rfl, ?_⟩) (by assumption) ?_
                   rotate_left
                   · intro w hSw; (try dsimp only at hSw); go_simp; try with_reducible rfl)
                | fail "take 5"
              try simp only [Act.put, List.setIfInBounds_toArray, List.set_cons_zero, List.set_cons_succ]
              first
                | (refine wpAnyH_take (i := 6) (v := ?_) at6 (by kernel_rfl) (by kernel_rfl) (by kernel_rfl) (fun _ _ _ h => h) (Or.inl ⟨by rfl, ?_⟩) (by assumption) ?_
                   rotate_left
                   · intro w hSw; (try dsimp only at hSw); go_simp; try with_reducible rfl)
                | fail "take 6"
              try simp only [Act.put, List.setIfInBounds_toArray, List.set_cons_zero, List.set_cons_succ]
              refine wpAnyH_ready (rs := [7]) (by kernel_rfl) (by simp) ?_
              refine AllReadyH.cons (i := 7) at7 (fun K hK => ?_) AllReadyH.nil
              go_simp
              refine (hcc _).mono ?_
              rintro e z ⟨rfl, rfl⟩
              go_wp2_with fail
              refine hK.out _ _ ?_ (fun hNew => ?_)
              · first | exact hHeld | go_keep
              clear hK K hHeld
              have hHeld := hNew
              clear hNew
              try simp only [List.setIfInBounds_toArray, List.set_cons_zero, List.set_cons_succ]
              refine wpAnyH_ready (rs := [8]) (by kernel_rfl) (by simp) ?_
              refine AllReadyH.cons (i := 8) at8 (fun K hK => ?_) AllReadyH.nil
              go_simp
              refine hK.out _ _ ?_ (fun hNew => ?_)
              · first | exact hHeld | go_keep
              clear hK K hHeld
              have hHeld := hNew
              clear hNew
              try simp only [List.setIfInBounds_toArray, List.set_cons_zero, List.set_cons_succ]
              refine tail_list (is := [9, 10, 11]) (l := _) (by kernel_rfl) (by kernel_rfl) (by kernel_rfl) rfl ?_
              simp only [List.filterMap_cons, List.filterMap_nil, at9, at10, at11]
              show wpList _ _ _ (_ :: _) _ _
              go_wp2_with (at_builtin; go_loud (refine wpList_append_own_at _ rfl _ _ 72 rfl (w.heap.size + 3) 9 ix _ 1 16 Try.underlying72 hix hx0 hx1 hx2 rfl (by decide) ru _ _ rfl (hFD.out.rets.alloc _) ⟨wr.heap.size, 0, none⟩ 1 1 [.string cs] rfl rfl (cells_new wr.drew [_] _) (by simp [Value.oneCell']) (by have := hcnt.out; unfold maxLen; omega) (by have := hcnt.out; omega) (by have := hbs.out; simp; omega) ?_); intro v' w6 hown6 hgrow6 _ hat6; obtain ⟨a9, c9, rfl⟩ := own_shape hown6; have hb6 := box_grown (heap_alloc_old _ _ (Array.getElem?_eq_some_iff.1 hb3d.out).1 |>.trans hb3d.out) (hFD.out.rets.alloc _) (by decide) hgrow6; obtain ⟨⟨r0, r1, r2, r3, r4, r5, r6⟩, hq6⟩ := box7f hb6; have q2 := hq6 2)
              have hG7 := (hFD.out.step ((Below.refl _ _).alloc (Nat.le_refl _) (.cells #[.string cs] 9))).ret (s := cs) hown6 hgrow6 hat6
              rw [← htk2.out] at hG7
              refine (hR22.out _ _).2 ⟨_, rfl, ?_, _, hG7⟩
              exact ⟨rfl, rfl⟩
            case q22 =>
              intro a' x hx
              obtain ⟨l, rfl, hl, ru', hG7⟩ := (hR22.out _ _).1 hx
              obtain ⟨u8, rfl⟩ := list22 (Nat.le_of_ble_eq_true (by rw [hl.1]; rfl)) hl.2
              replace hG7 := hidden hG7
              clear hx hl hR22 hFD hb3 hb3d hbs o7 o0 o1 o2 o3 o4 o5 o6 hcc hcnt htk2 f0 g0 g1 g2 g3 g4 g5 g6 hF
              go_wp2
              go_roundw
              case rel => exact ⟨k + 1, _, by omega, by omega, by go_num, hG7⟩
              case measure => simp [intOf]; omega
          · have e10 : rs.take 33 = rs.take k := by
              have := hR0.out
              by_cases h : k < rs.length
              · obtain rfl : k = 33 := by omega
                rfl
              · rw [List.take_of_length_le (by omega), List.take_of_length_le (by omega)]
            have hF3 : Hid (FQ w wr #[.slice na N0 nc, .slice ea M0 ec, .slice ra R0 rc, .bool qc, .int .i64 sk, .int .i64 li, .bool ct] [.bool qc, .int .i64 sk, .int .i64 li, .bool ct] pu vs Ps eu us Es ru ((rs.take 33).map fun s => cutB s 32)) := by show FQ ..; rw [e10]; exact hF.out
            clear e10 hF
            by_cases hlt3 : k < R0
            all_goals
              first
                | (have hi3 : ¬ (k : Int) < 33 := by omega)
                | (have hi3 : ¬ (k : Int) < (R0 : Int) := by omega)
              first
                | (have hi4 : (k : Int) < (R0 : Int) := by omega)
                | skip
              clear hlt
              go_wp2
              refine ⟨rfl, (hRr2.out _ _).2 ⟨_, rfl, ?_, ru, hF3.out⟩⟩
              rfl
      case t =>
        intro a' x hx
        clear hF
        obtain ⟨l, rfl, hl, ru, hF⟩ := (hRr2.out _ _).1 hx
        obtain ⟨u, rfl⟩ := list142 hl
        clear hx hl hRr2 hR0 hRb hRr
        generalize hLr : (rs.take 33).map (fun s => cutB s 32) = Rs at *
        replace hLr := hidden hLr
        obtain ⟨pa, pc, rfl⟩ := own_shape hF.places.row
        obtain ⟨fa, fc, rfl⟩ := own_shape hF.paths.row
        obtain ⟨ua, uc, rfl⟩ := own_shape hF.rets
        have hb3 : x.heap[w.heap.size + 1 + 1]? = some (.cells #[.slice pa vs.length pc, .slice fa us.length fc, .slice ua Rs.length uc, .bool qc, .int .i64 sk, .int .i64 li, .bool ct] 74) := hF.b3
        obtain ⟨⟨o0, o1, o2, o3, o4, o5, o6⟩, -⟩ := box7f hb3
        obtain ⟨⟨g0, g1, g2, g3, g4, g5, g6⟩, hz⟩ := box7f hF.b2
        have z0 := hz 0
        have z1 := hz 1
        have z2 := hz 2
        have z3 := hz 3
        have z4 := hz 4
        have z5 := hz 5
        have z6 := hz 6
        have hD : Hid (Done w x #[.slice none 0 0, .slice none 0 0, .slice none 0 0, .bool false, .int .i64 0, .int .i64 0, .bool false] (.slice pa vs.length pc) vs Ps (.slice fa us.length fc) us Es (.slice ua Rs.length uc) Rs) := ⟨hF.below, hF.b2, hF.places, hF.paths, hF.rets⟩
        clear hF hb3 hz
        go_wp2
        have hD2 := ((((((hD.out.set 0 (.slice pa vs.length pc)).set 1 (.slice fa us.length fc)).set 2 (.slice ua Rs.length uc)).set 3 (.bool qc)).set 4 (.int .i64 sk)).set 5 (.int .i64 li)).set 6 (.bool ct)
        have hfin := (show _ = some (Obj.cells #[.slice pa vs.length pc, .slice fa us.length fc, .slice ua Rs.length uc, .bool qc, .int .i64 sk, .int .i64 li, .bool ct] 74) from hD2.box)
        refine bodyPost_ret (results_cell_row rfl _ _ (w.heap.size + 1) _ _ _ _ rfl hfin Try.underlying74 rfl (by kernel_rfl)) rfl ⟨vs, _, _, _, us, _, _, _, _, _, _, rfl, by rw [hLp.out]; exact hD2.places, by rw [hLe.out]; exact hD2.paths, by rw [hLr.out]; exact hD2.rets, hD2.below⟩
end Go.Proofs.Ytnmjhbnadfjapaa
