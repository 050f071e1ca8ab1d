/-
  ITEMS HELD AGAINST EACH OTHER, within slices.SortFunc: what was stays, blocks are laid behind it.
-/
import Derived.Test.YtapdkdfgjjdbkaaIOrd
import Derived.Sort.Grow
import Derived.Deep.Draws
import Derived.Test.YtapdkdfgjjdbkaaHAll
import Derived.Shelf.GgSortFunc.InsertionK
namespace Go.Proofs.Ytapdkdfgjjdbkaa
open Go.ChangeShapes Go.WideShapes Go.ChangeAt Go.RowKit Go.Sort

/-- Draws, and blocks behind what was. -/
def Laid (w w' : World) : Prop := ∃ q os, w' = grow (w.drewN q) os
theorem Laid.refl (w : World) : Laid w w := ⟨0, #[], by simp [grow, World.drewN]⟩
theorem Laid.drew {w x : World} (h : Laid w x) : Laid w x.drew := by
  obtain ⟨q, os, rfl⟩ := h
  exact ⟨q + 1, os, rfl⟩
theorem Laid.alloc {w x : World} (h : Laid w x) (o : Obj) : Laid w (x.alloc o) := by
  obtain ⟨q, os, rfl⟩ := h
  exact ⟨q, os ++ #[o], by rw [alloc_eq_grow, grow_grow]⟩
theorem Laid.below {w x : World} (h : Laid w x) : Below w.heap.size w x := by
  obtain ⟨q, os, rfl⟩ := h
  refine ⟨rfl, rfl, rfl, ?_, fun k hk => ?_⟩
  · simp [grow, World.drewN]
  · simp [grow, World.drewN, Array.getElem?_append_left hk]
set_option maxHeartbeats 1600000 in
set_option maxRecDepth 1000000 in
theorem horderL_c (x y : It) (nx ny : Value) (w : World) (hx : Holds w nx (x.l.map (Value.int .i64))) (hy : Holds w ny (y.l.map (Value.int .i64))) (hxl : x.l.length ≤ 17592186044416) (hyl : y.l.length ≤ 17592186044416) :
    Calls Try.prog 22 #[itV x nx, itV y ny] w fun e w' => e = .returned (.int .i64 (icmp x y)) ∧ Laid w w' := by
  obtain ⟨c, l, p, r⟩ := x
  obtain ⟨c', l', p', r'⟩ := y
  simp only [itV, icmp] at hx hy hxl hyl ⊢
  have hl : ∀ w2, Laid w w2 → Calls Try.prog 32 #[nx, ny] w2 fun e w' => e = .returned (.int .i64 (lcmp l l')) ∧ w' = w2 :=
    fun w2 h => scmp_c nx ny l l' w2 (hx.below h.below) (hy.below h.below) hxl hyl
  have hk := fun w => cmpi_c c c' w
  have hp := fun w => cmpi_c p p' w
  have hr := fun w => cmpi_c r r' w
  generalize lcmp l l' = L at *
  generalize cmpI c c' = C at *
  generalize cmpI p p' = P at *
  generalize cmpI r r' = R at *
  have ho := fun b w h0 h1 h2 => or_c L P R b w h0 h1 h2
  generalize orS L P R = O at *
  have hZ : Hid ((C = 0 → (if C = 0 then O else C) = O) ∧ (C ≠ 0 → (if C = 0 then O else C) = C)) := ⟨fun h => if_pos h, fun h => if_neg h⟩
  generalize (if C = 0 then O else C) = Z at *
  obtain ⟨-, hc1, hc2⟩ := boxes2n w #[.int .i64 c, nx, .int .i64 p, .int .i64 r] #[.int .i64 c', ny, .int .i64 p', .int .i64 r'] 24 24
  obtain ⟨w2, hw2⟩ : ∃ w2, w2 = (w.alloc (.cells #[.int .i64 c, nx, .int .i64 p, .int .i64 r] 24)).alloc (.cells #[.int .i64 c', ny, .int .i64 p', .int .i64 r'] 24) := ⟨_, rfl⟩
  have hB : Laid w w2 := by rw [hw2]; exact ((Laid.refl _).alloc _).alloc _
  rw [← hw2] at hc1 hc2
  have f0 := hc1 0 _ rfl
  have f1 := hc1 1 _ rfl
  have f2 := hc1 2 _ rfl
  have f3 := hc1 3 _ rfl
  have g0 := hc2 0 _ rfl
  have g1 := hc2 1 _ rfl
  have g2 := hc2 2 _ rfl
  have g3 := hc2 3 _ rfl
  clear hc1 hc2 hx hy hxl hyl
  replace hw2 := hiddenI hw2
  replace hB := hiddenI hB
  go_enter Try.func22, Try.ntmps22
  go_wp2_with fail
  rw [← hw2.out]
  refine (hk w2).mono ?_
  rintro e w3 ⟨rfl, rfl⟩
  clear hw2 hk
  by_cases hC : C = 0
  · replace hZ := hiddenI (hZ.out.1 hC)
    subst hC
    go_wp2_with fail
    have f1 : w3.drew.cell? ⟨w.heap.size, 1, none⟩ = some nx := f1
    have f2 : w3.drew.cell? ⟨w.heap.size, 2, none⟩ = some (.int .i64 p) := f2
    have f3 : w3.drew.cell? ⟨w.heap.size, 3, none⟩ = some (.int .i64 r) := f3
    have g1 : w3.drew.cell? ⟨w.heap.size + 1, 1, none⟩ = some ny := g1
    have g2 : w3.drew.cell? ⟨w.heap.size + 1, 2, none⟩ = some (.int .i64 p') := g2
    have g3 : w3.drew.cell? ⟨w.heap.size + 1, 3, none⟩ = some (.int .i64 r') := g3
    have hB : Hid (Laid w w3.drew) := hB.out.drew
    obtain ⟨wd, hwd⟩ : ∃ wd, wd = w3.drew := ⟨_, rfl⟩
    rw [← hwd] at f1 f2 f3 g1 g2 g3 hB
    have hl := hl wd hB.out
    refine still_tail2 15 (by kernel_rfl) (by kernel_rfl) wd hwd ?_
    clear hwd f0 g0
    simp only [List.take_succ_cons, List.take_zero, List.drop_succ_cons, List.drop_zero]
    repeat still_step
    still_call hl
    repeat still_step
    still_call (hp _)
    repeat still_step
    still_call (hr _)
    refine wpStill_nil ?_
    clear hp hr hl f1 f2 f3 g1 g2 g3
    have hsz := hB.out.below.size
    go_wp2_with fail
    refine (ho wd.heap.size _ (by rw [World.cell?_alloc_new]; rfl) (by rw [World.cell?_alloc_new]; rfl) (by rw [World.cell?_alloc_new]; rfl)).mono ?_
    rintro e w4 ⟨rfl, rfl⟩
    go_wp2
    go_ret
    exact ⟨by rw [hZ.out]; first | done | rfl, hB.out.alloc _⟩
  · replace hZ := hiddenI (hZ.out.2 hC)
    clear hl hp hr ho
    go_wp2
    go_ret
    exact ⟨by rw [hZ.out]; first | done | rfl, hB.out⟩
end Go.Proofs.Ytapdkdfgjjdbkaa
/-
  ITEMS IN A ROW OF THEIR OWN, AS slices.SortFunc LAYS THEM: what the sort's worlds hold.
-/
namespace Go.Proofs.Ytapdkdfgjjdbkaa
open Go.ChangeShapes Go.WideShapes Go.ChangeAt Go.RowKit

theorem flat_encs {α : Type} [Inhabited α] (f : α → Pr) (d : Array α) : Go.Sort.flatK (fun x => encP (f x)) 4 d = (encs (d.toList.map f)).toArray := by
  have hs : (Go.Sort.flatK (fun x => encP (f x)) 4 d).size = d.size * 4 := by simp
  apply Array.ext
  · simp [encs_len]
  · intro t h1 h2
    rw [hs] at h1
    have hd : t / 4 < d.size := by omega
    have hg := Go.Sort.get_flatK (fun x => encP (f x)) 4 d t h1
    rw [getElem!_pos _ t (by rw [hs]; exact h1)] at hg
    rw [hg]
    have he := encs_get (d.toList.map f) (t / 4) (t % 4) (by simpa using hd) (by omega)
    rw [show t / 4 * 4 + t % 4 = t by omega] at he
    have hp : (d.toList.map f).getD (t / 4) pr0 = f d[t / 4]! := by
      rw [getElem!_pos d (t / 4) hd]; simp [List.getD, hd]
    rw [hp] at he
    have hl : t % 4 < (encP (f d[t / 4]!)).length := by show _ < 4; omega
    rw [getElem!_pos (encP (f d[t / 4]!)) (t % 4) hl]
    rw [List.getElem?_eq_getElem hl] at he
    have h3 : t < (encs (d.toList.map f)).length := by simpa using h2
    rw [List.getElem?_eq_getElem h3] at he
    have he := Option.some.inj he
    simp only [List.getElem_toArray]
    exact he.symm
/-- The row's block, in a world of the sort's. -/
theorem sw_block {α : Type} [Inhabited α] (enc : α → List Value) (k : Nat) (w : World) (g m : Nat) (dk : Array α) (os : Array Obj) {cur : Array Value} {e : TypeId} (h : w.heap[g]? = some (.cells cur e (0, 0))) :
    (Go.Proofs.sortWorldK enc k w g 0 m dk os).heap[g]? = some (.cells (Go.Sort.putCells id 0 (Go.Sort.flatK enc k dk) cur) e (0, 0)) := by
  have hg : g < w.heap.size := (Array.getElem?_eq_some_iff.1 h).1
  simp only [Go.Proofs.sortWorldK, Go.Sort.grow, Go.Sort.putRowK, Go.Sort.putRow, Go.Sort.mapBlock, Go.Sort.ahead]
  rw [Array.getElem?_append_left (by simpa using hg), Array.getElem?_modify, if_pos rfl, h]
  rfl
/-- .. and the others. -/
theorem sw_other {α : Type} [Inhabited α] (enc : α → List Value) (k : Nat) (w : World) (g m : Nat) (dk : Array α) (os : Array Obj) {j : Nat} (hj : j < w.heap.size) (hne : j ≠ g) :
    (Go.Proofs.sortWorldK enc k w g 0 m dk os).heap[j]? = w.heap[j]? := by
  simp only [Go.Proofs.sortWorldK, Go.Sort.grow, Go.Sort.putRowK, Go.Sort.putRow, Go.Sort.mapBlock, Go.Sort.ahead]
  rw [Array.getElem?_append_left (by simpa using hj), Array.getElem?_modify, if_neg (Ne.symm hne)]
theorem sw_below {α : Type} [Inhabited α] (enc : α → List Value) (k : Nat) (w : World) (g m : Nat) (dk : Array α) (os : Array Obj) {B : Nat} (hB : B ≤ g) (hw : B ≤ w.heap.size) :
    Below B w (Go.Proofs.sortWorldK enc k w g 0 m dk os) := by
  refine ⟨rfl, rfl, rfl, ?_, fun j hj => sw_other enc k w g m dk os (by omega) (by omega)⟩
  simp [Go.Proofs.sortWorldK, Go.Sort.grow, Go.Sort.putRowK, Go.Sort.putRow, Go.Sort.mapBlock, Go.Sort.ahead]
theorem put_take (F cur : Array Value) (n : Nat) (hF : F.size = n) (hn : n ≤ cur.size) : (Go.Sort.putCells id 0 F cur).toList.take n = F.toList := by
  apply List.ext_getElem?
  intro t
  by_cases ht : t < n
  · have hc : t < cur.size := by omega
    have hf : t < F.size := by omega
    rw [List.getElem?_take_of_lt ht, Array.getElem?_toList, Array.getElem?_toList]
    simp [Go.Sort.putCells, hc, hf]
  · rw [List.getElem?_eq_none (by simp; omega), List.getElem?_eq_none (by simp; omega)]
/-- The row, in a world of the sort's. -/
theorem sw_row {α : Type} [Inhabited α] (f : α → Pr) (w : World) (B g n cap m : Nat) (L : List Pr) (dk : Array α) (os : Array Obj) (hd : dk.size = n) (hr : w.ownsRow B 24 4 (.slice (some ⟨g, 0, none⟩) n cap) n (encs L)) :
    (Go.Proofs.sortWorldK (fun x => encP (f x)) 4 w g 0 m dk os).ownsRow B 24 4 (.slice (some ⟨g, 0, none⟩) n cap) n (encs (dk.toList.map f)) := by
  obtain ⟨hl, h⟩ := hr
  refine ⟨by rw [encs_len]; simp [hd], ?_⟩
  rcases h with ⟨h, _⟩ | ⟨g', cap', cur, he, h2, h3, h4, h5, h6, h7⟩
  · cases h
  · simp only [Value.slice.injEq, Option.some.injEq, Addr.mk.injEq, and_true, true_and] at he
    obtain ⟨rfl, rfl⟩ := he
    refine .inr ⟨g, cap, _, rfl, h2, sw_block _ 4 w g m dk os h3, h4, h5, by simpa [Go.Sort.putCells] using h6, ?_⟩
    rw [put_take _ _ _ (by simp [hd]) (by rw [h6]; exact Nat.mul_le_mul_right 4 h4), flat_encs]
/-- A row of ints, in a world of the sort's. -/
theorem sw_ints {α : Type} [Inhabited α] (enc : α → List Value) (w : World) (B B2 g n cap m n2 : Nat) (xs ys : List Value) (v : Value) (dk : Array α) (os : Array Obj) (hr : w.ownsRow B 24 4 (.slice (some ⟨g, 0, none⟩) n cap) n xs) (hv : w.ownsRow B2 3 1 v n2 ys) :
    (Go.Proofs.sortWorldK enc 4 w g 0 m dk os).ownsRow B2 3 1 v n2 ys := by
  obtain ⟨hl, h⟩ := hv
  refine ⟨hl, ?_⟩
  rcases h with h | ⟨g2, cap2, cur2, e2, h2, h3, h4⟩
  · exact .inl h
  · have hne : g2 ≠ g := by
      rcases hr.2 with ⟨e, _⟩ | ⟨g', cap', cur, e, _, hc, _⟩
      · cases e
      · simp only [Value.slice.injEq, Option.some.injEq, Addr.mk.injEq, and_true, true_and] at e
        obtain ⟨rfl, _⟩ := e
        intro e
        subst e
        rw [h3] at hc
        injection hc with hc
        injection hc with _ hc _
        exact absurd hc (by decide)
    exact .inr ⟨g2, cap2, cur2, e2, h2, (sw_other _ _ _ _ _ _ _ (Array.getElem?_eq_some_iff.1 h3).1 hne).trans h3, h4⟩
/-- What the sort asks of the row. -/
theorem holdsK_row {α : Type} [Inhabited α] (f : α → Pr) (w : World) (B g cap : Nat) (d : Array α) (hr : w.ownsRow B 24 4 (.slice (some ⟨g, 0, none⟩) d.size cap) d.size (encs (d.toList.map f))) :
    Go.Sort.HoldsK (fun x => encP (f x)) 4 w g 0 d := by
  intro j hj
  rw [flat_encs] at hj ⊢
  have hj' : j < (encs (d.toList.map f)).length := by simpa using hj
  have hget : (encs (d.toList.map f))[j]? = some (encs (d.toList.map f)).toArray[j]! := by
    rw [List.getElem?_eq_getElem hj', getElem!_pos (encs (d.toList.map f)).toArray j hj]; simp
  refine ⟨by rw [Nat.zero_add]; exact own_cell hr hget, by rw [Nat.zero_add]; exact hr.frozenAt j⟩
end Go.Proofs.Ytapdkdfgjjdbkaa
