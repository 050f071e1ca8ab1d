/-
  RegexSyms: mathematics of the law.
-/
import Derived.Test.YtjgddkbpfpgaoafDoorRRSyms
namespace Go.Proofs.YtjgddkbpfpgaoafDoor
open Go.ChangeShapes Go.WideShapes Go.ChangeAt Go.RowKit

theorem cutB_twice (s : ByteArray) (m : Nat) : cutB (cutB s m) m = cutB s m := by
  have h := cutB_size s m
  generalize cutB s m = t at *
  simp [cutB, show ¬ m < t.size by omega]
/-- Somewhat cut twice is somewhat cut once. -/
theorem few_few : ∀ (d : Nat) (r : Rx), Rx.few d (Rx.few d r) = Rx.few d r
  | 0, r => by
    show Rx.mk r.k (cutB (cutB r.s 32) 32) r.b [] = Rx.mk r.k (cutB r.s 32) r.b []
    rw [cutB_twice]
  | d + 1, r => by
    show Rx.mk r.k (cutB (cutB r.s 32) 32) r.b ((((r.ps.take 3).map (Rx.few d)).take 3).map (Rx.few d)) = Rx.mk r.k (cutB r.s 32) r.b ((r.ps.take 3).map (Rx.few d))
    rw [cutB_twice, List.take_of_length_le (by simp; omega), List.map_map]
    congr 1
    refine List.map_congr_left fun x _ => ?_
    exact few_few d x
theorem nodesL_le {b : Nat} : ∀ l : List Rx, (∀ x ∈ l, x.nodes ≤ b) → nodesL l ≤ l.length * b
  | [], _ => by simp [nodesL]
  | x :: l, h => by
    have h1 := nodesL_le l fun y hy => h y (List.mem_cons_of_mem _ hy)
    have h2 := h x List.mem_cons_self
    simp only [nodesL, List.length_cons, Nat.add_mul, Nat.one_mul]; omega
theorem few_nodes_step {d b : Nat} (h : ∀ r : Rx, (Rx.few d r).nodes ≤ b) (r : Rx) : (Rx.few (d + 1) r).nodes ≤ 3 * b + 1 := by
  show (Rx.mk r.k (cutB r.s 32) r.b ((r.ps.take 3).map (Rx.few d))).nodes ≤ _
  rw [nodes_eq]
  have h1 := nodesL_le (b := b) ((r.ps.take 3).map (Rx.few d)) fun x hx => by
    obtain ⟨y, _, rfl⟩ := List.mem_map.1 hx
    exact h y
  have h2 : ((r.ps.take 3).map (Rx.few d)).length ≤ 3 := by simp; omega
  have h3 := Nat.mul_le_mul_right b h2
  show nodesL ((r.ps.take 3).map (Rx.few d)) + 1 ≤ _
  omega
/-- An expression somewhat cut has 40 parts at most. -/
theorem few_nodes (r : Rx) : (Rx.few 3 r).nodes ≤ 40 :=
  few_nodes_step (d := 2) (b := 13) (few_nodes_step (d := 1) (b := 4) (few_nodes_step (d := 0) (b := 1) fun r => by
    show (Rx.mk r.k (cutB r.s 32) r.b []).nodes ≤ 1
    rw [nodes_eq]
    exact Nat.le_refl _)) r
/-- Both answers are one list. -/
theorem one_answer {r : Rx} {L' L : List Sy} (hp : L'.Perm r.syms) (hs : ∀ i j, i < j → j < L'.length → ¬ sycmp (L'.getD j sy0) (L'.getD i sy0) < 0) (hL : Strict L) (hm : ∀ y, y ∈ L ↔ y ∈ r.syms) : cpt L' = L := by
  obtain ⟨h1, h2⟩ := cpt_strict L' hs L'.length (Nat.le_refl _)
  rw [List.take_length] at h1 h2
  exact Strict.same h1 hL fun x => by rw [h2, hm, hp.mem_iff]
end Go.Proofs.YtjgddkbpfpgaoafDoor
/-
  RegexSyms: the law.
-/
namespace Go.Proofs.YtjgddkbpfpgaoafDoor
open Go.ChangeShapes Go.WideShapes Go.ChangeAt Go.RowKit

set_option maxHeartbeats 6400000 in
set_option maxRecDepth 100000 in
theorem law_c {D : Nat} {ok : Nat → Prop} (v : RxV) (r : Rx) (w : World) (hv : HeldX ok w D v r) (hlives : ∀ x, GoX.Calm w x → Calls Tryd.prog 7 #[] x fun e w' => e = .returned (.bool true) ∧ GoX.Calm x w') :
    Calls Tryd.prog 3 #[.agg #[.int .i64 v.k, .string v.s, .bool v.b, .slice v.a v.n v.c]] w fun e w' => e = .returned (.bool true) ∧ GoX.Calm w w' := by
  obtain ⟨w1, hw1⟩ : ∃ w1, Hid (w1 = w.alloc (.cells #[.int .i64 v.k, .string v.s, .bool v.b, .slice v.a v.n v.c] TX)) := ⟨_, hidden rfl⟩
  have hB1 : Below w.heap.size w w1 := by rw [hw1.out]; exact (Below.refl _ _).alloc (Nat.le_refl _) _
  have hs1 : w1.heap.size = w.heap.size + 1 := by rw [hw1.out]; simp
  have hX : w1.heap[w.heap.size]? = some (Obj.cells #[.int .i64 v.k, .string v.s, .bool v.b, .slice v.a v.n v.c] TX) := by rw [hw1.out]; exact heap_alloc_new _ _
  have hfew := rxFew_c (hv.below hB1)
  obtain ⟨⟨x0, x1, x2, x3⟩, -⟩ := box4f hX
  replace hlives := hidden hlives
  replace hB1 := hidden hB1
  replace hX := hidden hX
  replace hs1 := hidden hs1
  clear hv
  go_enter Tryd.func3, Tryd.ntmps3
  go_wp2_with (go_at_call 4; rw [← hw1.out]; refine hfew.mono ?_; rintro e z ⟨⟨k1, s1, b1, a1, n1, c1⟩, rfl, hH, hBz⟩; have hz := blk_below hX.out hBz; obtain ⟨⟨e0, e1, e2, e3⟩, f0, f1, f2, f3⟩ := box4f hz)
  obtain ⟨x, hx⟩ : ∃ x, Hid (x = (((z.setCell ⟨w.heap.size, 0, none⟩ (.int .i64 k1)).setCell ⟨w.heap.size, 1, none⟩ (.string s1)).setCell ⟨w.heap.size, 2, none⟩ (.bool b1)).setCell ⟨w.heap.size, 3, none⟩ (.slice a1 n1 c1)) := ⟨_, hidden rfl⟩
  have hbox : x.heap[w.heap.size]? = some (.cells #[.int .i64 k1, .string s1, .bool b1, .slice a1 n1 c1] TX) := by
    have h := heap_setX (heap_setX (heap_setX (heap_setX hz 0 (.int .i64 k1)) 1 (.string s1)) 2 (.bool b1)) 3 (.slice a1 n1 c1)
    rw [hx.out]
    simpa using h
  have hBx : Hid (Below w.heap.size w x) := by
    show Below ..
    rw [hx.out]
    have hBz' := hB1.out.trans (hBz.mono hB1.out.size)
    exact (((hBz'.setCell (p := ⟨w.heap.size, 0, none⟩) (Nat.le_refl _) _).setCell (p := ⟨w.heap.size, 1, none⟩) (Nat.le_refl _) _).setCell (p := ⟨w.heap.size, 2, none⟩) (Nat.le_refl _) _).setCell (p := ⟨w.heap.size, 3, none⟩) (Nat.le_refl _) _
  have hHx : Hid (HeldX (fun _ => True) x 4 ⟨k1, s1, b1, a1, n1, c1⟩ (r.few 3)) := by
    show HeldX ..
    rw [hx.out]
    exact hH.kept fun b h1 h2 => ⟨trivial, by simpa [World.setCell] using h2, by have := hs1.out; rw [heap_oX (show w.heap.size ≠ b by omega), heap_oX (show w.heap.size ≠ b by omega), heap_oX (show w.heap.size ≠ b by omega), heap_oX (show w.heap.size ≠ b by omega)]⟩
  clear hz hH hBz hfew x0 x1 x2 x3 hw1 e0 e1 e2 e3 f0 f1 f2 f3
  replace hbox := hidden hbox
  rw [← hx.out]
  clear hx
  obtain ⟨⟨x0, x1, x2, x3⟩, -⟩ := box4f hbox.out
  have hF2 : Rx.few 3 (Rx.few 3 r) = Rx.few 3 r := few_few 3 r
  obtain ⟨r4, hr4⟩ : ∃ r4, r4 = Rx.few 3 r := ⟨_, rfl⟩
  rw [← hr4] at hHx hF2
  have hn4 : Hid (r4.nodes ≤ 1000) := by show _ ≤ _; rw [hr4]; have := few_nodes r; omega
  clear hr4
  replace hF2 := hidden hF2
  have hc1 := fun (y : World) (hy : Below x.heap.size x y) => rxFew_c (hHx.out.below hy)
  have hc2 := fun (y : World) (q : RxV) (hq : HeldX (fun b => b < y.heap.size) y 4 q r4) => syms_c y.heap.size 4 q r4 y hq (Nat.le_refl _) hn4.out
  have hc3 := fun (y : World) (hy : Below x.heap.size x y) => rsyms_c 4 _ _ r4 y (hHx.out.below hy) hn4.out
  simp only at hc1 hc3
  rw [hF2.out] at hc1
  replace hc1 := hidden hc1
  replace hc2 := hidden hc2
  replace hc3 := hidden hc3
  have kk := hidden (Below.refl x.heap.size x).drew
  go_region_held3 (fun z => z.cell? ⟨w.heap.size, 0, none⟩ = some (.int .i64 k1) ∧ z.cell? ⟨w.heap.size, 1, none⟩ = some (.string s1) ∧ z.cell? ⟨w.heap.size, 2, none⟩ = some (.bool b1) ∧ z.cell? ⟨w.heap.size, 3, none⟩ = some (.slice a1 n1 c1)) (go_keep) (first
    | (go_at_call 4; refine (hc1.out _ kk.out).mono ?_; rintro e za ⟨⟨k2, s2, b2, a2, n2, c2⟩, rfl, hH2, hBa⟩
       have kk := hidden (kk.out.trans (hBa.mono kk.out.size))
       have hH3 := hidden (hH2.weak (ok' := fun b => b < za.heap.size) fun b _ h => h)
       have kf := hidden (Below.refl za.heap.size za)
       obtain ⟨⟨p0, p1, p2, p3⟩, -⟩ := box4f (blk_below hbox.out kk.out))
    | (go_at_call 5; refine (hc2.out _ ⟨k2, s2, b2, a2, n2, c2⟩ ((hH3.out.below kf.out).weak (fun b h _ => Nat.lt_of_lt_of_le h kf.out.size))).mono ?_; rintro e zs ⟨sa, sn, sc, rfl, hSy⟩
       have kk := hidden (kk.out.trans (hSy.below.mono kk.out.size))
       first | have kr := hidden (kr.out.trans (hSy.below.mono kr.out.size)) | skip
       have ks := hidden (Below.refl zs.heap.size zs)
       have hSy := hidden hSy.is
       obtain ⟨⟨q0, q1, q2, q3⟩, -⟩ := box4f (blk_below hbox.out kk.out))
    | (go_at_call 6; refine (hc3.out _ kk.out).mono ?_; rintro e zr ⟨rg, ro, rc, L, rfl, hRL⟩
       have kk := hidden (kk.out.trans (hRL.below.mono kk.out.size))
       first | have kf := hidden (kf.out.trans (hRL.below.mono kf.out.size)) | skip
       first | have ks := hidden (ks.out.trans (hRL.below.mono ks.out.size)) | skip
       have kr := hidden (Below.refl zr.heap.size zr)
       have hRL := hidden (And.intro hRL.sl (And.intro hRL.strict (And.intro hRL.mem hRL.len)))
       obtain ⟨⟨t0, t1, t2, t3⟩, -⟩ := box4f (blk_below hbox.out kk.out))
    | fail)
  all_goals
    obtain ⟨L', hn', hrow, hperm, hso⟩ := hSy.out
    obtain ⟨hsl, hstr, hmem, hlen⟩ := hRL.out
    have hone := one_answer hperm (fun i j h1 h2 => by have := hso i j h1 h2; omega) hstr hmem
    rw [hone] at hn' hrow
    subst hn'
    have hRow := hidden (hrow.calm (.of_below ks.out))
    have hSl := hidden (hsl.below kr.out)
    have hCalm := hidden (GoX.Calm.of_below (hBx.out.trans (kk.out.mono hBx.out.size)))
    have hL1 : L.length ≤ 1000 := by have := hn4.out; omega
    clear hSy hRL hone hrow hsl hstr hmem hlen hperm hso ks kr kk kf hc1 hc2 hc3 x0 x1 x2 x3 p0 p1 p2 p3 q0 q1 q2 q3 t0 t1 t2 t3
    obtain ⟨n, hn⟩ : ∃ n, n = L.length := ⟨_, rfl⟩
    rw [← hn] at hL1 ⊢
    replace hn := hidden hn
    go_wp2_with fail
    go_loopw [5] (fun iv x => ∃ i : Nat, iv = .int .i64 i ∧ i ≤ n ∧ Hid (RowAt x sa (syR.flat L)) ∧ Hid (SlS x rg ro rc L) ∧ Hid (GoX.Calm w x)) (fun iv _ => n - (intOf iv).toNat)
    case atStart => exact ⟨0, rfl, Nat.zero_le _, hRow, hSl, hCalm⟩
    case round =>
      clear hRow hSl hCalm
      obtain ⟨i, rfl, hi, hRow, hSl, hCalm⟩ := hrel
      by_cases hlt : i < n
      · have hlt' : (i : Int) < (n : Int) := by omega
        obtain ⟨b, off, rfl, hb, hc⟩ := rec_at hRow.out (k := i) (by rw [← hn.out]; exact hlt)
        obtain ⟨d0, d1⟩ := hSl.out.at2 (k := i) (by rw [← hn.out]; exact hlt)
        have c0 := hc 0 _ rfl
        have c1 := hc 1 _ rfl
        change wr.cell? ⟨b, off + i * 2 + 0, none⟩ = some (.string (L.getD i sy0).1) at c0
        change wr.cell? ⟨b, off + i * 2 + 1, none⟩ = some (.bool (L.getD i sy0).2) at c1
        rw [Nat.add_zero] at c0
        have hB := Below.refl wr.heap.size wr
        have hR2 := hidden (hRow.out.calm (.of_below hB.drew))
        have hS2 := hidden (hSl.out.below hB.drew)
        have hC2 := hidden (hCalm.out.trans (GoX.Calm.of_below hB.drew))
        clear hc hRow hSl hCalm hB
        generalize L.getD i sy0 = y at *
        obtain ⟨a, p⟩ := y
        simp only at c0 c1 d0 d1
        go_wp2_with fail
        go_region
        all_goals
          go_wp2
          go_roundw
          case rel => exact ⟨i + 1, by go_num, by omega, hR2, hS2, hC2⟩
          case measure => simp [intOf]; omega
      · have hlt' : ¬ (i : Int) < (n : Int) := by omega
        have hlv := hlives.out wr hCalm.out
        clear hRow hSl
        go_wp2_with fail
        refine hlv.mono ?_
        rintro e z ⟨rfl, hC⟩
        have hCf := hidden (hCalm.out.trans hC)
        go_wp2
        go_ret
        exact ⟨rfl, hCf.out⟩
end Go.Proofs.YtjgddkbpfpgaoafDoor
