/-
  CALLS THAT LEAVE WHAT LAY: what they hand on. No function is named here.
-/
import Derived.Test.YtapdkdfgjjdbkaaSl
import Derived.Test.YtapdkdfgjjdbkaaXCodeG
import Derived.Test.YtapdkdfgjjdbkaaHPop0
namespace Go.Proofs.Ytapdkdfgjjdbkaa
open Go.ChangeShapes Go.WideShapes Go.ChangeAt Go.RowKit

theorem hidden {p : Prop} (h : p) : Hid p := h
theorem RowAt.calm {w w' : World} {a : Option Addr} {xs : List Value} (h : RowAt w a xs) (hc : GoX.Calm w w') : RowAt w' a xs := by
  rcases h with h | ⟨b, off, h1, h2, h3⟩
  · exact .inl h
  · refine .inr ⟨b, off, h1, Nat.lt_of_lt_of_le h2 hc.size, fun j u hj => ?_⟩
    have := h3 j u hj
    unfold World.cell? at this ⊢
    simp only at this ⊢
    rw [hc.block b h2]
    exact this
theorem Holds.calm {w w' : World} {v : Value} {xs : List Value} (h : Holds w v xs) (hc : GoX.Calm w w') : Holds w' v xs := by
  obtain ⟨a, cap, h1, h2⟩ := h
  exact ⟨a, cap, h1, h2.calm hc⟩
theorem calm_alloc (w : World) (o : Obj) : GoX.Calm w (w.alloc o) := .of_below ((Below.refl _ _).alloc (Nat.le_refl _) _)
theorem calm_set {w w' : World} (h : GoX.Calm w w') {b off : Nat} (hb : w.heap.size ≤ b) (v : Value) : GoX.Calm w (w'.setCell ⟨b, off, none⟩ v) := by
  have hk : ∀ k, k < w.heap.size → (w'.setCell ⟨b, off, none⟩ v).heap[k]? = w.heap[k]? := fun k hk => by
    have hne : b ≠ k := by omega
    rw [← h.block k hk]
    simp [World.setCell, Array.getElem?_modify, hne]
  refine ⟨⟨h.kept.1, h.kept.2.1, fun i hi => ?_⟩, fun a ha => ?_, by simpa [World.setCell] using h.size, hk⟩
  · rw [hk i hi]
    cases hx : w.heap[i]? with
    | none => rfl
    | some o =>
      cases o with
      | cells c t fr => exact ⟨rfl, rfl, rfl, fun _ _ => rfl⟩
      | map es clock => exact .inr ⟨rfl, rfl⟩
      | _ => rfl
  · unfold World.frozen?
    rw [hk a.block ha]
end Go.Proofs.Ytapdkdfgjjdbkaa
/-
  HeapSorts' OWN LAW: all that is popped is all that was pushed, in order.
-/
namespace Go.Proofs.Ytapdkdfgjjdbkaa
open Go.ChangeShapes Go.WideShapes Go.ChangeAt Go.RowKit

/-- Items that lie beside a heap. -/
structure XR (xv : Value) (ds : List Pr) (g : Nat) (y : World) : Prop where
  row : y.ownsRow 0 24 4 xv ds.length (encs ds)
  rows : Rows1 y ds
  ne : xv.ownBlock ≠ some g
theorem XR.step {xv : Value} {ds : List Pr} {g : Nat} {y z : World} (h : XR xv ds g y) (hB : Below y.heap.size y z) : XR xv ds g z := ⟨owns_keep h.row hB, h.rows.below hB, h.ne⟩
theorem XR.turned {xv : Value} {ds : List Pr} {g g' b : Nat} {cb cg : Array Value} {y z : World} (h : XR xv ds g y) (hS : Save2 b g y z) (hb : y.heap[b]? = some (.cells cb 47)) (hg : y.heap[g]? = some (.cells cg 24)) (hg' : g' = g ∨ y.heap.size ≤ g') : XR xv ds g' z :=
  ⟨own_save2 h.row hS (row_ne h.row hb (by decide)) h.ne, h.rows.save2 hS hb hg, fun e => by
    rcases hg' with e' | e'
    · rw [e'] at e; exact h.ne e
    · have := (h.row.lt _ e).2; omega⟩
theorem XR.at {xa : Option Addr} {xc : Nat} {ds : List Pr} {g : Nat} {y : World} (h : XR (.slice xa ds.length xc) ds g y) {k : Nat} (hk : k < ds.length) : ∃ b o, xa = some ⟨b, o, none⟩ ∧ y.cell? ⟨b, o + k * 4, none⟩ = some (.int .i64 (ds.getD k pr0).1.c) ∧ y.cell? ⟨b, o + k * 4 + 1, none⟩ = some (ds.getD k pr0).2 ∧ y.cell? ⟨b, o + k * 4 + 2, none⟩ = some (.int .i64 (ds.getD k pr0).1.p) ∧ y.cell? ⟨b, o + k * 4 + 3, none⟩ = some (.int .i64 (ds.getD k pr0).1.r) := by
  obtain ⟨a, cap, he, hc, _⟩ := rowP_of h.row h.rows.rowed
  simp only [Value.slice.injEq] at he
  obtain ⟨rfl, _, _⟩ := he
  rcases hc with rfl | ⟨b, o, rfl, _, hc⟩
  · simp at hk
  · have hg : ds[k]? = some (ds.getD k pr0) := by simp [List.getD, hk]
    obtain ⟨c0, c1, c2, c3⟩ := hc k _ hg
    exact ⟨b, o, rfl, c0, c1, c2, c3⟩
theorem few_same {t : It} {m : Nat} (h : t.few 5 = t) (hm : m = 5) : t.few m = t := by rw [hm]; exact h
/-- While items are pushed. -/
def S1 (B b : Nat) (xv : Value) (ds : List Pr) (w y : World) (k : Nat) (l : Value) : Prop :=
  ∃ g cap L g2 cap2 es, l = .slice (some ⟨g2, 0, none⟩) k cap2 ∧ es.length = k ∧ HR B b g cap L g2 0 cap2 es (es.map (·.1)) w y ∧ XR xv ds g y
theorem HR.again {B b g cap : Nat} {L : List Pr} {g2 og cap2 : Nat} {es : List Pr} {zs zs' : List It} {w y : World} (h : HR B b g cap L g2 og cap2 es zs w y) (hp : zs.Perm zs') : HR B b g cap L g2 og cap2 es zs' w y :=
  ⟨h.heap, h.up, h.hp.trans hp, h.ref, h.sort, h.ne, h.rows, fun z hz => h.len z (hp.mem_iff.2 hz), h.below, h.base⟩
set_option maxHeartbeats 6400000 in
set_option maxRecDepth 1000000 in
theorem sorts_law (v : Value) (ys : List It) (w : World) (hv : HoldsIL w v ys) (hz : ys.length ≤ 9223372036854775807) (hzz : ∀ y ∈ ys, y.l.length ≤ 9223372036854775807)
    (hlv : ∀ x, Calls Try.prog 12 #[] x fun e w' => e = .returned (.bool true) ∧ GoX.Calm x w') :
    Calls Try.prog 4 #[v] w fun e w' => e = .returned (.bool true) ∧ GoX.Calm w w' := by
  obtain ⟨a0, c0, hv0, hvr⟩ := id hv
  have hnew := new_c (.slice none 0 0) [] w ⟨none, 0, rfl, .inl rfl, fun p hp => by cases hp⟩ (by simp) (fun p hp => by cases hp)
  have hits := fun x (hx : Below w.heap.size w x) => items_c v ys 30 x (hv.below hx) hz hzz (by omega)
  subst hv0
  generalize hyl : ys.length = yn at *
  clear hv hvr hz hzz hyl
  go_enter Try.func4, Try.ntmps4
  go_wp2_with fail
  refine hnew.mono ?_
  rintro e w1 ⟨b, zs, rfl, hH, hp, -, hB⟩
  obtain rfl : zs = [] := by simpa using hp
  obtain ⟨g, cap, L, hL, hLm⟩ := HeapL.of hH
  obtain rfl : L = [] := by simpa using hLm
  obtain ⟨w2, hw2⟩ : ∃ w2, Hid (w2 = w1.alloc (.cells #[] 24)) := ⟨_, hiddenI rfl⟩
  have hB1 : Below w1.heap.size w1 w2 := by rw [hw2.out]; exact (Below.refl _ _).alloc (Nat.le_refl _) _
  have hXn : w2.heap[w1.heap.size]? = some (.cells #[] 24) := by rw [hw2.out]; exact heap_alloc_new _ _
  have hB2 : Below w.heap.size w w2 := hB.trans (hB1.mono hB.size)
  have hi := hits w2 hB2
  have hHR : Hid (HR w.heap.size b g cap [] w1.heap.size 0 0 [] [] w w2) := by
    obtain ⟨cur, hc⟩ := hL.block
    have h1 := (Array.getElem?_eq_some_iff.1 hc).1
    exact ⟨hL.step hB1, fun j h1 h2 => by simp at h2, List.Perm.refl _, ⟨Nat.le_refl _, ⟨_, hXn⟩, fun j u hj => by simp [encs] at hj⟩, List.Pairwise.nil, by omega, (fun p hp => by cases hp), (fun z hz => by cases hz), hB2, Nat.le_refl _⟩
  clear hnew hits hH hp hL hLm hB hB1 hXn hB2
  go_wp2_with fail
  rw [← hw2.out]
  refine hi.mono ?_
  rintro e w3 ⟨xv, rfl, xs, hown, hits, hB3⟩
  obtain ⟨ds, hds, rfl, hdr⟩ := its_ds hits
  have hdn : (ys.take 30).length = ds.length := by have := congrArg List.length hds; simp at this; simp; omega
  rw [hdn] at hown
  have hd30 : ds.length ≤ 30 := by rw [← hdn]; simp; omega
  have hfew : Hid (∀ p ∈ ds, p.1.few 5 = p.1 ∧ p.1.l.length ≤ 1000) := fun p hp => by
    have hm : p.1 ∈ ds.map (·.1) := List.mem_map_of_mem hp
    rw [hds] at hm
    obtain ⟨q, _, hq⟩ := List.mem_map.1 hm
    rw [← hq]
    refine ⟨by simp [It.few, List.take_take], ?_⟩
    simp [It.few]; omega
  have hS1 : Hid (S1 w.heap.size b xv ds w w3 0 (.slice (some ⟨w1.heap.size, 0, none⟩) 0 0)) := by
    refine ⟨g, cap, [], w1.heap.size, 0, [], rfl, rfl, hHR.out.step hB3, owns_base hown (Nat.zero_le _), fun p hp => ⟨hdr p hp, (hfew.out p hp).2⟩, fun e => ?_⟩
    have h1 := (hown.lt _ e).1
    obtain ⟨cur, hc⟩ := hHR.out.heap.block
    have h2 := (Array.getElem?_eq_some_iff.1 hc).1
    omega
  obtain ⟨xa, xc, rfl⟩ : ∃ a c, xv = .slice a ds.length c := by
    rcases hown.2 with ⟨rfl, h0⟩ | ⟨g, cap, cur, rfl, _⟩
    · exact ⟨_, _, by rw [show ds.length = 0 from h0]⟩
    · exact ⟨_, _, rfl⟩
  clear hown hits hdr hHR hB3 hi hdn hds hw2
  go_wp2_with fail
  go_loopw [4, 6] (fun l i y => ∃ k : Nat, k ≤ ds.length ∧ i = .int .i64 k ∧ Hid (S1 w.heap.size b (.slice xa ds.length xc) ds w y k l)) (fun _ i _ => ds.length - (intOf i).toNat)
  case atStart => exact ⟨0, Nat.zero_le _, rfl, hS1⟩
  case round =>
    clear hS1
    obtain ⟨k, hk, rfl, hS⟩ := hrel
    obtain ⟨g, cap, L, g2, cap2, es, rfl, rfl, hHR, hXR⟩ := hS.out
    by_cases hlt : es.length < ds.length
    · have hlt' : (es.length : Int) < (ds.length : Int) := by omega
      obtain ⟨bx, ox, rfl, x0, x1, x2, x3⟩ := hXR.at hlt
      have hpd : ds.getD es.length pr0 ∈ ds := getD_mem hlt
      obtain ⟨hf1, hf2⟩ := hfew.out _ hpd
      obtain ⟨hr1, -⟩ := hXR.rows _ hpd
      generalize hT : ds.getD es.length pr0 = T at *
      obtain ⟨t, tv⟩ := T
      simp only at x0 x1 x2 x3 hf1 hf2 hr1
      have hitem := itemO_c t tv wr (holds_of_owns hr1) (by omega)
      rw [hf1] at hitem
      simp only [itV] at hitem
      have hHRh := hiddenI hHR
      have hXRh := hiddenI hXR
      replace hT := hiddenI hT
      replace hf1 := hiddenI hf1
      replace hr1 := hiddenI hr1
      replace hpd := hiddenI hpd
      clear hS hHR hXR
      go_wp2_with fail
      refine hitem.mono ?_
      rintro e y1 ⟨nv, rfl, hnv, hB1⟩
      have hH1 := hHRh.out.step hB1
      have hX1 := hXRh.out.step hB1
      have hpush := hH1.pushing t nv (sl_of_owns hnv) hf2 (by rw [List.length_map]; omega)
      have hbox1 := hiddenI hH1.heap.box
      have hblk1 := hiddenI hH1.heap.block
      replace hX1 := hiddenI hX1
      clear hitem hnv hB1 hHRh hXRh hH1 x0 x1 x2 x3
      simp only [itV] at hpush
      go_wp2_with fail
      refine hpush.mono ?_
      rintro e y2 ⟨rfl, ⟨g', cap', L', hH2, hg'⟩, hS2⟩
      obtain ⟨cur, hcur⟩ := hblk1.out
      have hX2 := hX1.out.turned hS2 hbox1.out hcur hg'
      obtain ⟨bx', ox', hbx, x0, x1, x2, x3⟩ := hX2.at hlt
      rw [hT.out] at x0 x1 x2 x3
      simp only [Option.some.injEq, Addr.mk.injEq, and_true] at hbx
      obtain ⟨rfl, rfl⟩ := hbx
      have hr2 := (hX2.rows _ hpd.out).1
      have hrp := hH2.rpushing t tv hr2 hf2 (by omega)
      simp only [itV] at hrp
      have hX2h := hiddenI hX2
      clear hpush hH2 hS2 hg' hX2 hcur hX1 hbox1 hblk1 hr2
      go_wp2_with fail
      refine hrp.mono ?_
      rintro e y3 ⟨g3, cap3, rfl, ⟨es', hes', hpe, hH3⟩, hB3⟩
      have hfin : Hid (S1 w.heap.size b (.slice (some ⟨bx, ox, none⟩) ds.length xc) ds w y3 (es.length + 1) (.slice (some ⟨g3, 0, none⟩) (es.length + 1) cap3)) := ⟨g', cap', L', g3, cap3, es', rfl, hes', hH3.again hpe.symm, hX2h.out.step hB3⟩
      clear hrp hpe hH3 hB3 hX2h hes' x0 x1 x2 x3
      go_wp2
      go_roundw
      case rel => exact ⟨es.length + 1, by omega, by go_num, hfin⟩
      case measure => simp [intOf]; omega
    · have hlt' : ¬ (es.length : Int) < (ds.length : Int) := by omega
      have hHRh := hiddenI hHR
      clear hS hHR hXR hlt
      go_wp2_with fail
      go_loopw [7] (fun i y => ∃ k : Nat, k ≤ es.length ∧ i = .int .i64 k ∧ ∃ L', Hid (HR w.heap.size b g cap L' g2 0 cap2 es ((es.map (·.1)).drop k) w y)) (fun i _ => es.length - (intOf i).toNat)
      case atStart => exact ⟨0, Nat.zero_le _, rfl, L, by rw [List.drop_zero]; exact hHRh⟩
      case round =>
        clear hHRh
        obtain ⟨k, hk2, rfl, L', hR⟩ := hrel
        by_cases hke : k < es.length
        · have hke' : (k : Int) < (es.length : Int) := by omega
          have hdr : (es.map (·.1)).drop k = (es.getD k pr0).1 :: (es.map (·.1)).drop (k + 1) := by
            rw [List.drop_eq_getElem_cons (by simpa using hke)]
            congr 1
            simp [List.getD, hke]
          have hsrt := hR.out.sort.sublist (List.drop_sublist k _)
          rw [hdr] at hR hsrt
          have hpop := hR.out.popping hsrt (by simp; omega)
          have htm := hR.out.rows _ (getD_mem hke)
          generalize hT : es.getD k pr0 = T at *
          obtain ⟨t, tv⟩ := T
          simp only at hpop htm
          obtain ⟨-, ht⟩ := htm
          have hR0 := hiddenI (fun (z : World) (L2 : List Pr) (h : HR w.heap.size b g cap L2 g2 0 cap2 es ((es.map (·.1)).drop (k + 1)) w z) => (⟨h.ref.at4 hke, (h.rows _ (getD_mem hke)).1⟩ : _ ∧ _))
          rw [hT] at hR0
          simp only [Nat.zero_add] at hR0
          simp only [itV] at hpop
          clear hR hdr hsrt hT
          go_wp2_with fail
          refine hpop.mono ?_
          rintro e y1 ⟨⟨nv, rfl, hnv⟩, ⟨L2, hH2⟩, -⟩
          obtain ⟨na, nm, nc, rfl⟩ := own_slice hnv
          obtain ⟨y2, hy2⟩ : ∃ y2, Hid (y2 = y1.alloc (.cells #[.int .i64 t.c, .slice na nm nc, .int .i64 t.p, .int .i64 t.r] 24)) := ⟨_, hiddenI rfl⟩
          have hB2 : Below y1.heap.size y1 y2 := by rw [hy2.out]; exact (Below.refl _ _).alloc (Nat.le_refl _) _
          have hX2 : y2.heap[y1.heap.size]? = some (.cells #[.int .i64 t.c, .slice na nm nc, .int .i64 t.p, .int .i64 t.r] 24) := by rw [hy2.out]; exact heap_alloc_new _ _
          obtain ⟨⟨p0, p1, p2, p3⟩, -⟩ := box4 hX2
          have hH3 := hH2.step hB2
          obtain ⟨⟨q0, q1, q2, q3⟩, hto⟩ := hR0.out y2 L2 hH3
          have hkk : Keeps y2 (pushed2 y1.heap.size g2 (k * 4) t t (.slice na nm nc) tv) y2.drew := by
            refine Keeps.drew ⟨Below.refl _ _, fun p hp => ?_⟩
            simp only [pushed2, List.mem_cons, List.not_mem_nil, or_false] at hp
            rcases hp with rfl | rfl | rfl | rfl | rfl | rfl | rfl | rfl <;> assumption
          have hnh := (holds_of_owns hnv).below hB2
          have hth := holds_of_owns hto
          have hcall : ∀ z : In (Keeps y2 (pushed2 y1.heap.size g2 (k * 4) t t (.slice na nm nc) tv)), Calls Try.prog 16 #[itV t (.slice na nm nc), itV t tv] z.w fun e w'' => e = .returned (.int .i64 (icmp t t)) ∧ ∃ u : In (Keeps y2 (pushed2 y1.heap.size g2 (k * 4) t t (.slice na nm nc) tv)), w'' = u.w :=
            fun z => later_of ((rorder_c t t (.slice na nm nc) tv z.w (hnh.below z.h.1) (hth.below z.h.1) (by omega) (by omega)).mono fun _ _ ⟨he, hb⟩ => ⟨he, z.h.below hb⟩)
          rw [icmp_self] at hcall
          obtain ⟨tc, tl, tp, tr⟩ := t
          simp only [itV] at hcall
          have hH3h := hiddenI hH3
          clear hpop hnv hH2 hB2 hX2 hH3 q0 q1 q2 q3 hto hnh hth hR0
          have f0 : ∀ z : In (Keeps y2 (pushed2 y1.heap.size g2 (k * 4) ⟨tc, tl, tp, tr⟩ ⟨tc, tl, tp, tr⟩ (.slice na nm nc) tv)), _ := Keeps.at 0 rfl
          have f1 : ∀ z : In (Keeps y2 (pushed2 y1.heap.size g2 (k * 4) ⟨tc, tl, tp, tr⟩ ⟨tc, tl, tp, tr⟩ (.slice na nm nc) tv)), _ := Keeps.at 1 rfl
          have f2 : ∀ z : In (Keeps y2 (pushed2 y1.heap.size g2 (k * 4) ⟨tc, tl, tp, tr⟩ ⟨tc, tl, tp, tr⟩ (.slice na nm nc) tv)), _ := Keeps.at 2 rfl
          have f3 : ∀ z : In (Keeps y2 (pushed2 y1.heap.size g2 (k * 4) ⟨tc, tl, tp, tr⟩ ⟨tc, tl, tp, tr⟩ (.slice na nm nc) tv)), _ := Keeps.at 3 rfl
          have f4 : ∀ z : In (Keeps y2 (pushed2 y1.heap.size g2 (k * 4) ⟨tc, tl, tp, tr⟩ ⟨tc, tl, tp, tr⟩ (.slice na nm nc) tv)), _ := Keeps.at 4 rfl
          have f5 : ∀ z : In (Keeps y2 (pushed2 y1.heap.size g2 (k * 4) ⟨tc, tl, tp, tr⟩ ⟨tc, tl, tp, tr⟩ (.slice na nm nc) tv)), _ := Keeps.at 5 rfl
          have f6 : ∀ z : In (Keeps y2 (pushed2 y1.heap.size g2 (k * 4) ⟨tc, tl, tp, tr⟩ ⟨tc, tl, tp, tr⟩ (.slice na nm nc) tv)), _ := Keeps.at 6 rfl
          have f7 : ∀ z : In (Keeps y2 (pushed2 y1.heap.size g2 (k * 4) ⟨tc, tl, tp, tr⟩ ⟨tc, tl, tp, tr⟩ (.slice na nm nc) tv)), _ := Keeps.at 7 rfl
          dsimp only at f0 f1 f2 f3 f4 f5 f6 f7
          generalize pushed2 y1.heap.size g2 (k * 4) ⟨tc, tl, tp, tr⟩ ⟨tc, tl, tp, tr⟩ (.slice na nm nc) tv = F at *
          go_wp2_with fail
          rw [← hy2.out]
          refine wp_region_later (Keeps y2 F) (by kernel_rfl) (by kernel_rfl) hkk (fun hne => ?_)
          repeat (go_big_quiet_step (exact hcall _))
          refine wpQuiet_nil ?_
          intro wL hL
          have hfin := hiddenI (hH3h.out.step hL.1)
          clear f0 f1 f2 f3 f4 f5 f6 f7 hkk hcall hL hH3h hy2 p0 p1 p2 p3
          go_wp2
          go_roundw
          case rel => exact ⟨k + 1, by omega, by go_num, L2, hfin⟩
          case measure => simp [intOf]; omega
        · have hke' : ¬ (k : Int) < (es.length : Int) := by omega
          obtain rfl : k = es.length := by omega
          rw [List.drop_of_length_le (by simp)] at hR
          have hL0 : L'.length = 0 := hR.out.count
          have hc0 := hR.out.heap.cell
          rw [hL0] at hc0
          have hp0 := pop0_c wr hc0
          have hCw := hiddenI (GoX.Calm.of_below hR.out.below)
          clear hR hL0
          go_wp2_with fail
          refine hp0.mono ?_
          rintro e y1 ⟨rfl, hB1⟩
          have hCw1 := hiddenI (hCw.out.trans (GoX.Calm.of_below hB1))
          have hc1 := (hB1.cell (p := ⟨b, 0, none⟩) (World.block_lt_of_cell? _ _ hc0)).trans hc0
          have hlen := fun o => len0_c (y1.alloc o) ((World.cell?_alloc_lt _ _ _ (World.block_lt_of_cell? _ _ hc1)).trans hc1)
          obtain ⟨y2, hy2⟩ : ∃ y2, Hid (y2 = y1.alloc (.cells #[.int .i64 0, .slice none 0 0, .int .i64 0, .int .i64 0] 24)) := ⟨_, hiddenI rfl⟩
          have hlen2 := hlen (.cells #[.int .i64 0, .slice none 0 0, .int .i64 0, .int .i64 0] 24)
          have hB2 : Below y1.heap.size y1 y2 := by rw [hy2.out]; exact (Below.refl _ _).alloc (Nat.le_refl _) _
          have hCw2 := hiddenI (hCw1.out.trans (GoX.Calm.of_below hB2))
          rw [← hy2.out] at hlen2
          clear hlen hB2 hB1 hCw1 hCw hp0 hc0 hc1
          go_wp2_with fail
          rw [← hy2.out]
          refine hlen2.mono ?_
          rintro e y3 ⟨rfl, rfl⟩
          clear hy2
          go_wp2_with fail
          refine (hlv _).mono ?_
          rintro e y4 ⟨rfl, hC⟩
          have hCf := hiddenI (hCw2.out.trans hC)
          clear hlen2 hC hCw2
          go_wp2
          go_ret
          exact ⟨rfl, hCf.out⟩
end Go.Proofs.Ytapdkdfgjjdbkaa
