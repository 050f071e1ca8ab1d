/-
  THE PROGRAM's ORDER OF KEYS, as a run takes it by its contract.
-/
import Derived.Test.YtgojieabeaalcaaOrder
import Derived.Test.YtgojieabeaalcaaXCodeH
import Derived.RangeFuncStops
import Derived.Test.YtgojieabeaalcaaCsRStep
import Derived.Test.YtgojieabeaalcaaCsRow
import Derived.Test.YtgojieabeaalcaaGRCheck
import Derived.Test.YtgojieabeaalcaaCsNew
import Derived.Deep.RegionHeld3
namespace Go.Proofs.Ytgojieabeaalcaa
open Go.ChangeShapes Go.WideShapes Go.ChangeAt Go.RowKit

noncomputable def keysK : List GoX.AV → (List Nat → Bool) → Bool
  | [], k => k []
  | .int .u64 (.ofNat x) :: l, k => cond (Nat.blt x 18446744073709551616) (GoX.forceN x fun x => keysK l fun ks => k (x :: ks)) false
  | _, _ => false
theorem keysK_ok : ∀ {cs : List GoX.AV} {k : List Nat → Bool}, keysK cs k = true → ∃ ks, cs = ks.map (fun (x : Nat) => GoX.AV.int .u64 (x : Int)) ∧ (∀ x ∈ ks, x < 18446744073709551616) ∧ k ks = true
  | [], k, h => ⟨[], rfl, by simp, h⟩
  | .int .u64 (.ofNat x) :: l, k, h => by
    obtain ⟨h1, h2⟩ := GoX.cond_true_of (show cond (Nat.blt x 18446744073709551616) (GoX.forceN x fun x => keysK l fun ks => k (x :: ks)) false = true from h)
    rw [GoX.forceN_eq] at h2
    obtain ⟨ks, rfl, h3, h4⟩ := keysK_ok h2
    refine ⟨x :: ks, rfl, fun y hy => ?_, h4⟩
    rcases List.mem_cons.1 hy with rfl | hy
    · exact GoX.blt_lt h1
    · exact h3 y hy
def insP (x : Nat × Nat) : List (Nat × Nat) → List (Nat × Nat)
  | [] => [x]
  | y :: l => cond (Nat.ble y.1 x.1) (y :: insP x l) (x :: y :: l)
def sortP : Nat → List Nat → List (Nat × Nat) → List (Nat × Nat)
  | _, [], acc => acc
  | i, k :: ks, acc => sortP (i + 1) ks (insP (k, i) acc)
def ltB (K : Nat → Nat) (p q : Nat) : Bool := Nat.blt (K p) (K q) || (Nat.beq (K p) (K q) && Nat.blt p q)
def pwB (K : Nat → Nat) : List Nat → Bool
  | [] => true
  | p :: l => l.all (ltB K p) && pwB K l
def chk (K : Nat → Nat) (n : Nat) (ps : List Nat) : Bool := pwB K ps && (ps.all (fun p => Nat.blt p n) && (List.range n).all (fun p => ps.any (Nat.beq p)))
theorem pwB_ok {K : Nat → Nat} : ∀ {l : List Nat}, pwB K l = true → l.Pairwise (KeyLt K)
  | [], _ => .nil
  | p :: l, h => by
    simp only [pwB, Bool.and_eq_true, List.all_eq_true] at h
    refine .cons (fun q hq => ?_) (pwB_ok h.2)
    have := h.1 q hq
    simp only [ltB, Bool.or_eq_true, Bool.and_eq_true] at this
    rcases this with h1 | ⟨h1, h2⟩
    · exact .inl (GoX.blt_lt h1)
    · exact .inr ⟨GoX.beq_eq' h1, GoX.blt_lt h2⟩
theorem chk_ok {K : Nat → Nat} {n : Nat} {ps : List Nat} (h : chk K n ps = true) : Ordered K n ps := by
  simp only [chk, Bool.and_eq_true, List.all_eq_true, List.any_eq_true] at h
  obtain ⟨h1, h2, h3⟩ := h
  refine ⟨pwB_ok h1, fun p => ⟨fun hp => GoX.blt_lt (h2 p hp), fun hp => ?_⟩⟩
  obtain ⟨q, hq, he⟩ := h3 p (List.mem_range.2 hp)
  rw [GoX.beq_eq' he]; exact hq
noncomputable def outK : List Nat → (List GoX.AV → Bool) → Bool
  | [], k => k []
  | p :: l, k => GoX.forceN p fun p => outK l fun o => k (.int .i64 (.ofNat p) :: o)
theorem outK_eq : ∀ (l : List Nat) (k : List GoX.AV → Bool), outK l k = k (l.map fun p => GoX.AV.int .i64 (.ofNat p))
  | [], _ => rfl
  | p :: l, k => by
    show GoX.forceN p (fun p => outK l fun o => k (.int .i64 (.ofNat p) :: o)) = _
    rw [GoX.forceN_eq, outK_eq l]; rfl
noncomputable def ordK (cs : List GoX.AV) (k : List GoX.AV → Bool) : Bool := keysK cs fun ks => cond (Nat.blt 0 ks.length && (Nat.ble ks.length 1000 && chk (fun p => ks.getD p 0) ks.length ((sortP 0 ks []).map (·.2)))) (outK ((sortP 0 ks []).map (·.2)) k) false
theorem concs_u64 (φ : GoX.Phi) : ∀ ks : List Nat, GoX.concs φ (ks.map fun (x : Nat) => GoX.AV.int .u64 (x : Int)) = some (ks.map fun (x : Nat) => Value.int .u64 (x : Int))
  | [] => rfl
  | _ :: ks => GoX.concs_cons_mk rfl (concs_u64 φ ks)
theorem concs_i64 (φ : GoX.Phi) : ∀ ks : List Nat, GoX.concs φ (ks.map fun (x : Nat) => GoX.AV.int .i64 (.ofNat x)) = some (natsV ks)
  | [] => rfl
  | _ :: ks => GoX.concs_cons_mk rfl (concs_i64 φ ks)
theorem ord_orc {K : GoX.Tab} (hK : K.P = Try.prog) : GoX.Orc K 51 3 ordK := by
  refine ⟨⟨fun xs w => by rw [hK]; exact enters_of Try.func51 (by kernel_rfl) rfl xs w⟩, fun cs k h => ?_⟩
  obtain ⟨ks, rfl, hlt, h⟩ := keysK_ok h
  obtain ⟨hc, h⟩ := GoX.cond_true_of h
  simp only [Bool.and_eq_true] at hc
  obtain ⟨h0, h1, h2⟩ := hc
  have h0 := GoX.blt_lt h0
  have h1 := GoX.ble_le h1
  have h2 := chk_ok h2
  rw [outK_eq] at h
  generalize (sortP 0 ks []).map (·.2) = ps at *
  refine ⟨_, h, fun φ vs b off cap w hvs hcell hb => ⟨_, concs_i64 φ ps, ?_⟩⟩
  rw [concs_u64] at hvs
  obtain rfl := Option.some.inj hvs
  rw [hK]
  have e : (ks.map fun (x : Nat) => Value.int .u64 (x : Int)) = (ks.map Int.ofNat).map (Value.int .u64) := by simp
  have hH : Holds w (.slice (some ⟨b, off, none⟩) (ks.map fun (x : Nat) => Value.int .u64 (x : Int)).length cap) ((ks.map Int.ofNat).map (Value.int .u64)) := by
    rw [← e]
    exact ⟨_, cap, rfl, .inr ⟨b, off, rfl, hb, hcell⟩⟩
  refine (order_c _ (ks.map Int.ofNat) w hH (by simpa using h1) (fun z hz => ?_)).mono ?_
  · obtain ⟨x, hx, rfl⟩ := List.mem_map.1 hz
    have := hlt x hx
    simp [Lit.wf, IntKind.min, IntKind.max, IntKind.signed, IntKind.bits]
    omega
  · rintro e' w' ⟨v', l, rfl, hord, hown, hB⟩
    have hll : (ks.map Int.ofNat).length = ks.length := by simp
    rw [hll] at hord hown
    have hkey : Ordered (fun p => ks.getD p 0) ks.length l := ordered_congr hord fun p hp => by
      simp [keyOf, List.getD, hp]
    obtain rfl := hkey.unique h2
    have hlen := h2.len
    obtain ⟨hl, hr⟩ := hown
    rcases hr with ⟨_, hn⟩ | ⟨g, cp, cur, rfl, hg, hcur, hle, hmx, hsz, htk⟩
    · omega
    · refine ⟨g, cp, cur, by simp [hlen], hg, hcur, by simp [hlen]; exact hle, by omega, ?_, hB⟩
      simp only [List.length_map, hlen]
      rw [Nat.mul_one] at htk
      exact htk
noncomputable def orcT (f : FuncId) : Option GoX.CF := cond (Nat.beq f 51) (some (GoX.orcF 3 ordK)) none
theorem orcT_good {K : GoX.Tab} (hK : K.P = Try.prog) : ∀ f c, orcT f = some c → c.Good K true f := fun f c h => by
  unfold orcT at h
  cases hf : Nat.beq f 51 with
  | false => rw [hf] at h; cases h
  | true =>
    rw [hf] at h
    obtain rfl := GoX.beq_eq' hf
    cases h
    exact GoX.orc_good (ord_orc hK)
end Go.Proofs.Ytgojieabeaalcaa
/-
  THE LAW CsrRows, with lives() as a premise.
-/
namespace Go.Proofs.Ytgojieabeaalcaa
open Go.ChangeShapes Go.WideShapes Go.ChangeAt Go.RowKit Go.Maps

theorem cell_str {P : Program} {w : World} {r : Reach} {base : Nat} {u : TypeId} {x : Value} (hu : P.underlying u = some .string) (h : Cell.okWide P w r base u x) : ∃ s, x = .string s := by
  unfold Cell.okWide at h
  rw [hu] at h
  unfold Cell.ok at h
  rw [hu] at h
  cases x <;> simp_all
theorem cell_bool {P : Program} {w : World} {r : Reach} {base : Nat} {u : TypeId} {x : Value} (hu : P.underlying u = some .bool) (h : Cell.okWide P w r base u x) : ∃ b, x = .bool b := by
  unfold Cell.okWide at h
  rw [hu] at h
  unfold Cell.ok at h
  rw [hu] at h
  cases x <;> simp_all
theorem OwnG.below {g : Gr} {vs : List NdV} {a : Option Addr} {n c : Nat} {b : Option Addr} {m d : Nat} {x y : World} (h : OwnG g vs a n c b m d x) (hB : Below x.heap.size x y) : OwnG g vs a n c b m d y := h.keep (.of_below hB)
theorem few_b (g : Gr) (vs : List NdV) (a : Option Addr) (n c : Nat) (b : Option Addr) (m d : Nat) (w : World) (hg : OwnG g vs a n c b m d w) (hf : g.few = g) (hs : g.sm) :
    Calls Try.prog 6 #[.agg #[.slice a n c, .slice b m d]] w fun e w' => ∃ (us : List NdV) (a' : Option Addr) (n' c' : Nat) (b' : Option Addr) (m' d' : Nat), e = .returned (.agg #[.slice a' n' c', .slice b' m' d']) ∧ OwnG g us a' n' c' b' m' d' w' ∧ Below w.heap.size w w' :=
  (gfew_c g _ _ w hg.holds (by have := hs.1; omega) (by have := hs.2.2.1; omega) (fun x hx => by have := (hs.2.1 x hx).2.1; omega)).mono fun e w' ⟨us, a', n', c', b', m', d', he, h1, h2, hB⟩ => by
    rw [hf] at h1 h2
    exact ⟨us, a', n', c', b', m', d', he, ⟨h1, h2⟩, hB⟩
theorem OwnG.setS {g : Gr} {vs : List NdV} {a : Option Addr} {n c : Nat} {b : Option Addr} {m d : Nat} {x : World} {B : Nat} {cs : Array Value} (h : OwnG g vs a n c b m d x) (hb : x.heap[B]? = some (.cells cs 27)) (j : Nat) (v : Value) : OwnG g vs a n c b m d (x.setCell ⟨B, j, none⟩ v) :=
  ⟨⟨own_set h.nodes.row hb (by decide) _ _, h.nodes.len, fun i hi => ⟨(h.nodes.each i hi).1, own_set (h.nodes.each i hi).2 hb (by decide) _ _⟩⟩, own_set h.edges hb (by decide) _ _⟩
/-- A list of arcs comes back. -/
def Rets (R : List Ar) (z : World) (e : Ending) (w' : World) : Prop := ∃ (a : Option Addr) (c : Nat), e = .returned (.slice a R.length c) ∧ RowAt w' a (arR.flat R) ∧ Below z.heap.size z w'
theorem rowAr {w : World} {B : Nat} {a : Option Addr} {c : Nat} {L : List Ar} (h : w.ownsRow B 58 4 (.slice a L.length c) L.length (arR.flat L)) : RowAt w a (arR.flat L) := by
  obtain ⟨a', c', he, hr⟩ := holdsR_of_owns (R := arR) h
  simp only [Value.slice.injEq] at he
  obtain ⟨rfl, _, _⟩ := he
  exact hr
theorem sl_row {w : World} {a : Option Addr} {n c : Nat} {xs : List Value} (h : Sl w (.slice a n c) xs) : RowAt w a xs := by
  obtain ⟨a', c', he, _, _, _, hr⟩ := h
  simp only [Value.slice.injEq] at he
  obtain ⟨rfl, _, _⟩ := he
  exact hr
theorem GoodC.low {g : Gr} {C : CsX} (h : GoodC g C) (back : Bool) : ∀ p ∈ C.l back, p < g.es.length := fun p hp => ((h.ord back).2 p).1 hp
theorem GoodC.row {g : Gr} {C : CsX} (h : GoodC g C) {back : Bool} {n : Int} {Q : List Nat} (hq : RowQ (keyOf (keysA (arcsL C.L g.es back))) (whoOf g.es back) n g.es.length Q) : Q = rowI (whoOf g.es back) (C.l back) g.ns.length n :=
  hq.is (h.ord back) fun p hp => by
    cases back
    · exact (h.ed p hp).fr
    · exact (h.ed p hp).to
section
variable (g : Gr) (C : CsX) (B : Nat) (n : Int) (z : World) (hC : CsrAt g C B z) (hok : (checkG g).2 = 0) (hs : g.sm) (hg : GoodC g C)
include hC hok hs hg
omit hg in
theorem out_r : Calls Try.prog 19 #[.pointer (some ⟨C.b, 0, none⟩), .int .i64 n] z (Rets (rowA g C false n) z) :=
  (out_c g C B n z hC hok hs.1 hs.2.2.1).mono fun _ _ ⟨a, c, he, ho, hB⟩ => ⟨a, c, he, rowAr ho, hB⟩
omit hg in
theorem in_r : Calls Try.prog 21 #[.pointer (some ⟨C.b, 0, none⟩), .int .i64 n] z (Rets (rowA g C true n) z) :=
  (in_c g C B n z hC hok hs.1 hs.2.2.1).mono fun _ _ ⟨a, c, he, ho, hB⟩ => ⟨a, c, he, rowAr ho, hB⟩
omit hs in
theorem step_r (s : ByteArray) (back : Bool) : Calls Try.prog 22 #[.pointer (some ⟨C.b, 0, none⟩), .int .i64 n, .agg #[.string s, .bool back]] z (Rets ((stepI g C back n s).map (arcOf C.L g.es back)) z) :=
  (step_c g C B n s back z hC hok hg).mono fun _ _ ⟨a, c, he, ho, hB⟩ => ⟨a, c, by rw [he, List.length_map], ho, hB⟩
end
section
variable (g : Gr) (C : CsX) (vs : List NdV) (a : Option Addr) (N c : Nat) (b : Option Addr) (m d : Nat) (n : Int) (z : World) (hO : OwnG g vs a N c b m d z) (hok : (checkG g).2 = 0) (hs : g.sm) (hg : GoodC g C)
include hO hok hs hg
theorem rrow_r (back : Bool) : Calls Try.prog 20 #[.agg #[.slice a N c, .slice b m d], .int .i64 n, .bool back] z (Rets (rowA g C back n) z) :=
  (rrow_c g vs a N c b m d z hO hs hok n back C.L hg.strict hg.mem).mono fun e w' ⟨g', c', Q, he, hq, ho, hB⟩ => by
    have e1 : rowA g C back n = Q.map (arcOf C.L g.es back) := by rw [rowA_eq g C back n (hg.low back), hg.row hq]
    refine ⟨some ⟨g', 0, none⟩, c', by rw [he, e1, List.length_map], ?_, hB⟩
    rw [e1]
    refine rowAr (B := 0) (c := c') ?_
    rw [List.length_map]
    exact ho
theorem rstep_r (s : ByteArray) (back : Bool) : Calls Try.prog 23 #[.agg #[.slice a N c, .slice b m d], .int .i64 n, .agg #[.string s, .bool back]] z (Rets ((stepI g C back n s).map (arcOf C.L g.es back)) z) :=
  (rstep_c g vs a N c b m d z hO hs hok n s back C.L hg.strict hg.mem).mono fun e w' ⟨v, Q, he, hq, ho, hB⟩ => by
    have e1 : hasL g.es s Q = stepI g C back n s := by rw [hg.row hq]; rfl
    rw [e1] at ho
    obtain ⟨a', c', rfl, hr⟩ := ho
    exact ⟨a', c', he, hr, hB⟩
end
set_option maxHeartbeats 32000000 in
set_option maxRecDepth 100000 in
theorem lawRows_c (G : Gr) (nv ev : Value) (n9 : Int) (s : ByteArray) (back : Bool) (w : World) (hG : HoldsG w nv ev G) (hw : G.wf) (hlv : ∀ x, GoX.Calm w x → Calls Try.prog 10 #[] x fun e w' => e = .returned (.bool true) ∧ GoX.Calm x w') :
    Calls Try.prog 3 #[.agg #[nv, ev], .int .i64 n9, .agg #[.string s, .bool back]] w fun e w' => e = .returned (.bool true) ∧ GoX.Calm w w' := by
  obtain ⟨w1', w2', w3', w4'⟩ := hw
  unfold maxLen at w1' w3'
  obtain ⟨na, nc, rfl⟩ := hG.1.slice
  obtain ⟨ea, ec, rfl, -⟩ := id hG.2
  obtain ⟨wb, hwb⟩ : ∃ wb, wb = (w.alloc (.cells #[.slice na G.ns.length nc, .slice ea G.es.length ec] 25)).alloc (.cells #[.string s, .bool back] 27) := ⟨_, rfl⟩
  have hB0 : Hid (Below w.heap.size w wb) := by rw [hwb]; exact ((Below.refl _ _).alloc (Nat.le_refl _) _).alloc (by simp) _
  have hX0 : Hid (wb.heap[w.heap.size]? = some (.cells #[.slice na G.ns.length nc, .slice ea G.es.length ec] 25)) := by
    rw [hwb]
    exact heap_alloc_old (w.alloc (.cells #[.slice na G.ns.length nc, .slice ea G.es.length ec] 25)) _ (by simp) |>.trans (heap_alloc_new w _)
  have hY0 : Hid (wb.heap[w.heap.size + 1]? = some (.cells #[.string s, .bool back] 27)) := by
    rw [hwb]; exact heap_new2' w _ _
  have hf0 := hidden (gfew_c G _ _ wb.drew (hG.below (hB0.out.drew)) (by omega) (by omega) (fun x hx => by have := (w2' x hx).1; unfold maxLen at this; omega))
  have hff := hidden (Gr.few_few G)
  have hsm := hidden (Gr.few_sm G)
  generalize G.few = g at *
  generalize G.ns.length = NL at *
  generalize G.es.length = EL at *
  have hcut := hidden fun z => cut_c s 35 z (by decide)
  clear hG w1' w2' w3' w4'
  generalize cutB s 35 = t at *
  obtain ⟨⟨b0, b1⟩, -⟩ := box2f hX0.out
  obtain ⟨⟨b2, b3⟩, -⟩ := box2f hY0.out
  go_enter Try.func3, Try.ntmps3
  go_wp2_with fail
  rw [← hwb]
  replace hwb := hidden hwb
  refine wp_region_parts (S := (fun z => z.cell? ⟨w.heap.size, 0, none⟩ = some (.slice na NL nc) ∧ z.cell? ⟨w.heap.size, 1, none⟩ = some (.slice ea EL ec) ∧ z.cell? ⟨w.heap.size + 1, 0, none⟩ = some (.string s) ∧ z.cell? ⟨w.heap.size + 1, 1, none⟩ = some (.bool back))) #[false, false, false, false, false, true, true, true] #[true, true, true, true, true, false, false, false] [5, 6, 7] 40 5 (by kernel_rfl) (by kernel_rfl) (by kernel_rfl) (by rfl) ?_ (fun hHeld => ?_)
  · go_keep
  first
    | (refine wpAnyH_take (i := 0) (v := ?_) at0 (by kernel_rfl) (by kernel_rfl) (by kernel_rfl) (fun _ _ _ h => h) (Or.inl ⟨by rfl, ?_⟩) (by assumption) ?_
       rotate_left
       · intro w hSw; (try dsimp only at hSw); go_simp; try with_reducible rfl)
    | fail "take 0"
  try simp only [Act.put, List.setIfInBounds_toArray, List.set_cons_zero, List.set_cons_succ]
  first
    | (refine wpAnyH_take (i := 2) (v := ?_) at2 (by kernel_rfl) (by kernel_rfl) (by kernel_rfl) (fun _ _ _ h => h) (Or.inl ⟨by rfl, ?_⟩) (by assumption) ?_
       rotate_left
       · intro w hSw; (try dsimp only at hSw); go_simp; try with_reducible rfl)
    | fail "take 2"
  try simp only [Act.put, List.setIfInBounds_toArray, List.set_cons_zero, List.set_cons_succ]
  first
    | (refine wpAnyH_take (i := 3) (v := ?_) at3 (by kernel_rfl) (by kernel_rfl) (by kernel_rfl) (fun _ _ _ h => h) (Or.inl ⟨by rfl, ?_⟩) (by assumption) ?_
       rotate_left
       · intro w hSw; (try dsimp only at hSw); go_simp; try with_reducible rfl)
    | fail "take 3"
  try simp only [Act.put, List.setIfInBounds_toArray, List.set_cons_zero, List.set_cons_succ]
  refine wpAnyH_ready (rs := [1]) (by kernel_rfl) (by simp) ?_
  refine AllReadyH.cons (i := 1) at1 (fun K hK => ?_) ?_
  · go_simp
    refine (hf0.out).mono ?_
    rintro e w1 ⟨vs, a, n, c, b, m, d, rfl, hN, hE, hB1⟩
    have hY1 := hidden (box_below hY0.out ((Below.refl _ _).drew.trans hB1))
    have hX1 := hidden (box_below hX0.out ((Below.refl _ _).drew.trans hB1))
    obtain ⟨⟨s0, s1⟩, fz0, fz1⟩ := box2f hX1.out
    obtain ⟨⟨s2, s3⟩, fz2, fz3⟩ := box2f hY1.out
    have hSn := And.intro s0 (And.intro s1 (And.intro s2 s3))
    refine hK.out _ _ ?_ (fun hNew => ?_)
    · exact hSn
    clear hK K hHeld
    have hHeld := hNew
    clear hNew
    try simp only [List.setIfInBounds_toArray, List.set_cons_zero, List.set_cons_succ]
    refine wpAnyH_ready (rs := [4]) (by kernel_rfl) (by simp) ?_
    refine AllReadyH.cons (i := 4) at4 (fun K hK => ?_) ?_
    · go_simp
      refine (hcut.out _).mono ?_
      rintro e z9 ⟨rfl, rfl⟩
      refine hK.out _ _ ?_ (fun hNew => ?_)
      · exact hSn
      clear hK K hHeld
      have hHeld := hNew
      clear hNew
      try simp only [List.setIfInBounds_toArray, List.set_cons_zero, List.set_cons_succ]
      refine tail_list (is := [5, 6, 7]) (l := _) (by kernel_rfl) (by kernel_rfl) (by kernel_rfl) rfl ?_
      simp only [List.filterMap_cons, List.filterMap_nil, at5, at6, at7]
      show wpList _ _ _ (_ :: _) _ _
      go_wp2_with fail
      have hO1 : OwnG g vs a n c b m d z9 := ⟨hN, hE⟩
      have q1 := set_heap (set_heap hX1.out 0 (.slice a n c)) 1 (.slice b m d)
      have r1 := set_oth (set_oth hY1.out (show w.heap.size ≠ w.heap.size + 1 by omega) 0 (.slice a n c)) (show w.heap.size ≠ w.heap.size + 1 by omega) 1 (.slice b m d)
      have hO2 := hidden (((hO1.set hX1.out 0 (.slice a n c)).set (set_heap hX1.out 0 (.slice a n c)) 1 (.slice b m d)).setS r1 0 (.string t))
      have hX2 := hidden (set_oth q1 (show w.heap.size + 1 ≠ w.heap.size by omega) 0 (.string t))
      have hY2 := hidden (set_heap r1 0 (.string t))
      have hC2 := hidden ((((hB0.out.trans (((Below.refl _ _).drew.trans hB1).mono hB0.out.size)).setCell (p := ⟨w.heap.size, 0, none⟩) (Nat.le_refl _) (.slice a n c)).setCell (p := ⟨w.heap.size, 1, none⟩) (Nat.le_refl _) (.slice b m d)).setCell (p := ⟨w.heap.size + 1, 0, none⟩) (Nat.le_succ _) (.string t))
      clear hN hE hB1 hO1 q1 r1 hX1 hY1 hX0 hY0 hf0 hcut b0 b1 b2 b3 s0 s1 s2 s3 fz0 fz1 fz2 fz3 hSn
      generalize hwy : ((z9.setCell ⟨w.heap.size, 0, none⟩ (.slice a n c)).setCell ⟨w.heap.size, 1, none⟩ (.slice b m d)).setCell ⟨w.heap.size + 1, 0, none⟩ (.string t) = y at *
      clear hwy
      obtain ⟨hgn, hgm⟩ := hO2.out.len
      replace hgn := hidden hgn
      replace hgm := hidden hgm
      have hfew := few_b g vs a n c b m d y hO2.out hff.out hsm.out
      have hchk : Hid (∀ x, Below y.heap.size y x → Calls Try.prog 9 #[.agg #[.slice a n c, .slice b m d]] x fun e w' => e = .returned (.tuple #[.int .i64 (checkG g).1, .int .i64 (checkG g).2]) ∧ Below x.heap.size x w') := hidden fun x h => rcheck_c g vs a n c b m d x (hO2.out.below h) hsm.out
      have hXY : Hid (∀ x, Below y.heap.size y x → x.heap[w.heap.size]? = some (.cells #[.slice a n c, .slice b m d] 25) ∧ x.heap[w.heap.size + 1]? = some (.cells #[.string t, .bool back] 27)) := hidden fun x h => ⟨box_below hX2.out h, box_below hY2.out h⟩
      clear hX2 hY2
      refine hfew.mono ?_
      rintro e w2 ⟨us, a2, n2, c2, d2, m2, e2, rfl, hU, hD⟩
      have k2 : Hid (Below y.heap.size y w2) := hD
      clear hfew hD
      by_cases hok : (checkG g).2 = 0
      · have h2 := csrNew_c g us a2 n2 c2 d2 m2 e2 w2 hU hsm.out hok
        clear hU
        go_wp2_with fail
        refine h2.mono ?_
        rintro e w3 ⟨C, rfl, hCs, hD⟩
        have k3 : Hid (Below y.heap.size y w3) := k2.out.trans (hD.mono k2.out.size)
        have hgC : Hid (GoodC g C) := hCs.good hok hsm.out
        replace hCs := hidden hCs
        obtain ⟨⟨b0, b1⟩, -⟩ := box2f (hXY.out w3 k3.out).1
        have h3 := hchk.out w3 k3.out
        rw [hok] at h3
        replace hok := hidden hok
        generalize (checkG g).1 = q0 at h3
        clear hD k2 h2 hchk
        go_wp2_with fail
        refine h3.mono ?_
        rintro e w4 ⟨rfl, hD⟩
        have k4 : Hid (Below y.heap.size y w4) := k3.out.trans (hD.mono k3.out.size)
        replace hCs := hidden (hCs.out.step hD)
        clear hD k3 h3 b0 b1
        obtain ⟨⟨b0, b1⟩, -⟩ := box2f (hXY.out w4 k4.out).1
        have hrl := rlabels_c g.es a n c b d w4 (hO2.out.below k4.out).edge (by have := hsm.out.2.2.1; omega)
        rw [← hgm.out] at hrl
        go_wp2_with fail
        refine hrl.mono ?_
        rintro e w5 ⟨lg, lo, lc, L, rfl, hTL⟩
        have hLL : L = C.L := hTL.strict.same hgC.out.strict fun x => (hTL.mem x).trans (hgC.out.mem x).symm
        subst hLL
        have k5 : Hid (Below y.heap.size y w5) := k4.out.trans (hTL.below.mono k4.out.size)
        replace hCs := hidden (hCs.out.step hTL.below)
        have hLr := hidden (sl_row hTL.sl)
        clear hTL hrl k4 b0 b1
        obtain ⟨⟨b0, b1⟩, -⟩ := box2f (hXY.out w5 k5.out).1
        obtain ⟨⟨b2, b3⟩, -⟩ := box2f (hXY.out w5 k5.out).2
        have hlab := label_c g C _ t w5 hCs.out hgC.out.len
        have hpla := hidden (rplace_c C.L t _ lc w5 hLr.out (by have := hgC.out.len; omega))
        go_wp2_with fail
        refine hlab.mono ?_
        rintro e w6 ⟨⟨F, bb⟩, rfl, hq1, hq2, rfl⟩
        clear hlab
        go_wp2_with fail
        refine hpla.out.mono ?_
        rintro e w7 ⟨rfl, rfl⟩
        clear hpla
        go_wp2_with fail
        clear b0 b1 b2 b3
        have hcz : Hid (∀ y, Below w7.heap.size w7 y → y.cell? ⟨w.heap.size, 0, none⟩ = some (.slice a n c) ∧ y.cell? ⟨w.heap.size, 1, none⟩ = some (.slice b m d) ∧ y.cell? ⟨w.heap.size + 1, 0, none⟩ = some (.string t) ∧ y.cell? ⟨w.heap.size + 1, 1, none⟩ = some (.bool back)) := fun y hy => by
          have h := hXY.out y (k5.out.trans (hy.mono k5.out.size))
          obtain ⟨⟨p0, p1⟩, -⟩ := box2f h.1
          obtain ⟨⟨p2, p3⟩, -⟩ := box2f h.2
          exact ⟨p0, p1, p2, p3⟩
        have hBx : Hid (Below w.heap.size w w7) := hC2.out.trans (k5.out.mono hC2.out.size)
        have hbx : Hid (∀ z, Below w7.heap.size w7 z → z.heap[w.heap.size]? = some (.cells #[.slice a n c, .slice b m d] 25) ∧ z.heap[w.heap.size + 1]? = some (.cells #[.string t, .bool back] 27)) := hidden fun z h => hXY.out z (k5.out.trans (h.mono k5.out.size))
        have hOw : Hid (∀ z, Below w7.heap.size w7 z → OwnG g vs a n c b m d z) := hidden fun z h => hO2.out.below (k5.out.trans (h.mono k5.out.size))
        have hNo : Hid (∀ z, Below w7.heap.size w7 z → Calls Try.prog 14 #[.pointer (some ⟨C.b, 0, none⟩)] z fun e w' => e = .returned (.int .i64 (n : Int)) ∧ w' = z) := hidden fun z h => hgn.out ▸ nodes_c g C _ z (hCs.out.step h)
        have hEd : Hid (∀ z, Below w7.heap.size w7 z → Calls Try.prog 15 #[.pointer (some ⟨C.b, 0, none⟩)] z fun e w' => e = .returned (.int .i64 (m : Int)) ∧ w' = z) := hidden fun z h => hgm.out ▸ edges_c g C _ z (hCs.out.step h)
        have hLa : Hid (∀ z, Below w7.heap.size w7 z → Calls Try.prog 17 #[.pointer (some ⟨C.b, 0, none⟩)] z fun e w' => ∃ a' c', e = .returned (.slice a' C.L.length c') ∧ RowAt w' a' (tx C.L) ∧ Below z.heap.size z w') := hidden fun z h => clabels_c g C _ z (hCs.out.step h) hgC.out.len
        have hOu : Hid (∀ z, Below w7.heap.size w7 z → Calls Try.prog 19 #[.pointer (some ⟨C.b, 0, none⟩), .int .i64 n9] z (Rets (rowA g C false n9) z)) := hidden fun z h => out_r g C _ n9 z (hCs.out.step h) hok.out hsm.out
        have hIn : Hid (∀ z, Below w7.heap.size w7 z → Calls Try.prog 21 #[.pointer (some ⟨C.b, 0, none⟩), .int .i64 n9] z (Rets (rowA g C true n9) z)) := hidden fun z h => in_r g C _ n9 z (hCs.out.step h) hok.out hsm.out
        have hSt : Hid (∀ z, Below w7.heap.size w7 z → Calls Try.prog 22 #[.pointer (some ⟨C.b, 0, none⟩), .int .i64 n9, .agg #[.string t, .bool back]] z (Rets ((stepI g C back n9 t).map (arcOf C.L g.es back)) z)) := hidden fun z h => step_r g C _ n9 z (hCs.out.step h) hok.out hgC.out t back
        have hRs : Hid (∀ z, Below w7.heap.size w7 z → Calls Try.prog 23 #[.agg #[.slice a n c, .slice b m d], .int .i64 n9, .agg #[.string t, .bool back]] z (Rets ((stepI g C back n9 t).map (arcOf C.L g.es back)) z)) := hidden fun z h => rstep_r g C vs a n c b m d n9 z (hOw.out z h) hok.out hsm.out hgC.out t back
        have hRw0 : Hid (∀ z, Below w7.heap.size w7 z → Calls Try.prog 20 #[.agg #[.slice a n c, .slice b m d], .int .i64 n9, .bool false] z (Rets (rowA g C false n9) z)) := hidden fun z h => rrow_r g C vs a n c b m d n9 z (hOw.out z h) hok.out hsm.out hgC.out false
        have hDe0 : Hid (∀ z, Below w7.heap.size w7 z → Calls Try.prog 24 #[.pointer (some ⟨C.b, 0, none⟩), .int .i64 n9, .bool false] z fun e w' => e = .returned (.int .i64 ((rowA g C false n9).length : Nat)) ∧ Below z.heap.size z w') := hidden fun z h => degree_c g C _ n9 false z (hCs.out.step h) hok.out hsm.out.1 hsm.out.2.2.1
        have hRw1 : Hid (∀ z, Below w7.heap.size w7 z → Calls Try.prog 20 #[.agg #[.slice a n c, .slice b m d], .int .i64 n9, .bool true] z (Rets (rowA g C true n9) z)) := hidden fun z h => rrow_r g C vs a n c b m d n9 z (hOw.out z h) hok.out hsm.out hgC.out true
        have hDe1 : Hid (∀ z, Below w7.heap.size w7 z → Calls Try.prog 24 #[.pointer (some ⟨C.b, 0, none⟩), .int .i64 n9, .bool true] z fun e w' => e = .returned (.int .i64 ((rowA g C true n9).length : Nat)) ∧ Below z.heap.size z w') := hidden fun z h => degree_c g C _ n9 true z (hCs.out.step h) hok.out hsm.out.1 hsm.out.2.2.1
        have hl0 : (rowA g C false n9).length ≤ 1000 := Nat.le_trans (rowA_len g C false n9) (Nat.le_trans (Nat.le_of_eq hCs.out.o1.len) hgC.out.es)
        have hl1 : (rowA g C true n9).length ≤ 1000 := Nat.le_trans (rowA_len g C true n9) (Nat.le_trans (Nat.le_of_eq hCs.out.o2.len) hgC.out.es)
        have hl2 : ((stepI g C back n9 t).map (arcOf C.L g.es back)).length ≤ 1000 := by
          have h1 : (stepI g C back n9 t).length ≤ (rowI (whoOf g.es back) (C.l back) g.ns.length n9).length := List.length_filter_le _ _
          have h2 : (rowI (whoOf g.es back) (C.l back) g.ns.length n9).length = (rowA g C back n9).length := by simp [rowA]
          rw [List.length_map]
          cases back <;> omega
        generalize rowA g C false n9 = R0 at *
        generalize rowA g C true n9 = R1 at *
        generalize (stepI g C back n9 t).map (arcOf C.L g.es back) = R2 at *
        have hLl : C.L.length ≤ 1000000 := by have := hgC.out.len; omega
        have hn0 : n ≤ 1000 := by rw [hgn.out]; exact hsm.out.1
        have hm0 : m ≤ 1000 := by rw [hgm.out]; exact hsm.out.2.2.1
        have hLx : Hid (∀ z, Below w7.heap.size w7 z → RowAt z (some ⟨lg, lo, none⟩) (tx C.L)) := hidden fun z h => hLr.out.below h
        have hP : Hid (placeI C.L t = if bb then (F : Int) else -1) := by
          show _ = _
          cases bb with
          | true => rw [(hq1 rfl).2]; simp [placeI, (hq1 rfl).1]
          | false => simp [placeI, (hq2 rfl).1]
        have hF : Hid (bb = false → F = 0) := fun h => (hq2 h).2
        have kk : Hid (Below w7.heap.size w7 w7.drew) := (Below.refl _ _).drew
        have hS := hcz.out w7.drew kk.out
        replace hlv := hidden hlv
        clear hq1 hq2 hLr hCs hgC hOw hXY hO2 hgn hgm hC2 k5
        generalize placeI C.L t = pl at *
        generalize C.L = LL at *
        cases bb with
        | true =>
          have hp : Hid (pl = (F : Int)) := hP.out
          have hp2 := hp.out
          subst hp2
          clear hP hF
          refine wp_region_held_drew (S := (fun y => y.cell? ⟨w.heap.size, 0, none⟩ = some (.slice a n c) ∧ y.cell? ⟨w.heap.size, 1, none⟩ = some (.slice b m d) ∧ y.cell? ⟨w.heap.size + 1, 0, none⟩ = some (.string t) ∧ y.cell? ⟨w.heap.size + 1, 1, none⟩ = some (.bool back))) (by kernel_rfl) ?_ (fun hHeld => ?_)
          · exact hS
          first
            | (refine wpAnyH_take (i := 0) (v := ?_) at0 (by kernel_rfl) (by kernel_rfl) (by kernel_rfl) (fun _ _ _ h => h) (Or.inl ⟨by rfl, ?_⟩) (by assumption) ?_
               rotate_left
               · intro w hSw; (try dsimp only at hSw); go_simp; try with_reducible rfl)
            | fail "take 0"
          try simp only [Act.put, List.setIfInBounds_toArray, List.set_cons_zero, List.set_cons_succ]
          first
            | (refine wpAnyH_take (i := 2) (v := ?_) at2 (by kernel_rfl) (by kernel_rfl) (by kernel_rfl) (fun _ _ _ h => h) (Or.inl ⟨by rfl, ?_⟩) (by assumption) ?_
               rotate_left
               · intro w hSw; (try dsimp only at hSw); go_simp; try with_reducible rfl)
            | fail "take 2"
          try simp only [Act.put, List.setIfInBounds_toArray, List.set_cons_zero, List.set_cons_succ]
          first
            | (refine wpAnyH_take (i := 3) (v := ?_) at3 (by kernel_rfl) (by kernel_rfl) (by kernel_rfl) (fun _ _ _ h => h) (Or.inl ⟨by rfl, ?_⟩) (by assumption) ?_
               rotate_left
               · intro w hSw; (try dsimp only at hSw); go_simp; try with_reducible rfl)
            | fail "take 3"
          try simp only [Act.put, List.setIfInBounds_toArray, List.set_cons_zero, List.set_cons_succ]
          first
            | (refine wpAnyH_take (i := 4) (v := ?_) at4 (by kernel_rfl) (by kernel_rfl) (by kernel_rfl) (fun _ _ _ h => h) (Or.inl ⟨by rfl, ?_⟩) (by assumption) ?_
               rotate_left
               · intro w hSw; (try dsimp only at hSw); go_simp; try with_reducible rfl)
            | fail "take 4"
          try simp only [Act.put, List.setIfInBounds_toArray, List.set_cons_zero, List.set_cons_succ]
          refine wpAnyH_ready (rs := [1]) (by kernel_rfl) (by simp) ?_
          refine AllReadyH.cons (i := 1) at1 (fun K hK => ?_) AllReadyH.nil
          go_simp
          refine (hNo.out _ kk.out).mono ?_
          rintro e y9 ⟨rfl, rfl⟩
          refine hK.out _ _ ?_ (fun hNew => ?_)
          · exact hS
          clear hK K hHeld
          have hHeld := hNew
          clear hNew
          try simp only [Act.put, List.setIfInBounds_toArray, List.set_cons_zero, List.set_cons_succ]
          first
            | (refine wpAnyH_take (i := 5) (v := ?_) at5 (by kernel_rfl) (by kernel_rfl) (by kernel_rfl) (fun _ _ _ h => h) (Or.inl ⟨by rfl, ?_⟩) (by assumption) ?_
               rotate_left
               · intro w hSw; (try dsimp only at hSw); go_simp; try with_reducible rfl)
            | fail "take 5"
          try simp only [Act.put, List.setIfInBounds_toArray, List.set_cons_zero, List.set_cons_succ]
          first
            | (refine wpAnyH_take (i := 6) (v := ?_) at6 (by kernel_rfl) (by kernel_rfl) (by kernel_rfl) (fun _ _ _ h => h) (Or.inl ⟨by rfl, ?_⟩) (by assumption) ?_
               rotate_left
               · intro w hSw; (try dsimp only at hSw); go_simp; try with_reducible rfl)
            | fail "take 6"
          try simp only [Act.put, List.setIfInBounds_toArray, List.set_cons_zero, List.set_cons_succ]
          first
            | (refine wpAnyH_take (i := 7) (v := ?_) at7 (by kernel_rfl) (by kernel_rfl) (by kernel_rfl) (fun _ _ _ h => h) (Or.inl ⟨by rfl, ?_⟩) (by assumption) ?_
               rotate_left
               · intro w hSw; (try dsimp only at hSw); go_simp; try with_reducible rfl)
            | fail "take 7"
          try simp only [Act.put, List.setIfInBounds_toArray, List.set_cons_zero, List.set_cons_succ]
          first
            | (refine wpAnyH_take (i := 9) (v := ?_) at9 (by kernel_rfl) (by kernel_rfl) (by kernel_rfl) (fun _ _ _ h => h) (Or.inl ⟨by rfl, ?_⟩) (by assumption) ?_
               rotate_left
               · intro w hSw; (try dsimp only at hSw); go_simp; try with_reducible rfl)
            | fail "take 9"
          try simp only [Act.put, List.setIfInBounds_toArray, List.set_cons_zero, List.set_cons_succ]
          first
            | (refine wpAnyH_take (i := 10) (v := ?_) at10 (by kernel_rfl) (by kernel_rfl) (by kernel_rfl) (fun _ _ _ h => h) (Or.inl ⟨by rfl, ?_⟩) (by assumption) ?_
               rotate_left
               · intro w hSw; (try dsimp only at hSw); go_simp; try with_reducible rfl)
            | fail "take 10"
          try simp only [Act.put, List.setIfInBounds_toArray, List.set_cons_zero, List.set_cons_succ]
          first
            | (refine wpAnyH_take (i := 11) (v := ?_) at11 (by kernel_rfl) (by kernel_rfl) (by kernel_rfl) (fun _ _ _ h => h) (Or.inl ⟨by rfl, ?_⟩) (by assumption) ?_
               rotate_left
               · intro w hSw; (try dsimp only at hSw); go_simp; try with_reducible rfl)
            | fail "take 11"
          try simp only [Act.put, List.setIfInBounds_toArray, List.set_cons_zero, List.set_cons_succ]
          refine wpAnyH_ready (rs := [8]) (by kernel_rfl) (by simp) ?_
          refine AllReadyH.cons (i := 8) at8 (fun K hK => ?_) AllReadyH.nil
          go_simp
          refine (hEd.out _ kk.out).mono ?_
          rintro e y9 ⟨rfl, rfl⟩
          refine hK.out _ _ ?_ (fun hNew => ?_)
          · exact hS
          clear hK K hHeld
          have hHeld := hNew
          clear hNew
          try simp only [Act.put, List.setIfInBounds_toArray, List.set_cons_zero, List.set_cons_succ]
          first
            | (refine wpAnyH_take (i := 12) (v := ?_) at12 (by kernel_rfl) (by kernel_rfl) (by kernel_rfl) (fun _ _ _ h => h) (Or.inl ⟨by rfl, ?_⟩) (by assumption) ?_
               rotate_left
               · intro w hSw; (try dsimp only at hSw); go_simp; try with_reducible rfl)
            | fail "take 12"
          try simp only [Act.put, List.setIfInBounds_toArray, List.set_cons_zero, List.set_cons_succ]
          first
            | (refine wpAnyH_take (i := 13) (v := ?_) at13 (by kernel_rfl) (by kernel_rfl) (by kernel_rfl) (fun _ _ _ h => h) (Or.inl ⟨by rfl, ?_⟩) (by assumption) ?_
               rotate_left
               · intro w hSw; (try dsimp only at hSw); go_simp; try with_reducible rfl)
            | fail "take 13"
          try simp only [Act.put, List.setIfInBounds_toArray, List.set_cons_zero, List.set_cons_succ]
          first
            | (refine wpAnyH_take (i := 14) (v := ?_) at14 (by kernel_rfl) (by kernel_rfl) (by kernel_rfl) (fun _ _ _ h => h) (Or.inl ⟨by rfl, ?_⟩) (by assumption) ?_
               rotate_left
               · intro w hSw; (try dsimp only at hSw); go_simp; try with_reducible rfl)
            | fail "take 14"
          try simp only [Act.put, List.setIfInBounds_toArray, List.set_cons_zero, List.set_cons_succ]
          first
            | (refine wpAnyH_take (i := 15) (v := ?_) at15 (by kernel_rfl) (by kernel_rfl) (by kernel_rfl) (fun _ _ _ h => h) (Or.inl ⟨by rfl, ?_⟩) (by assumption) ?_
               rotate_left
               · intro w hSw; (try dsimp only at hSw); go_simp; try with_reducible rfl)
            | fail "take 15"
          try simp only [Act.put, List.setIfInBounds_toArray, List.set_cons_zero, List.set_cons_succ]
          first
            | (refine wpAnyH_take (i := 17) (v := ?_) at17 (by kernel_rfl) (by kernel_rfl) (by kernel_rfl) (fun _ _ _ h => h) (Or.inl ⟨by rfl, ?_⟩) (by assumption) ?_
               rotate_left
               · intro w hSw; (try dsimp only at hSw); go_simp; try with_reducible rfl)
            | fail "take 17"
          try simp only [Act.put, List.setIfInBounds_toArray, List.set_cons_zero, List.set_cons_succ]
          refine wpAnyH_ready (rs := [16]) (by kernel_rfl) (by simp) ?_
          refine AllReadyH.cons (i := 16) at16 (fun K hK => ?_) AllReadyH.nil
          go_simp
          refine (hLa.out _ kk.out).mono ?_
          rintro e y9 ⟨a9, c9, rfl, hr9, hBz⟩
          have kk := hidden (kk.out.trans (hBz.mono kk.out.size))
          have hS := hcz.out y9 kk.out
          have oA := hidden hr9
          refine hK.out _ _ ?_ (fun hNew => ?_)
          · exact hS
          clear hK K hHeld
          have hHeld := hNew
          clear hNew
          try simp only [Act.put, List.setIfInBounds_toArray, List.set_cons_zero, List.set_cons_succ]
          refine wpAnyH_ready (rs := [18]) (by kernel_rfl) (by simp) ?_
          refine AllReadyH.cons (i := 18) at18 (fun K hK => ?_) AllReadyH.nil
          go_simp
          refine (sameT_c _ _ _ _ _ _ oA.out (hLx.out _ kk.out) hLl).mono ?_
          rintro e y9 ⟨rfl, hBz⟩
          have kk := hidden (kk.out.trans (hBz.mono kk.out.size))
          have hS := hcz.out y9 kk.out
          refine hK.out _ _ ?_ (fun hNew => ?_)
          · exact hS
          clear hK K hHeld
          have hHeld := hNew
          clear hNew
          try simp only [Act.put, List.setIfInBounds_toArray, List.set_cons_zero, List.set_cons_succ]
          first
            | (refine wpAnyH_take (i := 19) (v := ?_) at19 (by kernel_rfl) (by kernel_rfl) (by kernel_rfl) (fun _ _ _ h => h) (Or.inl ⟨by rfl, ?_⟩) (by assumption) ?_
               rotate_left
               · intro w hSw; (try dsimp only at hSw); go_simp; try with_reducible rfl)
            | fail "take 19"
          try simp only [Act.put, List.setIfInBounds_toArray, List.set_cons_zero, List.set_cons_succ]
          first
            | (refine wpAnyH_take (i := 20) (v := ?_) at20 (by kernel_rfl) (by kernel_rfl) (by kernel_rfl) (fun _ _ _ h => h) (Or.inl ⟨by rfl, ?_⟩) (by assumption) ?_
               rotate_left
               · intro w hSw; (try dsimp only at hSw); go_simp; try with_reducible rfl)
            | fail "take 20"
          try simp only [Act.put, List.setIfInBounds_toArray, List.set_cons_zero, List.set_cons_succ]
          first
            | (refine wpAnyH_take (i := 21) (v := ?_) at21 (by kernel_rfl) (by kernel_rfl) (by kernel_rfl) (fun _ _ _ h => h) (Or.inl ⟨by rfl, ?_⟩) (by assumption) ?_
               rotate_left
               · intro w hSw; (try dsimp only at hSw); go_simp; try with_reducible rfl)
            | fail "take 21"
          try simp only [Act.put, List.setIfInBounds_toArray, List.set_cons_zero, List.set_cons_succ]
          first
            | (refine wpAnyH_take (i := 22) (v := ?_) at22 (by kernel_rfl) (by kernel_rfl) (by kernel_rfl) (fun _ _ _ h => h) (Or.inl ⟨by rfl, ?_⟩) (by assumption) ?_
               rotate_left
               · intro w hSw; (try dsimp only at hSw); go_simp; try with_reducible rfl)
            | fail "take 22"
          try simp only [Act.put, List.setIfInBounds_toArray, List.set_cons_zero, List.set_cons_succ]
          first
            | (refine wpAnyH_take (i := 23) (v := ?_) at23 (by kernel_rfl) (by kernel_rfl) (by kernel_rfl) (fun _ _ _ h => h) (Or.inl ⟨by rfl, ?_⟩) (by assumption) ?_
               rotate_left
               · intro w hSw; (try dsimp only at hSw); go_simp; try with_reducible rfl)
            | fail "take 23"
          try simp only [Act.put, List.setIfInBounds_toArray, List.set_cons_zero, List.set_cons_succ]
          first
            | (refine wpAnyH_take (i := 24) (v := ?_) at24 (by kernel_rfl) (by kernel_rfl) (by kernel_rfl) (fun _ _ _ h => h) (Or.inl ⟨by rfl, ?_⟩) (by assumption) ?_
               rotate_left
               · intro w hSw; (try dsimp only at hSw); go_simp; try with_reducible rfl)
            | fail "take 24"
          try simp only [Act.put, List.setIfInBounds_toArray, List.set_cons_zero, List.set_cons_succ]
          first
            | (refine wpAnyH_take (i := 25) (v := ?_) at25 (by kernel_rfl) (by kernel_rfl) (by kernel_rfl) (fun _ _ _ h => h) (Or.inl ⟨by rfl, ?_⟩) (by assumption) ?_
               rotate_left
               · intro w hSw; (try dsimp only at hSw); go_simp; try with_reducible rfl)
            | fail "take 25"
          try simp only [Act.put, List.setIfInBounds_toArray, List.set_cons_zero, List.set_cons_succ]
          first
            | (refine wpAnyH_take (i := 26) (v := ?_) at26 (by kernel_rfl) (by kernel_rfl) (by kernel_rfl) (fun _ _ _ h => h) (Or.inl ⟨by rfl, ?_⟩) (by assumption) ?_
               rotate_left
               · intro w hSw; (try dsimp only at hSw); go_simp; try with_reducible rfl)
            | fail "take 26"
          try simp only [Act.put, List.setIfInBounds_toArray, List.set_cons_zero, List.set_cons_succ]
          first
            | (refine wpAnyH_take (i := 27) (v := ?_) at27 (by kernel_rfl) (by kernel_rfl) (by kernel_rfl) (fun _ _ _ h => h) (Or.inl ⟨by rfl, ?_⟩) (by assumption) ?_
               rotate_left
               · intro w hSw; (try dsimp only at hSw); go_simp; try with_reducible rfl)
            | fail "take 27"
          try simp only [Act.put, List.setIfInBounds_toArray, List.set_cons_zero, List.set_cons_succ]
          first
            | (refine wpAnyH_take (i := 28) (v := ?_) at28 (by kernel_rfl) (by kernel_rfl) (by kernel_rfl) (fun _ _ _ h => h) (Or.inl ⟨by rfl, ?_⟩) (by assumption) ?_
               rotate_left
               · intro w hSw; (try dsimp only at hSw); go_simp; try with_reducible rfl)
            | fail "take 28"
          try simp only [Act.put, List.setIfInBounds_toArray, List.set_cons_zero, List.set_cons_succ]
          first
            | (refine wpAnyH_take (i := 29) (v := ?_) at29 (by kernel_rfl) (by kernel_rfl) (by kernel_rfl) (fun _ _ _ h => h) (Or.inl ⟨by rfl, ?_⟩) (by assumption) ?_
               rotate_left
               · intro w hSw; (try dsimp only at hSw); go_simp; try with_reducible rfl)
            | fail "take 29"
          try simp only [Act.put, List.setIfInBounds_toArray, List.set_cons_zero, List.set_cons_succ]
          first
            | (refine wpAnyH_take (i := 30) (v := ?_) at30 (by kernel_rfl) (by kernel_rfl) (by kernel_rfl) (fun _ _ _ h => h) (Or.inl ⟨by rfl, ?_⟩) (by assumption) ?_
               rotate_left
               · intro w hSw; (try dsimp only at hSw); go_simp; try with_reducible rfl)
            | fail "take 30"
          try simp only [Act.put, List.setIfInBounds_toArray, List.set_cons_zero, List.set_cons_succ]
          first
            | (refine wpAnyH_take (i := 31) (v := ?_) at31 (by kernel_rfl) (by kernel_rfl) (by kernel_rfl) (fun _ _ _ h => h) (Or.inl ⟨by rfl, ?_⟩) (by assumption) ?_
               rotate_left
               · intro w hSw; (try dsimp only at hSw); go_simp; try with_reducible rfl)
            | fail "take 31"
          try simp only [Act.put, List.setIfInBounds_toArray, List.set_cons_zero, List.set_cons_succ]
          first
            | (refine wpAnyH_take (i := 32) (v := ?_) at32 (by kernel_rfl) (by kernel_rfl) (by kernel_rfl) (fun _ _ _ h => h) (Or.inl ⟨by rfl, ?_⟩) (by assumption) ?_
               rotate_left
               · intro w hSw; (try dsimp only at hSw); go_simp; try with_reducible rfl)
            | fail "take 32"
          try simp only [Act.put, List.setIfInBounds_toArray, List.set_cons_zero, List.set_cons_succ]
          first
            | (refine wpAnyH_take (i := 33) (v := ?_) at33 (by kernel_rfl) (by kernel_rfl) (by kernel_rfl) (fun _ _ _ h => h) (Or.inl ⟨by rfl, ?_⟩) (by assumption) ?_
               rotate_left
               · intro w hSw; (try dsimp only at hSw); go_simp; try with_reducible rfl)
            | fail "take 33"
          try simp only [Act.put, List.setIfInBounds_toArray, List.set_cons_zero, List.set_cons_succ]
          first
            | (refine wpAnyH_take (i := 34) (v := ?_) at34 (by kernel_rfl) (by kernel_rfl) (by kernel_rfl) (fun _ _ _ h => h) (Or.inl ⟨by rfl, ?_⟩) (by assumption) ?_
               rotate_left
               · intro w hSw; (try dsimp only at hSw); go_simp; try with_reducible rfl)
            | fail "take 34"
          try simp only [Act.put, List.setIfInBounds_toArray, List.set_cons_zero, List.set_cons_succ]
          first
            | (refine wpAnyH_take (i := 35) (v := ?_) at35 (by kernel_rfl) (by kernel_rfl) (by kernel_rfl) (fun _ _ _ h => h) (Or.inl ⟨by rfl, ?_⟩) (by assumption) ?_
               rotate_left
               · intro w hSw; (try dsimp only at hSw); go_simp; try with_reducible rfl)
            | fail "take 35"
          try simp only [Act.put, List.setIfInBounds_toArray, List.set_cons_zero, List.set_cons_succ]
          first
            | (refine wpAnyH_take (i := 36) (v := ?_) at36 (by kernel_rfl) (by kernel_rfl) (by kernel_rfl) (fun _ _ _ h => h) (Or.inl ⟨by rfl, ?_⟩) (by assumption) ?_
               rotate_left
               · intro w hSw; (try dsimp only at hSw); go_simp; try with_reducible rfl)
            | fail "take 36"
          try simp only [Act.put, List.setIfInBounds_toArray, List.set_cons_zero, List.set_cons_succ]
          first
            | (refine wpAnyH_take (i := 37) (v := ?_) at37 (by kernel_rfl) (by kernel_rfl) (by kernel_rfl) (fun _ _ _ h => h) (Or.inl ⟨by rfl, ?_⟩) (by assumption) ?_
               rotate_left
               · intro w hSw; (try dsimp only at hSw); go_simp; try with_reducible rfl)
            | fail "take 37"
          try simp only [Act.put, List.setIfInBounds_toArray, List.set_cons_zero, List.set_cons_succ]
          first
            | (refine wpAnyH_take (i := 38) (v := ?_) at38 (by kernel_rfl) (by kernel_rfl) (by kernel_rfl) (fun _ _ _ h => h) (Or.inl ⟨by rfl, ?_⟩) (by assumption) ?_
               rotate_left
               · intro w hSw; (try dsimp only at hSw); go_simp; try with_reducible rfl)
            | fail "take 38"
          try simp only [Act.put, List.setIfInBounds_toArray, List.set_cons_zero, List.set_cons_succ]
          refine wpAnyH_take (i := 39) (v := undef) at39 (by kernel_rfl) (by kernel_rfl) (by kernel_rfl) (fun _ _ _ h => h) (Or.inr ⟨by rfl, rfl⟩) (by assumption) ?_
          try simp only [Act.put, List.setIfInBounds_toArray, List.set_cons_zero, List.set_cons_succ]
          refine wpAnyH_take (i := 40) (v := undef) at40 (by kernel_rfl) (by kernel_rfl) (by kernel_rfl) (fun _ _ _ h => h) (Or.inr ⟨by rfl, rfl⟩) (by assumption) ?_
          try simp only [Act.put, List.setIfInBounds_toArray, List.set_cons_zero, List.set_cons_succ]
          first
            | (refine wpAnyH_take (i := 41) (v := ?_) at41 (by kernel_rfl) (by kernel_rfl) (by kernel_rfl) (fun _ _ _ h => h) (Or.inl ⟨by rfl, ?_⟩) (by assumption) ?_
               rotate_left
               · intro w hSw; (try dsimp only at hSw); go_simp; try with_reducible rfl)
            | fail "take 41"
          try simp only [Act.put, List.setIfInBounds_toArray, List.set_cons_zero, List.set_cons_succ]
          first
            | (refine wpAnyH_take (i := 42) (v := ?_) at42 (by kernel_rfl) (by kernel_rfl) (by kernel_rfl) (fun _ _ _ h => h) (Or.inl ⟨by rfl, ?_⟩) (by assumption) ?_
               rotate_left
               · intro w hSw; (try dsimp only at hSw); go_simp; try with_reducible rfl)
            | fail "take 42"
          try simp only [Act.put, List.setIfInBounds_toArray, List.set_cons_zero, List.set_cons_succ]
          refine wpAnyH_done (by kernel_rfl) ?_ _
          go_wp2_with fail
          have kk := hidden (kk.out.trans (Below.refl _ _).drew)
          have hS := hcz.out _ kk.out
          go_region_held3 (fun y => y.cell? ⟨w.heap.size, 0, none⟩ = some (.slice a n c) ∧ y.cell? ⟨w.heap.size, 1, none⟩ = some (.slice b m d) ∧ y.cell? ⟨w.heap.size + 1, 0, none⟩ = some (.string t) ∧ y.cell? ⟨w.heap.size + 1, 1, none⟩ = some (.bool back)) (first | exact hS | go_keep) (first
            | (go_at_call 19; refine (hOu.out _ kk.out).mono ?_; rintro e y9 ⟨a9, c9, rfl, hr9, hBz⟩
               have kk := hidden (kk.out.trans (hBz.mono kk.out.size))
               have hS := hcz.out y9 kk.out
               have oA := hidden hr9)
            | (go_at_call 21; refine (hIn.out _ kk.out).mono ?_; rintro e y9 ⟨a9, c9, rfl, hr9, hBz⟩
               have kk := hidden (kk.out.trans (hBz.mono kk.out.size))
               have hS := hcz.out y9 kk.out
               have oA := hidden hr9)
            | (go_at_call 22; refine (hSt.out _ kk.out).mono ?_; rintro e y9 ⟨a9, c9, rfl, hr9, hBz⟩
               have kk := hidden (kk.out.trans (hBz.mono kk.out.size))
               have hS := hcz.out y9 kk.out
               have oA := hidden hr9)
            | (go_at_call_of 20 (Value.bool false); refine (hRw0.out _ kk.out).mono ?_; rintro e y9 ⟨a8, c8, rfl, hr8, hBz⟩
               have kk := hidden (kk.out.trans (hBz.mono kk.out.size))
               have hS := hcz.out y9 kk.out
               have oA := hidden (oA.out.below hBz)
               have oB := hidden hr8)
            | (go_at_call_of 20 (Value.bool true); refine (hRw1.out _ kk.out).mono ?_; rintro e y9 ⟨a8, c8, rfl, hr8, hBz⟩
               have kk := hidden (kk.out.trans (hBz.mono kk.out.size))
               have hS := hcz.out y9 kk.out
               have oA := hidden (oA.out.below hBz)
               have oB := hidden hr8)
            | (go_at_call 23; refine (hRs.out _ kk.out).mono ?_; rintro e y9 ⟨a8, c8, rfl, hr8, hBz⟩
               have kk := hidden (kk.out.trans (hBz.mono kk.out.size))
               have hS := hcz.out y9 kk.out
               have oA := hidden (oA.out.below hBz)
               have oB := hidden hr8)
            | (go_at_call 18; refine (asame_c _ _ _ _ ⟨_, _, rfl, oA.out⟩ ⟨_, _, rfl, oB.out⟩ (by first | exact hl0 | exact hl1 | exact hl2)).mono ?_; rintro e y9 ⟨rfl, hBz⟩
               have kk := hidden (kk.out.trans (hBz.mono kk.out.size))
               have hS := hcz.out y9 kk.out
               skip)
            | fail)
          go_wp2_with fail
          have kk := hidden (kk.out.trans (Below.refl _ _).drew)
          have hS := hcz.out _ kk.out
          go_region_held3 (fun y => y.cell? ⟨w.heap.size, 0, none⟩ = some (.slice a n c) ∧ y.cell? ⟨w.heap.size, 1, none⟩ = some (.slice b m d) ∧ y.cell? ⟨w.heap.size + 1, 0, none⟩ = some (.string t) ∧ y.cell? ⟨w.heap.size + 1, 1, none⟩ = some (.bool back)) (first | exact hS | go_keep) (first
            | (go_at_call_of 24 (Value.bool false); refine (hDe0.out _ kk.out).mono ?_; rintro e y9 ⟨rfl, hBz⟩
               have kk := hidden (kk.out.trans (hBz.mono kk.out.size))
               have hS := hcz.out y9 kk.out
               skip)
            | (go_at_call_of 24 (Value.bool true); refine (hDe1.out _ kk.out).mono ?_; rintro e y9 ⟨rfl, hBz⟩
               have kk := hidden (kk.out.trans (hBz.mono kk.out.size))
               have hS := hcz.out y9 kk.out
               skip)
            | (go_at_call_of 20 (Value.bool false); refine (hRw0.out _ kk.out).mono ?_; rintro e y9 ⟨a8, c8, rfl, hr8, hBz⟩
               have kk := hidden (kk.out.trans (hBz.mono kk.out.size))
               have hS := hcz.out y9 kk.out
               skip)
            | (go_at_call_of 20 (Value.bool true); refine (hRw1.out _ kk.out).mono ?_; rintro e y9 ⟨a8, c8, rfl, hr8, hBz⟩
               have kk := hidden (kk.out.trans (hBz.mono kk.out.size))
               have hS := hcz.out y9 kk.out
               skip)
            | (go_at_call 10; refine (hlv.out _ (GoX.Calm.of_below (hBx.out.trans (kk.out.mono hBx.out.size)))).mono ?_; rintro e y9 ⟨rfl, hCz⟩
               obtain ⟨p0, p1⟩ := (box2f (box_calm (hbx.out _ kk.out).1 hCz)).1
               obtain ⟨p2, p3⟩ := (box2f (box_calm (hbx.out _ kk.out).2 hCz)).1
               have hS := And.intro p0 (And.intro p1 (And.intro p2 p3))
               have hfin := hidden ((GoX.Calm.of_below (hBx.out.trans (kk.out.mono hBx.out.size))).trans hCz))
            | fail)
          go_wp2
          go_ret
          exact ⟨by first | done | rfl | simp, hfin.out⟩
        | false =>
          have hp2 : pl = -1 := hP.out
          subst hp2
          obtain rfl := hF.out rfl
          clear hP hF
          refine wp_region_held_drew (S := (fun y => y.cell? ⟨w.heap.size, 0, none⟩ = some (.slice a n c) ∧ y.cell? ⟨w.heap.size, 1, none⟩ = some (.slice b m d) ∧ y.cell? ⟨w.heap.size + 1, 0, none⟩ = some (.string t) ∧ y.cell? ⟨w.heap.size + 1, 1, none⟩ = some (.bool back))) (by kernel_rfl) ?_ (fun hHeld => ?_)
          · exact hS
          first
            | (refine wpAnyH_take (i := 0) (v := ?_) at0 (by kernel_rfl) (by kernel_rfl) (by kernel_rfl) (fun _ _ _ h => h) (Or.inl ⟨by rfl, ?_⟩) (by assumption) ?_
               rotate_left
               · intro w hSw; (try dsimp only at hSw); go_simp; try with_reducible rfl)
            | fail "take 0"
          try simp only [Act.put, List.setIfInBounds_toArray, List.set_cons_zero, List.set_cons_succ]
          first
            | (refine wpAnyH_take (i := 2) (v := ?_) at2 (by kernel_rfl) (by kernel_rfl) (by kernel_rfl) (fun _ _ _ h => h) (Or.inl ⟨by rfl, ?_⟩) (by assumption) ?_
               rotate_left
               · intro w hSw; (try dsimp only at hSw); go_simp; try with_reducible rfl)
            | fail "take 2"
          try simp only [Act.put, List.setIfInBounds_toArray, List.set_cons_zero, List.set_cons_succ]
          first
            | (refine wpAnyH_take (i := 3) (v := ?_) at3 (by kernel_rfl) (by kernel_rfl) (by kernel_rfl) (fun _ _ _ h => h) (Or.inl ⟨by rfl, ?_⟩) (by assumption) ?_
               rotate_left
               · intro w hSw; (try dsimp only at hSw); go_simp; try with_reducible rfl)
            | fail "take 3"
          try simp only [Act.put, List.setIfInBounds_toArray, List.set_cons_zero, List.set_cons_succ]
          first
            | (refine wpAnyH_take (i := 4) (v := ?_) at4 (by kernel_rfl) (by kernel_rfl) (by kernel_rfl) (fun _ _ _ h => h) (Or.inl ⟨by rfl, ?_⟩) (by assumption) ?_
               rotate_left
               · intro w hSw; (try dsimp only at hSw); go_simp; try with_reducible rfl)
            | fail "take 4"
          try simp only [Act.put, List.setIfInBounds_toArray, List.set_cons_zero, List.set_cons_succ]
          refine wpAnyH_ready (rs := [1]) (by kernel_rfl) (by simp) ?_
          refine AllReadyH.cons (i := 1) at1 (fun K hK => ?_) AllReadyH.nil
          go_simp
          refine (hNo.out _ kk.out).mono ?_
          rintro e y9 ⟨rfl, rfl⟩
          refine hK.out _ _ ?_ (fun hNew => ?_)
          · exact hS
          clear hK K hHeld
          have hHeld := hNew
          clear hNew
          try simp only [Act.put, List.setIfInBounds_toArray, List.set_cons_zero, List.set_cons_succ]
          first
            | (refine wpAnyH_take (i := 5) (v := ?_) at5 (by kernel_rfl) (by kernel_rfl) (by kernel_rfl) (fun _ _ _ h => h) (Or.inl ⟨by rfl, ?_⟩) (by assumption) ?_
               rotate_left
               · intro w hSw; (try dsimp only at hSw); go_simp; try with_reducible rfl)
            | fail "take 5"
          try simp only [Act.put, List.setIfInBounds_toArray, List.set_cons_zero, List.set_cons_succ]
          first
            | (refine wpAnyH_take (i := 6) (v := ?_) at6 (by kernel_rfl) (by kernel_rfl) (by kernel_rfl) (fun _ _ _ h => h) (Or.inl ⟨by rfl, ?_⟩) (by assumption) ?_
               rotate_left
               · intro w hSw; (try dsimp only at hSw); go_simp; try with_reducible rfl)
            | fail "take 6"
          try simp only [Act.put, List.setIfInBounds_toArray, List.set_cons_zero, List.set_cons_succ]
          first
            | (refine wpAnyH_take (i := 7) (v := ?_) at7 (by kernel_rfl) (by kernel_rfl) (by kernel_rfl) (fun _ _ _ h => h) (Or.inl ⟨by rfl, ?_⟩) (by assumption) ?_
               rotate_left
               · intro w hSw; (try dsimp only at hSw); go_simp; try with_reducible rfl)
            | fail "take 7"
          try simp only [Act.put, List.setIfInBounds_toArray, List.set_cons_zero, List.set_cons_succ]
          first
            | (refine wpAnyH_take (i := 9) (v := ?_) at9 (by kernel_rfl) (by kernel_rfl) (by kernel_rfl) (fun _ _ _ h => h) (Or.inl ⟨by rfl, ?_⟩) (by assumption) ?_
               rotate_left
               · intro w hSw; (try dsimp only at hSw); go_simp; try with_reducible rfl)
            | fail "take 9"
          try simp only [Act.put, List.setIfInBounds_toArray, List.set_cons_zero, List.set_cons_succ]
          first
            | (refine wpAnyH_take (i := 10) (v := ?_) at10 (by kernel_rfl) (by kernel_rfl) (by kernel_rfl) (fun _ _ _ h => h) (Or.inl ⟨by rfl, ?_⟩) (by assumption) ?_
               rotate_left
               · intro w hSw; (try dsimp only at hSw); go_simp; try with_reducible rfl)
            | fail "take 10"
          try simp only [Act.put, List.setIfInBounds_toArray, List.set_cons_zero, List.set_cons_succ]
          first
            | (refine wpAnyH_take (i := 11) (v := ?_) at11 (by kernel_rfl) (by kernel_rfl) (by kernel_rfl) (fun _ _ _ h => h) (Or.inl ⟨by rfl, ?_⟩) (by assumption) ?_
               rotate_left
               · intro w hSw; (try dsimp only at hSw); go_simp; try with_reducible rfl)
            | fail "take 11"
          try simp only [Act.put, List.setIfInBounds_toArray, List.set_cons_zero, List.set_cons_succ]
          refine wpAnyH_ready (rs := [8]) (by kernel_rfl) (by simp) ?_
          refine AllReadyH.cons (i := 8) at8 (fun K hK => ?_) AllReadyH.nil
          go_simp
          refine (hEd.out _ kk.out).mono ?_
          rintro e y9 ⟨rfl, rfl⟩
          refine hK.out _ _ ?_ (fun hNew => ?_)
          · exact hS
          clear hK K hHeld
          have hHeld := hNew
          clear hNew
          try simp only [Act.put, List.setIfInBounds_toArray, List.set_cons_zero, List.set_cons_succ]
          first
            | (refine wpAnyH_take (i := 12) (v := ?_) at12 (by kernel_rfl) (by kernel_rfl) (by kernel_rfl) (fun _ _ _ h => h) (Or.inl ⟨by rfl, ?_⟩) (by assumption) ?_
               rotate_left
               · intro w hSw; (try dsimp only at hSw); go_simp; try with_reducible rfl)
            | fail "take 12"
          try simp only [Act.put, List.setIfInBounds_toArray, List.set_cons_zero, List.set_cons_succ]
          first
            | (refine wpAnyH_take (i := 13) (v := ?_) at13 (by kernel_rfl) (by kernel_rfl) (by kernel_rfl) (fun _ _ _ h => h) (Or.inl ⟨by rfl, ?_⟩) (by assumption) ?_
               rotate_left
               · intro w hSw; (try dsimp only at hSw); go_simp; try with_reducible rfl)
            | fail "take 13"
          try simp only [Act.put, List.setIfInBounds_toArray, List.set_cons_zero, List.set_cons_succ]
          first
            | (refine wpAnyH_take (i := 14) (v := ?_) at14 (by kernel_rfl) (by kernel_rfl) (by kernel_rfl) (fun _ _ _ h => h) (Or.inl ⟨by rfl, ?_⟩) (by assumption) ?_
               rotate_left
               · intro w hSw; (try dsimp only at hSw); go_simp; try with_reducible rfl)
            | fail "take 14"
          try simp only [Act.put, List.setIfInBounds_toArray, List.set_cons_zero, List.set_cons_succ]
          first
            | (refine wpAnyH_take (i := 15) (v := ?_) at15 (by kernel_rfl) (by kernel_rfl) (by kernel_rfl) (fun _ _ _ h => h) (Or.inl ⟨by rfl, ?_⟩) (by assumption) ?_
               rotate_left
               · intro w hSw; (try dsimp only at hSw); go_simp; try with_reducible rfl)
            | fail "take 15"
          try simp only [Act.put, List.setIfInBounds_toArray, List.set_cons_zero, List.set_cons_succ]
          first
            | (refine wpAnyH_take (i := 17) (v := ?_) at17 (by kernel_rfl) (by kernel_rfl) (by kernel_rfl) (fun _ _ _ h => h) (Or.inl ⟨by rfl, ?_⟩) (by assumption) ?_
               rotate_left
               · intro w hSw; (try dsimp only at hSw); go_simp; try with_reducible rfl)
            | fail "take 17"
          try simp only [Act.put, List.setIfInBounds_toArray, List.set_cons_zero, List.set_cons_succ]
          refine wpAnyH_ready (rs := [16]) (by kernel_rfl) (by simp) ?_
          refine AllReadyH.cons (i := 16) at16 (fun K hK => ?_) AllReadyH.nil
          go_simp
          refine (hLa.out _ kk.out).mono ?_
          rintro e y9 ⟨a9, c9, rfl, hr9, hBz⟩
          have kk := hidden (kk.out.trans (hBz.mono kk.out.size))
          have hS := hcz.out y9 kk.out
          have oA := hidden hr9
          refine hK.out _ _ ?_ (fun hNew => ?_)
          · exact hS
          clear hK K hHeld
          have hHeld := hNew
          clear hNew
          try simp only [Act.put, List.setIfInBounds_toArray, List.set_cons_zero, List.set_cons_succ]
          refine wpAnyH_ready (rs := [18]) (by kernel_rfl) (by simp) ?_
          refine AllReadyH.cons (i := 18) at18 (fun K hK => ?_) AllReadyH.nil
          go_simp
          refine (sameT_c _ _ _ _ _ _ oA.out (hLx.out _ kk.out) hLl).mono ?_
          rintro e y9 ⟨rfl, hBz⟩
          have kk := hidden (kk.out.trans (hBz.mono kk.out.size))
          have hS := hcz.out y9 kk.out
          refine hK.out _ _ ?_ (fun hNew => ?_)
          · exact hS
          clear hK K hHeld
          have hHeld := hNew
          clear hNew
          try simp only [Act.put, List.setIfInBounds_toArray, List.set_cons_zero, List.set_cons_succ]
          first
            | (refine wpAnyH_take (i := 19) (v := ?_) at19 (by kernel_rfl) (by kernel_rfl) (by kernel_rfl) (fun _ _ _ h => h) (Or.inl ⟨by rfl, ?_⟩) (by assumption) ?_
               rotate_left
               · intro w hSw; (try dsimp only at hSw); go_simp; try with_reducible rfl)
            | fail "take 19"
          try simp only [Act.put, List.setIfInBounds_toArray, List.set_cons_zero, List.set_cons_succ]
          first
            | (refine wpAnyH_take (i := 20) (v := ?_) at20 (by kernel_rfl) (by kernel_rfl) (by kernel_rfl) (fun _ _ _ h => h) (Or.inl ⟨by rfl, ?_⟩) (by assumption) ?_
               rotate_left
               · intro w hSw; (try dsimp only at hSw); go_simp; try with_reducible rfl)
            | fail "take 20"
          try simp only [Act.put, List.setIfInBounds_toArray, List.set_cons_zero, List.set_cons_succ]
          first
            | (refine wpAnyH_take (i := 21) (v := ?_) at21 (by kernel_rfl) (by kernel_rfl) (by kernel_rfl) (fun _ _ _ h => h) (Or.inl ⟨by rfl, ?_⟩) (by assumption) ?_
               rotate_left
               · intro w hSw; (try dsimp only at hSw); go_simp; try with_reducible rfl)
            | fail "take 21"
          try simp only [Act.put, List.setIfInBounds_toArray, List.set_cons_zero, List.set_cons_succ]
          first
            | (refine wpAnyH_take (i := 22) (v := ?_) at22 (by kernel_rfl) (by kernel_rfl) (by kernel_rfl) (fun _ _ _ h => h) (Or.inl ⟨by rfl, ?_⟩) (by assumption) ?_
               rotate_left
               · intro w hSw; (try dsimp only at hSw); go_simp; try with_reducible rfl)
            | fail "take 22"
          try simp only [Act.put, List.setIfInBounds_toArray, List.set_cons_zero, List.set_cons_succ]
          first
            | (refine wpAnyH_take (i := 23) (v := ?_) at23 (by kernel_rfl) (by kernel_rfl) (by kernel_rfl) (fun _ _ _ h => h) (Or.inl ⟨by rfl, ?_⟩) (by assumption) ?_
               rotate_left
               · intro w hSw; (try dsimp only at hSw); go_simp; try with_reducible rfl)
            | fail "take 23"
          try simp only [Act.put, List.setIfInBounds_toArray, List.set_cons_zero, List.set_cons_succ]
          first
            | (refine wpAnyH_take (i := 24) (v := ?_) at24 (by kernel_rfl) (by kernel_rfl) (by kernel_rfl) (fun _ _ _ h => h) (Or.inl ⟨by rfl, ?_⟩) (by assumption) ?_
               rotate_left
               · intro w hSw; (try dsimp only at hSw); go_simp; try with_reducible rfl)
            | fail "take 24"
          try simp only [Act.put, List.setIfInBounds_toArray, List.set_cons_zero, List.set_cons_succ]
          first
            | (refine wpAnyH_take (i := 25) (v := ?_) at25 (by kernel_rfl) (by kernel_rfl) (by kernel_rfl) (fun _ _ _ h => h) (Or.inl ⟨by rfl, ?_⟩) (by assumption) ?_
               rotate_left
               · intro w hSw; (try dsimp only at hSw); go_simp; try with_reducible rfl)
            | fail "take 25"
          try simp only [Act.put, List.setIfInBounds_toArray, List.set_cons_zero, List.set_cons_succ]
          first
            | (refine wpAnyH_take (i := 26) (v := ?_) at26 (by kernel_rfl) (by kernel_rfl) (by kernel_rfl) (fun _ _ _ h => h) (Or.inl ⟨by rfl, ?_⟩) (by assumption) ?_
               rotate_left
               · intro w hSw; (try dsimp only at hSw); go_simp; try with_reducible rfl)
            | fail "take 26"
          try simp only [Act.put, List.setIfInBounds_toArray, List.set_cons_zero, List.set_cons_succ]
          first
            | (refine wpAnyH_take (i := 27) (v := ?_) at27 (by kernel_rfl) (by kernel_rfl) (by kernel_rfl) (fun _ _ _ h => h) (Or.inl ⟨by rfl, ?_⟩) (by assumption) ?_
               rotate_left
               · intro w hSw; (try dsimp only at hSw); go_simp; try with_reducible rfl)
            | fail "take 27"
          try simp only [Act.put, List.setIfInBounds_toArray, List.set_cons_zero, List.set_cons_succ]
          first
            | (refine wpAnyH_take (i := 28) (v := ?_) at28 (by kernel_rfl) (by kernel_rfl) (by kernel_rfl) (fun _ _ _ h => h) (Or.inl ⟨by rfl, ?_⟩) (by assumption) ?_
               rotate_left
               · intro w hSw; (try dsimp only at hSw); go_simp; try with_reducible rfl)
            | fail "take 28"
          try simp only [Act.put, List.setIfInBounds_toArray, List.set_cons_zero, List.set_cons_succ]
          first
            | (refine wpAnyH_take (i := 29) (v := ?_) at29 (by kernel_rfl) (by kernel_rfl) (by kernel_rfl) (fun _ _ _ h => h) (Or.inl ⟨by rfl, ?_⟩) (by assumption) ?_
               rotate_left
               · intro w hSw; (try dsimp only at hSw); go_simp; try with_reducible rfl)
            | fail "take 29"
          try simp only [Act.put, List.setIfInBounds_toArray, List.set_cons_zero, List.set_cons_succ]
          refine wpAnyH_take (i := 30) (v := undef) at30 (by kernel_rfl) (by kernel_rfl) (by kernel_rfl) (fun _ _ _ h => h) (Or.inr ⟨by rfl, rfl⟩) (by assumption) ?_
          try simp only [Act.put, List.setIfInBounds_toArray, List.set_cons_zero, List.set_cons_succ]
          refine wpAnyH_take (i := 31) (v := undef) at31 (by kernel_rfl) (by kernel_rfl) (by kernel_rfl) (fun _ _ _ h => h) (Or.inr ⟨by rfl, rfl⟩) (by assumption) ?_
          try simp only [Act.put, List.setIfInBounds_toArray, List.set_cons_zero, List.set_cons_succ]
          refine wpAnyH_take (i := 32) (v := undef) at32 (by kernel_rfl) (by kernel_rfl) (by kernel_rfl) (fun _ _ _ h => h) (Or.inr ⟨by rfl, rfl⟩) (by assumption) ?_
          try simp only [Act.put, List.setIfInBounds_toArray, List.set_cons_zero, List.set_cons_succ]
          first
            | (refine wpAnyH_take (i := 33) (v := ?_) at33 (by kernel_rfl) (by kernel_rfl) (by kernel_rfl) (fun _ _ _ h => h) (Or.inl ⟨by rfl, ?_⟩) (by assumption) ?_
               rotate_left
               · intro w hSw; (try dsimp only at hSw); go_simp; try with_reducible rfl)
            | fail "take 33"
          try simp only [Act.put, List.setIfInBounds_toArray, List.set_cons_zero, List.set_cons_succ]
          first
            | (refine wpAnyH_take (i := 34) (v := ?_) at34 (by kernel_rfl) (by kernel_rfl) (by kernel_rfl) (fun _ _ _ h => h) (Or.inl ⟨by rfl, ?_⟩) (by assumption) ?_
               rotate_left
               · intro w hSw; (try dsimp only at hSw); go_simp; try with_reducible rfl)
            | fail "take 34"
          try simp only [Act.put, List.setIfInBounds_toArray, List.set_cons_zero, List.set_cons_succ]
          first
            | (refine wpAnyH_take (i := 35) (v := ?_) at35 (by kernel_rfl) (by kernel_rfl) (by kernel_rfl) (fun _ _ _ h => h) (Or.inl ⟨by rfl, ?_⟩) (by assumption) ?_
               rotate_left
               · intro w hSw; (try dsimp only at hSw); go_simp; try with_reducible rfl)
            | fail "take 35"
          try simp only [Act.put, List.setIfInBounds_toArray, List.set_cons_zero, List.set_cons_succ]
          first
            | (refine wpAnyH_take (i := 36) (v := ?_) at36 (by kernel_rfl) (by kernel_rfl) (by kernel_rfl) (fun _ _ _ h => h) (Or.inl ⟨by rfl, ?_⟩) (by assumption) ?_
               rotate_left
               · intro w hSw; (try dsimp only at hSw); go_simp; try with_reducible rfl)
            | fail "take 36"
          try simp only [Act.put, List.setIfInBounds_toArray, List.set_cons_zero, List.set_cons_succ]
          first
            | (refine wpAnyH_take (i := 37) (v := ?_) at37 (by kernel_rfl) (by kernel_rfl) (by kernel_rfl) (fun _ _ _ h => h) (Or.inl ⟨by rfl, ?_⟩) (by assumption) ?_
               rotate_left
               · intro w hSw; (try dsimp only at hSw); go_simp; try with_reducible rfl)
            | fail "take 37"
          try simp only [Act.put, List.setIfInBounds_toArray, List.set_cons_zero, List.set_cons_succ]
          first
            | (refine wpAnyH_take (i := 38) (v := ?_) at38 (by kernel_rfl) (by kernel_rfl) (by kernel_rfl) (fun _ _ _ h => h) (Or.inl ⟨by rfl, ?_⟩) (by assumption) ?_
               rotate_left
               · intro w hSw; (try dsimp only at hSw); go_simp; try with_reducible rfl)
            | fail "take 38"
          try simp only [Act.put, List.setIfInBounds_toArray, List.set_cons_zero, List.set_cons_succ]
          first
            | (refine wpAnyH_take (i := 39) (v := ?_) at39 (by kernel_rfl) (by kernel_rfl) (by kernel_rfl) (fun _ _ _ h => h) (Or.inl ⟨by rfl, ?_⟩) (by assumption) ?_
               rotate_left
               · intro w hSw; (try dsimp only at hSw); go_simp; try with_reducible rfl)
            | fail "take 39"
          try simp only [Act.put, List.setIfInBounds_toArray, List.set_cons_zero, List.set_cons_succ]
          first
            | (refine wpAnyH_take (i := 40) (v := ?_) at40 (by kernel_rfl) (by kernel_rfl) (by kernel_rfl) (fun _ _ _ h => h) (Or.inl ⟨by rfl, ?_⟩) (by assumption) ?_
               rotate_left
               · intro w hSw; (try dsimp only at hSw); go_simp; try with_reducible rfl)
            | fail "take 40"
          try simp only [Act.put, List.setIfInBounds_toArray, List.set_cons_zero, List.set_cons_succ]
          first
            | (refine wpAnyH_take (i := 41) (v := ?_) at41 (by kernel_rfl) (by kernel_rfl) (by kernel_rfl) (fun _ _ _ h => h) (Or.inl ⟨by rfl, ?_⟩) (by assumption) ?_
               rotate_left
               · intro w hSw; (try dsimp only at hSw); go_simp; try with_reducible rfl)
            | fail "take 41"
          try simp only [Act.put, List.setIfInBounds_toArray, List.set_cons_zero, List.set_cons_succ]
          first
            | (refine wpAnyH_take (i := 42) (v := ?_) at42 (by kernel_rfl) (by kernel_rfl) (by kernel_rfl) (fun _ _ _ h => h) (Or.inl ⟨by rfl, ?_⟩) (by assumption) ?_
               rotate_left
               · intro w hSw; (try dsimp only at hSw); go_simp; try with_reducible rfl)
            | fail "take 42"
          try simp only [Act.put, List.setIfInBounds_toArray, List.set_cons_zero, List.set_cons_succ]
          refine wpAnyH_done (by kernel_rfl) ?_ _
          go_wp2_with fail
          have kk := hidden (kk.out.trans (Below.refl _ _).drew)
          have hS := hcz.out _ kk.out
          go_region_held3 (fun y => y.cell? ⟨w.heap.size, 0, none⟩ = some (.slice a n c) ∧ y.cell? ⟨w.heap.size, 1, none⟩ = some (.slice b m d) ∧ y.cell? ⟨w.heap.size + 1, 0, none⟩ = some (.string t) ∧ y.cell? ⟨w.heap.size + 1, 1, none⟩ = some (.bool back)) (first | exact hS | go_keep) (first
            | (go_at_call 19; refine (hOu.out _ kk.out).mono ?_; rintro e y9 ⟨a9, c9, rfl, hr9, hBz⟩
               have kk := hidden (kk.out.trans (hBz.mono kk.out.size))
               have hS := hcz.out y9 kk.out
               have oA := hidden hr9)
            | (go_at_call 21; refine (hIn.out _ kk.out).mono ?_; rintro e y9 ⟨a9, c9, rfl, hr9, hBz⟩
               have kk := hidden (kk.out.trans (hBz.mono kk.out.size))
               have hS := hcz.out y9 kk.out
               have oA := hidden hr9)
            | (go_at_call 22; refine (hSt.out _ kk.out).mono ?_; rintro e y9 ⟨a9, c9, rfl, hr9, hBz⟩
               have kk := hidden (kk.out.trans (hBz.mono kk.out.size))
               have hS := hcz.out y9 kk.out
               have oA := hidden hr9)
            | (go_at_call_of 20 (Value.bool false); refine (hRw0.out _ kk.out).mono ?_; rintro e y9 ⟨a8, c8, rfl, hr8, hBz⟩
               have kk := hidden (kk.out.trans (hBz.mono kk.out.size))
               have hS := hcz.out y9 kk.out
               have oA := hidden (oA.out.below hBz)
               have oB := hidden hr8)
            | (go_at_call_of 20 (Value.bool true); refine (hRw1.out _ kk.out).mono ?_; rintro e y9 ⟨a8, c8, rfl, hr8, hBz⟩
               have kk := hidden (kk.out.trans (hBz.mono kk.out.size))
               have hS := hcz.out y9 kk.out
               have oA := hidden (oA.out.below hBz)
               have oB := hidden hr8)
            | (go_at_call 23; refine (hRs.out _ kk.out).mono ?_; rintro e y9 ⟨a8, c8, rfl, hr8, hBz⟩
               have kk := hidden (kk.out.trans (hBz.mono kk.out.size))
               have hS := hcz.out y9 kk.out
               have oA := hidden (oA.out.below hBz)
               have oB := hidden hr8)
            | (go_at_call 18; refine (asame_c _ _ _ _ ⟨_, _, rfl, oA.out⟩ ⟨_, _, rfl, oB.out⟩ (by first | exact hl0 | exact hl1 | exact hl2)).mono ?_; rintro e y9 ⟨rfl, hBz⟩
               have kk := hidden (kk.out.trans (hBz.mono kk.out.size))
               have hS := hcz.out y9 kk.out
               skip)
            | fail)
          go_wp2_with fail
          have kk := hidden (kk.out.trans (Below.refl _ _).drew)
          have hS := hcz.out _ kk.out
          go_region_held3 (fun y => y.cell? ⟨w.heap.size, 0, none⟩ = some (.slice a n c) ∧ y.cell? ⟨w.heap.size, 1, none⟩ = some (.slice b m d) ∧ y.cell? ⟨w.heap.size + 1, 0, none⟩ = some (.string t) ∧ y.cell? ⟨w.heap.size + 1, 1, none⟩ = some (.bool back)) (first | exact hS | go_keep) (first
            | (go_at_call_of 24 (Value.bool false); refine (hDe0.out _ kk.out).mono ?_; rintro e y9 ⟨rfl, hBz⟩
               have kk := hidden (kk.out.trans (hBz.mono kk.out.size))
               have hS := hcz.out y9 kk.out
               skip)
            | (go_at_call_of 24 (Value.bool true); refine (hDe1.out _ kk.out).mono ?_; rintro e y9 ⟨rfl, hBz⟩
               have kk := hidden (kk.out.trans (hBz.mono kk.out.size))
               have hS := hcz.out y9 kk.out
               skip)
            | (go_at_call_of 20 (Value.bool false); refine (hRw0.out _ kk.out).mono ?_; rintro e y9 ⟨a8, c8, rfl, hr8, hBz⟩
               have kk := hidden (kk.out.trans (hBz.mono kk.out.size))
               have hS := hcz.out y9 kk.out
               skip)
            | (go_at_call_of 20 (Value.bool true); refine (hRw1.out _ kk.out).mono ?_; rintro e y9 ⟨a8, c8, rfl, hr8, hBz⟩
               have kk := hidden (kk.out.trans (hBz.mono kk.out.size))
               have hS := hcz.out y9 kk.out
               skip)
            | (go_at_call 10; refine (hlv.out _ (GoX.Calm.of_below (hBx.out.trans (kk.out.mono hBx.out.size)))).mono ?_; rintro e y9 ⟨rfl, hCz⟩
               obtain ⟨p0, p1⟩ := (box2f (box_calm (hbx.out _ kk.out).1 hCz)).1
               obtain ⟨p2, p3⟩ := (box2f (box_calm (hbx.out _ kk.out).2 hCz)).1
               have hS := And.intro p0 (And.intro p1 (And.intro p2 p3))
               have hfin := hidden ((GoX.Calm.of_below (hBx.out.trans (kk.out.mono hBx.out.size))).trans hCz))
            | fail)
          go_wp2
          go_ret
          exact ⟨by first | done | rfl | simp, hfin.out⟩
      · have h2 := csrBad_c g us a2 n2 c2 d2 m2 e2 w2 hU hsm.out hok
        clear hU
        have g2 : ((checkG g).2 != 0) = true := by simp [hok]
        replace hok := hidden hok
        generalize (checkG g).2 = q at *
        generalize (checkG g).1 = q0 at *
        go_wp2_with fail
        refine h2.mono ?_
        rintro e w3 ⟨rfl, hD⟩
        have k3 : Hid (Below y.heap.size y w3) := k2.out.trans (hD.mono k2.out.size)
        obtain ⟨⟨b0, b1⟩, -⟩ := box2f (hXY.out w3 k3.out).1
        have h3 := hchk.out w3 k3.out
        clear hD k2 h2 hchk
        go_wp2_with fail
        refine h3.mono ?_
        rintro e w4 ⟨rfl, hD⟩
        have k4 : Hid (Below y.heap.size y w4) := k3.out.trans (hD.mono k3.out.size)
        have h6 := hlv w4 (.of_below (hC2.out.trans (k4.out.mono hC2.out.size)))
        clear hD k3 h3 b0 b1 hlv
        go_wp2_with fail
        refine h6.mono ?_
        rintro e w7 ⟨rfl, hD⟩
        have hfin : Hid (GoX.Calm w w7) := GoX.Calm.trans (.of_below (hC2.out.trans (k4.out.mono hC2.out.size))) hD
        clear hD k4 h6
        go_wp2
        go_ret
        exact ⟨by first | done | rfl | simp, hfin.out⟩
    exact AllReadyH.nil
  exact AllReadyH.nil
end Go.Proofs.Ytgojieabeaalcaa
