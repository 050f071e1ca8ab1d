/-
  A CUT TEXT, by contract.
-/
import Derived.Test.YtnmjhbnadfjapaaRec
import Derived.Laws.Rows
import Derived.Laws.ResultCell
import Derived.Test.YtnmjhbnadfjapaaGRel
import Derived.WalkSmall
import Derived.Deep.RegionHeld3
import Derived.Deep.AppendLies
namespace Go.Proofs.Ytnmjhbnadfjapaa
open Go.ChangeShapes Go.WideShapes Go.ChangeAt Go.RowKit

def cutB (s : ByteArray) (m : Nat) : ByteArray := if m < s.size then s.extract 0 m else s
theorem cutB_size (s : ByteArray) (m : Nat) : (cutB s m).size ≤ m := by
  unfold cutB; split
  · simp; omega
  · omega

set_option maxHeartbeats 800000 in
theorem cut_c (s : ByteArray) (m : Nat) (w : World) (hm : m ≤ 1000) :
    Calls Try.prog 8 #[.string s, .int .i64 m] w fun e w' => e = .returned (.string (cutB s m)) ∧ w' = w := by
  unfold cutB
  by_cases h : m < s.size
  · rw [if_pos h]
    go_enter Try.func8, Try.ntmps8
    go_wp2
    go_ret
    exact ⟨rfl, rfl⟩
  · rw [if_neg h]
    go_enter Try.func8, Try.ntmps8
    go_wp2
    go_ret
    exact ⟨rfl, rfl⟩
end Go.Proofs.Ytnmjhbnadfjapaa
/-
  A VALUE, SOMEWHAT CUT, by contract.
-/
namespace Go.Proofs.Ytnmjhbnadfjapaa
open Go.ChangeShapes Go.WideShapes Go.ChangeAt Go.RowKit

theorem heapTwo_new (w : World) (a b : Obj) : ((w.alloc a).alloc b).heap[w.heap.size + 1]? = some b := by
  rw [show w.heap.size + 1 = (w.alloc a).heap.size by show _ = (w.heap.push a).size; simp]
  exact heap_alloc_new _ _
set_option maxHeartbeats 800000 in
theorem vfew_c (k n : Int) (s : ByteArray) (w : World) : Calls Try.prog 9 #[.agg #[.int .i64 k, .int .i64 n, .string s]] w
    fun e w' => e = .returned (.agg #[.int .i64 k, .int .i64 n, .string (cutB s 120)]) ∧ Below w.heap.size w w' := by
  have hc := fun w => cut_c s 120 w (by omega)
  generalize cutB s 120 = t at *
  go_enter Try.func9, Try.ntmps9
  go_wp2_with (go_at_call 8; refine (hc _).mono ?_; rintro e w' ⟨rfl, rfl⟩)
  refine bodyPost_ret (results_cell_row rfl _ _ (w.heap.size + 1) _ _ _ _ rfl (heapTwo_new _ _ _) Try.underlying27 rfl (by kernel_rfl)) rfl ⟨rfl, ?_⟩
  exact ((Below.refl _ _).alloc (Nat.le_refl _) _).alloc (by show _ ≤ (w.heap.push _).size; simp) _
end Go.Proofs.Ytnmjhbnadfjapaa
/-
  A GRAPH COPIED, by contract.
-/
namespace Go.Proofs.Ytnmjhbnadfjapaa
open Go.ChangeShapes Go.WideShapes Go.ChangeAt Go.RowKit

def Pp.few (p : Pp) : Pp := ⟨cutB p.s 35, p.k, p.n, cutB p.t 120⟩
def Nd.few (x : Nd) : Nd := ⟨cutB x.l 35, (x.ps.take 10).map Pp.few⟩
def Eg.few (x : Eg) : Eg := ⟨x.f, x.t, cutB x.l 35, x.w⟩
def Gr.few (g : Gr) : Gr := ⟨(g.ns.take 10).map Nd.few, (g.es.take 30).map Eg.few⟩
theorem box2f {x : World} {b : Nat} {c0 c1 : Value} {t : TypeId} (h : x.heap[b]? = some (.cells #[c0, c1] t)) : (x.cell? ⟨b, 0, none⟩ = some c0 ∧ x.cell? ⟨b, 1, none⟩ = some c1) ∧ x.frozen? ⟨b, 0, none⟩ = false ∧ x.frozen? ⟨b, 1, none⟩ = false := by
  simp [World.cell?, World.frozen?, h]
theorem box4f {x : World} {b : Nat} {c0 c1 c2 c3 : Value} {t : TypeId} (h : x.heap[b]? = some (.cells #[c0, c1, c2, c3] t)) :
    (x.cell? ⟨b, 0, none⟩ = some c0 ∧ x.cell? ⟨b, 1, none⟩ = some c1 ∧ x.cell? ⟨b, 2, none⟩ = some c2 ∧ x.cell? ⟨b, 3, none⟩ = some c3) ∧ x.frozen? ⟨b, 0, none⟩ = false ∧ x.frozen? ⟨b, 1, none⟩ = false ∧ x.frozen? ⟨b, 2, none⟩ = false ∧ x.frozen? ⟨b, 3, none⟩ = false := by
  simp [World.cell?, World.frozen?, h]
theorem step_wp {P : Program} {ops : Array Oper} {o : Oper} {a : Act} {w : World} {K : Act → World → Prop} {Q : Exit → Act → World → Prop} {E : Prop} (hg : o.guard = none) (h : o.wp P a w K Q) : if Region.wanted o (yielded ops a.tmps) = true then Oper.wp P o a w K Q else E := by
  have hw : Region.wanted o (yielded ops a.tmps) = true := by simp [Region.wanted, hg]
  rw [if_pos hw]
  exact h
theorem wp_call {P : Program} {Q : Exit → Act → World → Prop} {o : Oper} {a : Act} {w : World} {K : Act → World → Prop} {f : FuncId} {args : Array Operand} {ats : Array TypeId} {vs : Array Value} (hop : o.op = .call { callee := .value (.func f), args := args, argTypes := ats }) (hE : ∀ args w, (callFunc f args).run P w = .ok (.enter f args) w) (hv : args.map a.eval = vs)
    (h : Calls P f vs w fun e w' => ∃ v, e = .returned v ∧ K (a.put o.dst v) w') : o.wp P a w K Q := by
  have e : execOp a.eval o = callFunc f (#[] ++ args.map a.eval ++ #[]) := by
    cases o
    cases hop
    rfl
  unfold Oper.wp
  rw [e, hE, hv]
  simp only [Array.empty_append, Array.append_empty]
  exact h.mono fun e w' ⟨v, he, hk⟩ => by subst he; exact hk
theorem cells_new2 (w : World) (o : Obj) (xs : List Value) (t : TypeId) : ∀ j x, xs[j]? = some x → ((w.alloc o).alloc (.cells xs.toArray t)).cell? ((⟨w.heap.size + 1, 0, none⟩ : Addr).add j) = some x := fun j x hj => by
  have h := cells_new (w.alloc o) xs t j x hj
  rwa [show (w.alloc o).heap.size = w.heap.size + 1 by show (w.heap.push o).size = _; simp] at h
theorem infoP : (Try.prog.info? 83).map (fun i => (i.zero, i.size, i.bytes)) = some (some (.agg #[.string ⟨#[]⟩, .int .i64 0, .int .i64 0, .string ⟨#[]⟩]), 4, 48) := by kernel_rfl
theorem infoN : (Try.prog.info? 44).map (fun i => (i.zero, i.size, i.bytes)) = some (some (.agg #[.string ⟨#[]⟩, .slice none 0 0]), 2, 40) := by kernel_rfl
theorem infoE : (Try.prog.info? 85).map (fun i => (i.zero, i.size, i.bytes)) = some (some (.agg #[.int .i64 0, .int .i64 0, .string ⟨#[]⟩, .int .i64 0]), 4, 40) := by kernel_rfl
theorem three (w : World) (a b : Array Value) (t : TypeId) : (((w.alloc (.cells a t)).alloc (.cells b t)).alloc (.cells b t)).heap[w.heap.size]? = some (.cells a t) ∧ (((w.alloc (.cells a t)).alloc (.cells b t)).alloc (.cells b t)).heap[w.heap.size + 1]? = some (.cells b t) ∧
    (((w.alloc (.cells a t)).alloc (.cells b t)).alloc (.cells b t)).heap[w.heap.size + 2]? = some (.cells b t) ∧ Below w.heap.size w (((w.alloc (.cells a t)).alloc (.cells b t)).alloc (.cells b t)) := by
  refine ⟨?_, ?_, ?_, (((Below.refl _ _).alloc (Nat.le_refl _) _).alloc (by show _ ≤ (w.heap.push _).size; simp) _).alloc (by show _ ≤ ((w.heap.push _).push _).size; simp; omega) _⟩
  · show (((w.heap.push _).push _).push _)[_]? = _
    rw [Array.getElem?_push, if_neg (by simp; omega), Array.getElem?_push, if_neg (by simp), Array.getElem?_push, if_pos rfl]
  · show (((w.heap.push _).push _).push _)[_]? = _
    rw [Array.getElem?_push, if_neg (by simp), Array.getElem?_push, if_pos (by simp)]
  · show (((w.heap.push _).push _).push _)[_]? = _
    rw [Array.getElem?_push, if_pos (by simp)]
set_option maxHeartbeats 6400000 in
set_option maxRecDepth 100000 in
theorem gfewS_c (g : Gr) (nv ev : Value) (w : World) (hg : HoldsG w nv ev g) (_hn : g.ns.length ≤ 9223372036854775807) (_he : g.es.length ≤ 9223372036854775807) (_hp : ∀ x ∈ g.ns, x.ps.length ≤ 9223372036854775807) :
    Calls Try.prog 7 #[.agg #[nv, ev]] w fun e w' => ∃ (vs : List NdV) (a : Option Addr) (n c : Nat) (b : Option Addr) (m d : Nat), e = .returned (.agg #[.slice a n c, .slice b m d]) ∧ NodesAt w.heap.size (.slice a n c) vs (g.few).ns w' ∧ w'.ownsRow w.heap.size 85 4 (.slice b m d) (g.few).es.length (edgeR.flat (g.few).es) ∧ Below w.heap.size w w' := by
  obtain ⟨hN, hE⟩ := hg
  obtain ⟨na, nc, rfl⟩ := hN.slice
  obtain ⟨ea, ec, rfl, hrowE⟩ := hE
  replace hN := hidden hN
  replace hrowE := hidden hrowE
  replace _hp := hidden _hp
  obtain ⟨ip, hip, hp0, hp1, hp2⟩ := info_parts infoP
  obtain ⟨inn, hin, hn0, hn1, hn2⟩ := info_parts infoN
  obtain ⟨ie, hie, he0, he1, he2⟩ := info_parts infoE
  obtain ⟨t1, t2, t3, t4⟩ := three w #[.slice na g.ns.length nc, .slice ea g.es.length ec] #[.slice none 0 0, .slice none 0 0] 25
  have hG0 : Hid (G1 (.slice na g.ns.length nc) (.slice ea g.es.length ec) [] [] (.slice none 0 0) w (((w.alloc (.cells #[.slice na g.ns.length nc, .slice ea g.es.length ec] 25)).alloc (.cells #[.slice none 0 0, .slice none 0 0] 25)).alloc (.cells #[.slice none 0 0, .slice none 0 0] 25))) :=
    ⟨t4, t1, t2, t3, World.ownsRow_nil .., rfl, fun i hi => by simp at hi⟩
  clear t1 t2 t3 t4
  go_enter Try.func7, Try.ntmps7
  go_wp2
  go_loopw [4] (fun i wr => ∃ (k : Nat) (vs : List NdV) (u : Value), k ≤ g.ns.length ∧ k ≤ 10 ∧ i = .int .i64 k ∧ Hid (G1 (.slice na g.ns.length nc) (.slice ea g.es.length ec) vs ((g.ns.take k).map Nd.few) u w wr)) (fun i _ => g.ns.length - (intOf i).toNat)
  case atStart => exact ⟨0, [], _, Nat.zero_le _, Nat.zero_le _, rfl, hG0⟩
  case round =>
    clear hG0
    obtain ⟨k, vs, u, hk, hk10, rfl, hl⟩ := hrel
    obtain ⟨⟨g0, g1⟩, -⟩ := box2f hl.out.b1
    by_cases hlt : k < g.ns.length ∧ k < 10
    · obtain ⟨hlt1, hlt2⟩ := hlt
      obtain ⟨b, off, pa, pn, pc, rfl, hb, hc0, hc1, hps⟩ := node_at hN.out hlt1
      have hplen : Hid ((g.ns.getD k Nd.none).ps.length ≤ 9223372036854775807) := by
        have e : g.ns.getD k Nd.none = g.ns[k] := by simp [List.getD, hlt1]
        show _ ≤ _
        rw [e]; exact _hp.out _ (List.getElem_mem hlt1)
      have htk := hidden (take_snocR g.ns Nd.none k hlt1)
      generalize g.ns.getD k Nd.none = nd at *
      obtain ⟨nl, nps⟩ := nd
      simp only at hc0 hps hplen
      have hx0 := (hl.out.below.cell (p := ⟨b, off + k * 2, none⟩) (by exact hb)).trans hc0
      have hx1 := (hl.out.below.cell (p := ⟨b, off + k * 2 + 1, none⟩) (by exact hb)).trans hc1
      have hj1 : (k : Int) < (g.ns.length : Int) := by omega
      have hcut := fun z => cut_c nl 35 z (by decide)
      obtain ⟨pa', pc', heq, hprow⟩ := hps
      simp only [Value.slice.injEq] at heq
      obtain ⟨rfl, rfl, rfl⟩ := heq
      replace hprow := hidden hprow
      have hI0 : Hid (InN (cutB nl 35) [] (.slice none 0 0) wr (wr.alloc (.cells #[.string (cutB nl 35), .slice none 0 0] 44))) :=
        ⟨(Below.refl _ _).alloc (Nat.le_refl _) _, heap_alloc_new _ _, World.ownsRow_nil ..⟩
      generalize hcl : cutB nl 35 = cl at *
      replace hcl := hidden hcl
      go_wp2_with fail
      refine (hcut _).mono ?_
      rintro e y0 ⟨rfl, rfl⟩
      clear hcut g0 g1 hx0 hx1
      go_wp2_with fail
      go_loopw [6] (fun i x => ∃ (j : Nat) (pu : Value), j ≤ nps.length ∧ j ≤ 10 ∧ i = .int .i64 j ∧ Hid (InN cl ((nps.take j).map Pp.few) pu y0 x)) (fun i _ => nps.length - (intOf i).toNat)
      case atStart => exact ⟨0, _, Nat.zero_le _, Nat.zero_le _, rfl, hI0⟩
      case round =>
        clear hI0
        obtain ⟨j, pu, hj, hj10, rfl, hin2⟩ := hrel
        have hG2 := hidden (hl.out.step hin2.out.below)
        obtain ⟨⟨g0, g1⟩, -⟩ := box2f hG2.out.b1
        have hx1 := (hG2.out.below.cell (p := ⟨b, off + k * 2 + 1, none⟩) (by exact hb)).trans hc1
        by_cases hlt : j < nps.length ∧ j < 10
        · obtain ⟨hlt3, hlt4⟩ := hlt
          have hi1 : (j : Int) < (nps.length : Int) := by omega
          obtain ⟨b5, o5, rfl, hb5, e0, e1, e2, e3⟩ := prop_at hprow.out hlt3
          have htj := hidden (take_snocR nps Pp.none j hlt3)
          generalize nps.getD j Pp.none = q at *
          obtain ⟨qs, qk, qn, qt⟩ := q
          simp only at e0 e1 e2 e3
          have f0 := (hG2.out.below.cell (p := ⟨b5, o5 + j * 4, none⟩) (by exact hb5)).trans e0
          have f1 := (hG2.out.below.cell (p := ⟨b5, o5 + j * 4 + 1, none⟩) (by exact hb5)).trans e1
          have f2 := (hG2.out.below.cell (p := ⟨b5, o5 + j * 4 + 2, none⟩) (by exact hb5)).trans e2
          have f3 := (hG2.out.below.cell (p := ⟨b5, o5 + j * 4 + 3, none⟩) (by exact hb5)).trans e3
          have hIA := hidden (hin2.out.step ((Below.refl _ _).alloc (Nat.le_refl _) (.cells #[.string qs, .int .i64 qk, .int .i64 qn, .string qt] 83)))
          have hPB := hidden (heap_alloc_new wr (.cells #[.string qs, .int .i64 qk, .int .i64 qn, .string qt] 83))
          generalize hxa : wr.alloc (.cells #[.string qs, .int .i64 qk, .int .i64 qn, .string qt] 83) = xa at *
          replace hxa := hidden hxa
          have hcutp := fun z => cut_c qs 35 z (by decide)
          have hvf := vfew_c qk qn qt xa.drew
          have hfe : Hid (Pp.few ⟨qs, qk, qn, qt⟩ = ⟨cutB qs 35, qk, qn, cutB qt 120⟩) := hidden rfl
          have hcnt : Hid (((nps.take j).map Pp.few).length = j) := by show _ = _; rw [List.length_map, List.length_take]; omega
          generalize cutB qs 35 = cs at *
          generalize cutB qt 120 = ct at *
          clear e0 e1 e2 e3
          obtain ⟨⟨p0, p1, p2, p3⟩, -⟩ := box4f hPB.out
          obtain ⟨⟨n0, n1⟩, m0, m1⟩ := box2f hIA.out.box
          go_wp2_with fail
          rw [hxa.out]
          go_region_law (first
            | (refine step_wp (by rfl) (wp_call (vs := #[.string qs, .int .i64 35]) (by rfl) (fun _ _ => rfl) (by simp only [List.map_toArray, List.map_cons, List.map_nil] <;> rfl) ((hcutp _).mono ?_)); rintro e z ⟨rfl, rfl⟩; refine ⟨_, rfl, ?_⟩)
            | (refine step_wp (by rfl) (wp_call (vs := #[.agg #[.int .i64 qk, .int .i64 qn, .string qt]]) (by rfl) (fun _ _ => rfl) (by simp only [List.map_toArray, List.map_cons, List.map_nil] <;> rfl) (hvf.mono ?_)); rintro e w5 ⟨rfl, hB5⟩; refine ⟨_, rfl, ?_⟩
               have hB6 : Below xa.heap.size xa w5 := (Below.refl _ _).drew.trans hB5
               have hI5 := hidden (hIA.out.step hB6)
               have d1 := (box2f hI5.out.box).1.2
               have z1 := World.new_ne _ _ d1
               have z2 : ∀ o, (w5.alloc o).cell? ⟨y0.heap.size, 1, none⟩ = some pu := fun o => (World.cell?_alloc_lt _ _ _ (World.block_lt_of_cell? _ _ d1)).trans d1)
            | (refine step_append_own (by rfl) _ _ _ (by rfl) y0.heap.size 83 ip _ 4 48 Try.underlying42 hip hp0 hp1 hp2 rfl (by decide) pu _ _ (by rfl) (hI5.out.row.alloc _) ⟨w5.heap.size, 0, none⟩ 1 1 [.string cs, .int .i64 qk, .int .i64 qn, .string ct] (by rfl) (by rfl) (cells_new w5 [_, _, _, _] _) (by simp [Value.oneCell']) (by have := hcnt.out; unfold maxLen; omega) (by have := hcnt.out; omega) (by have := hI5.out.below.size; simp; omega) ?_; intro v' w6 hown6 hgrow6; obtain ⟨a9, c9, rfl⟩ := own_shape hown6
               have hb6 := box_grown (heap_alloc_old _ _ (Array.getElem?_eq_some_iff.1 hI5.out.box).1 |>.trans hI5.out.box) (hI5.out.row.alloc _) (by decide) hgrow6
               obtain ⟨⟨r0, r1⟩, q0, q1⟩ := box2f hb6))
          all_goals
            have hI6 := (hI5.out.step ((Below.refl _ _).alloc (Nat.le_refl _) (.cells #[.string cs, .int .i64 qk, .int .i64 qn, .string ct] 83))).next (q := ⟨cs, qk, qn, ct⟩) hown6 hgrow6
            rw [hcnt.out] at hI6
            have htj2 : (nps.take (j + 1)).map Pp.few = (nps.take j).map Pp.few ++ [⟨cs, qk, qn, ct⟩] := by
              rw [htj.out, List.map_append, ← hfe.out]; rfl
            rw [← htj2] at hI6
            replace hI6 := hidden hI6
            clear htj2 hI5 hown6 hgrow6 hb6 r0 r1 q0 q1 d1 z1 z2 hB5 hB6 p0 p1 p2 p3 n0 n1 m0 m1 hvf hcutp hxa hPB hIA f0 f1 f2 f3 g0 g1 hx1 hG2 hin2 htj hfe hcnt
            go_wp2
            go_roundw
            case rel => exact ⟨j + 1, _, by omega, by omega, by go_num, hI6⟩
            case measure => simp [intOf]; omega
        · have e10 : nps.take 10 = nps.take j := by
            by_cases h : j < nps.length
            · obtain rfl : j = 10 := by omega
              rfl
            · rw [List.take_of_length_le (by omega), List.take_of_length_le (by omega)]
          have hnf : Hid (Nd.few ⟨nl, nps⟩ = Nd.mk cl ((nps.take j).map Pp.few)) := by
            show Nd.few _ = _
            unfold Nd.few
            rw [e10, hcl.out]
          have hvl : Hid (vs.length = k) := by
            show _ = _
            rw [hl.out.nodes.len, List.length_map, List.length_take]; omega
          obtain ⟨pa6, pc6, rfl⟩ := own_shape hin2.out.row
          generalize hL : ((nps.take j).map Pp.few).length = L at *
          replace hL := hidden hL
          obtain ⟨⟨n0, n1⟩, -⟩ := box2f hin2.out.box
          have hb3 : wr.heap[w.heap.size + 1 + 1]? = some (.cells #[u, .slice none 0 0] 25) := hG2.out.b3
          obtain ⟨⟨o0, o1⟩, -⟩ := box2f hb3
          replace hb3 := hidden hb3
          clear e10 hprow
          by_cases hlt3 : j < nps.length
          all_goals
            have hi2 : ¬ (j < nps.length ∧ j < 10) := hlt
            first
              | (have hi3 : ¬ (j : Int) < 10 := by omega)
              | (have hi3 : ¬ (j : Int) < (nps.length : Int) := by omega)
            first
              | (have hi4 : (j : Int) < (nps.length : Int) := by omega)
              | skip
            replace hi2 := hidden hi2
            clear hlt
            go_wp2_with (at_builtin; go_loud (refine wpList_append_own _ rfl _ _ 22 rfl w.heap.size 44 inn (.agg #[.string ⟨#[]⟩, .slice none 0 0]) 2 40 Try.underlying22 hin hn0 hn1 hn2 rfl (by decide) u _ _ rfl (hG2.out.nodes.row.alloc _) ⟨wr.heap.size, 0, none⟩ 1 1 [.string cl, .slice pa6 L pc6] rfl rfl (cells_new wr [_, _] _) (by intro x hx; simp at hx; rcases hx with rfl | rfl <;> rfl) (by have := hvl.out; unfold maxLen; omega) (by have := hvl.out; omega) (by have := hG2.out.below.size; simp; omega) ?_); intro v' w6 hown6 hgrow6 _; obtain ⟨a9, c9, rfl⟩ := own_shape hown6; have hb6 := box_grown ((heap_alloc_old _ _ (Array.getElem?_eq_some_iff.1 hb3.out).1).trans hb3.out) (hG2.out.nodes.row.alloc _) (by decide) hgrow6; obtain ⟨⟨r0, r1⟩, q0, q1⟩ := box2f hb6)
            have hG7 := (hG2.out.step ((Below.refl _ _).alloc (Nat.le_refl _) (.cells #[.string cl, .slice pa6 L pc6] 44))).next (ps := (nps.take j).map Pp.few) (own0 (owns_keep (by have h := hin2.out.row; rw [← hL.out] at h ⊢; exact h) ((Below.refl _ _).alloc (Nat.le_refl _) _))) hown6 hgrow6
            rw [show (g.ns.take k).map Nd.few ++ [Nd.mk cl ((nps.take j).map Pp.few)] = (g.ns.take (k + 1)).map Nd.few by rw [htk.out, List.map_append, ← hnf.out]; rfl] at hG7
            replace hG7 := hidden hG7
            clear hown6 hgrow6 hb6 r0 r1 q0 q1 n0 n1 o0 o1 hb3 hin2 hG2 hl htk hnf hcl g0 g1 hx1
            go_wp2
            go_roundw
            case rel => exact ⟨k + 1, _, _, by omega, by omega, by go_num, hG7⟩
            case measure => simp [intOf]; omega
    · have e10 : g.ns.take 10 = g.ns.take k := by
        by_cases h : k < g.ns.length
        · obtain rfl : k = 10 := by omega
          rfl
        · rw [List.take_of_length_le (by omega), List.take_of_length_le (by omega)]
      have hG : Hid (G2 (.slice na g.ns.length nc) (.slice ea g.es.length ec) vs ((g.ns.take 10).map Nd.few) u [] (.slice none 0 0) w wr) := by
        show G2 _ _ _ _ _ _ _ _ _
        rw [e10]
        exact ⟨hl.out.below, hl.out.b1, hl.out.b2, hl.out.b3, hl.out.nodes, World.ownsRow_nil ..⟩
      clear hl e10
      obtain ⟨NS, hNS⟩ : ∃ NS, Hid (NS = (g.ns.take 10).map Nd.few) := ⟨_, (rfl : _ = _)⟩
      rw [← hNS.out] at hG
      obtain ⟨ua, uc, rfl⟩ := own_shape hG.out.nodes.row
      generalize hvl : vs.length = VL at *
      replace hvl := hidden hvl
      by_cases hlt3 : k < g.ns.length
      all_goals
        first
          | (have hi3 : ¬ (k : Int) < 10 := by omega)
          | (have hi3 : ¬ (k : Int) < (g.ns.length : Int) := by omega)
        first
          | (have hi4 : (k : Int) < (g.ns.length : Int) := by omega)
          | skip
        clear hlt
        go_wp2_with fail
        go_loopw [8] (fun i x => ∃ (m : Nat) (eu : Value), m ≤ g.es.length ∧ m ≤ 30 ∧ i = .int .i64 m ∧ Hid (G2 (.slice na g.ns.length nc) (.slice ea g.es.length ec) vs NS (.slice ua VL uc) ((g.es.take m).map Eg.few) eu w x)) (fun i _ => g.es.length - (intOf i).toNat)
        case atStart => exact ⟨0, _, Nat.zero_le _, Nat.zero_le _, rfl, hG⟩
        case round =>
          clear hG g0 g1
          obtain ⟨m, eu, hm, hm30, rfl, hl⟩ := hrel
          obtain ⟨⟨g0, g1⟩, -⟩ := box2f hl.out.b1
          have hb3 : wr.heap[w.heap.size + 1 + 1]? = some (.cells #[.slice ua VL uc, eu] 25) := hl.out.b3
          obtain ⟨⟨o0, o1⟩, -⟩ := box2f hb3
          replace hb3 := hidden hb3
          by_cases hlt : m < g.es.length ∧ m < 30
          · obtain ⟨hm1, hm2⟩ := hlt
            obtain ⟨b5, o5, rfl, hb5, e0, e1, e2, e3⟩ := edge_at hrowE.out hm1
            have htm := hidden (take_snocR g.es Eg.none m hm1)
            generalize g.es.getD m Eg.none = q at *
            obtain ⟨qf, qt, ql, qw⟩ := q
            simp only at e0 e1 e2 e3
            have f0 := (hl.out.below.cell (p := ⟨b5, o5 + m * 4, none⟩) (by exact hb5)).trans e0
            have f1 := (hl.out.below.cell (p := ⟨b5, o5 + m * 4 + 1, none⟩) (by exact hb5)).trans e1
            have f2 := (hl.out.below.cell (p := ⟨b5, o5 + m * 4 + 2, none⟩) (by exact hb5)).trans e2
            have f3 := (hl.out.below.cell (p := ⟨b5, o5 + m * 4 + 3, none⟩) (by exact hb5)).trans e3
            have hcutp := fun z => cut_c ql 35 z (by decide)
            have hfe : Hid (Eg.few ⟨qf, qt, ql, qw⟩ = ⟨qf, qt, cutB ql 35, qw⟩) := hidden rfl
            have hcnt : Hid (((g.es.take m).map Eg.few).length = m) := by show _ = _; rw [List.length_map, List.length_take]; omega
            generalize cutB ql 35 = cl at *
            obtain ⟨⟨p0, p1, p2, p3⟩, s0, s1, s2, s3⟩ := box4f (heap_alloc_new wr (.cells #[.int .i64 qf, .int .i64 qt, .string ql, .int .i64 qw] 85))
            obtain ⟨⟨l0, l1, l2, l3⟩, -⟩ := box4f (heap_alloc_new wr (.cells #[.int .i64 qf, .int .i64 qt, .string cl, .int .i64 qw] 85))
            have hlA := hidden (hl.out.step ((Below.refl _ _).alloc (Nat.le_refl _) (.cells #[.int .i64 qf, .int .i64 qt, .string cl, .int .i64 qw] 85)))
            have hb4 : Hid ((wr.alloc (.cells #[.int .i64 qf, .int .i64 qt, .string cl, .int .i64 qw] 85)).heap[w.heap.size + 1 + 1]? = some (.cells #[.slice ua VL uc, eu] 25)) := hlA.out.b3
            obtain ⟨⟨x0, x1⟩, -⟩ := box2f hb4.out
            clear e0 e1 e2 e3
            go_wp2_with fail
            refine (hcutp _).mono ?_
            rintro e z ⟨rfl, rfl⟩
            go_wp2_with (at_builtin; go_loud (refine wpList_append_own _ rfl _ _ 23 rfl w.heap.size 85 ie (.agg #[.int .i64 0, .int .i64 0, .string ⟨#[]⟩, .int .i64 0]) 4 40 Try.underlying23 hie he0 he1 he2 rfl (by decide) eu _ _ rfl (hlA.out.row.alloc _) ⟨wr.heap.size + 1, 0, none⟩ 1 1 [.int .i64 qf, .int .i64 qt, .string cl, .int .i64 qw] rfl rfl (cells_new2 wr _ [_, _, _, _] _) (by intro x hx; simp at hx; rcases hx with rfl | rfl | rfl | rfl <;> rfl) (by have := hcnt.out; unfold maxLen; omega) (by have := hcnt.out; omega) (by have := hlA.out.below.size; simp at *; omega) ?_); intro v' w6 hown6 hgrow6 _; obtain ⟨a9, c9, rfl⟩ := own_shape hown6; have hb6 := box_grown ((heap_alloc_old _ _ (Array.getElem?_eq_some_iff.1 hb4.out).1).trans hb4.out) (hlA.out.row.alloc _) (by decide) hgrow6; obtain ⟨⟨r0, r1⟩, q0, q1⟩ := box2f hb6)
            have hG7 := (hlA.out.step ((Below.refl _ _).alloc (Nat.le_refl _) (.cells #[.int .i64 qf, .int .i64 qt, .string cl, .int .i64 qw] 85))).next (q := ⟨qf, qt, cl, qw⟩) hown6 hgrow6
            rw [hcnt.out] at hG7
            rw [show (g.es.take m).map Eg.few ++ [⟨qf, qt, cl, qw⟩] = (g.es.take (m + 1)).map Eg.few by rw [htm.out, List.map_append, ← hfe.out]; rfl] at hG7
            replace hG7 := hidden hG7
            clear hown6 hgrow6 hb6 r0 r1 q0 q1 p0 p1 p2 p3 s0 s1 s2 s3 l0 l1 l2 l3 hlA hb4 x0 x1 hl hb3 o0 o1 g0 g1 f0 f1 f2 f3 htm hfe hcnt hcutp
            go_wp2
            go_roundw
            case rel => exact ⟨m + 1, _, by omega, by omega, by go_num, hG7⟩
            case measure => simp [intOf]; omega
          · have e30 : g.es.take 30 = g.es.take m := by
              by_cases h : m < g.es.length
              · obtain rfl : m = 30 := by omega
                rfl
              · rw [List.take_of_length_le (by omega), List.take_of_length_le (by omega)]
            obtain ⟨eb, ed, rfl⟩ := own_shape hl.out.row
            have hrs := hidden (set_heap (set_heap hl.out.b2 0 (.slice ua VL uc)) 1 (.slice eb ((g.es.take m).map Eg.few).length ed))
            have hnF := hidden ((hl.out.nodes.set hl.out.b2 0 (.slice ua VL uc)).set (set_heap hl.out.b2 0 (.slice ua VL uc)) 1 (.slice eb ((g.es.take m).map Eg.few).length ed))
            have hrF := hidden (own_set (own_set hl.out.row hl.out.b2 (by decide) 0 (.slice ua VL uc)) (set_heap hl.out.b2 0 (.slice ua VL uc)) (by decide) 1 (.slice eb ((g.es.take m).map Eg.few).length ed))
            have hBF := hidden ((hl.out.below.setCell (p := ⟨w.heap.size + 1, 0, none⟩) (show w.heap.size ≤ w.heap.size + 1 by omega) (.slice ua VL uc)).setCell (p := ⟨w.heap.size + 1, 1, none⟩) (show w.heap.size ≤ w.heap.size + 1 by omega) (.slice eb ((g.es.take m).map Eg.few).length ed))
            rw [← e30] at hrs hnF hrF hBF
            obtain ⟨⟨t0, t1⟩, y0, y1⟩ := box2f hl.out.b2
            rw [← e30] at hb3
            rw [← e30] at o1
            generalize hEL : ((g.es.take 30).map Eg.few).length = EL at *
            replace hEL := hidden hEL
            clear hl e30 hb3
            by_cases hm3 : m < g.es.length
            all_goals
              first
                | (have hi5 : ¬ (m : Int) < 30 := by omega)
                | (have hi5 : ¬ (m : Int) < (g.es.length : Int) := by omega)
              first
                | (have hi6 : (m : Int) < (g.es.length : Int) := by omega)
                | skip
              clear hlt
              go_wp2
              refine bodyPost_ret (results_cell_row rfl _ _ (w.heap.size + 1) _ _ _ _ rfl hrs.out Try.underlying25 rfl (by kernel_rfl)) rfl ⟨vs, ua, VL, uc, eb, EL, ed, rfl, ?_, ?_, hBF.out⟩
              · have h9 := hnF.out
                rw [hNS.out] at h9
                exact ⟨h9.row, h9.len, h9.each⟩
              · have h9 := hrF.out
                show World.ownsRow _ _ _ 4 _ ((g.es.take 30).map Eg.few).length _
                rw [hEL.out]
                exact h9
theorem gfew_c (g : Gr) (nv ev : Value) (w : World) (hg : HoldsG w nv ev g) (_hn : g.ns.length ≤ 9223372036854775807) (_he : g.es.length ≤ 9223372036854775807) (_hp : ∀ x ∈ g.ns, x.ps.length ≤ 9223372036854775807) :
    Calls Try.prog 7 #[.agg #[nv, ev]] w fun e w' => ∃ (vs : List NdV) (a : Option Addr) (n c : Nat) (b : Option Addr) (m d : Nat), e = .returned (.agg #[.slice a n c, .slice b m d]) ∧ NodesAt 0 (.slice a n c) vs (g.few).ns w' ∧ w'.ownsRow 0 85 4 (.slice b m d) (g.few).es.length (edgeR.flat (g.few).es) ∧ Below w.heap.size w w' :=
  (gfewS_c g nv ev w hg _hn _he _hp).mono fun _ _ ⟨vs, a, n, c, b, m, d, he, h1, h2, hB⟩ => ⟨vs, a, n, c, b, m, d, he, ⟨own0 h1.row, h1.len, h1.each⟩, own0 h2, hB⟩
end Go.Proofs.Ytnmjhbnadfjapaa
