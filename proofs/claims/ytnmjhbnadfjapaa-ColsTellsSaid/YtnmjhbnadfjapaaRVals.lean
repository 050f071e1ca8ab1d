/-
  THE NODES OF A LABEL, AND ALL NODES, by contract: from the columns, and node by node.
-/
import Derived.Test.YtnmjhbnadfjapaaTEach5
import Derived.Deep.RegionHeld3
import Derived.Test.YtnmjhbnadfjapaaVaMath
import Derived.Test.YtnmjhbnadfjapaaVRCmp
namespace Go.Proofs.Ytnmjhbnadfjapaa
open Go.ChangeShapes Go.WideShapes Go.ChangeAt Go.RowKit Go.Maps
set_option maxHeartbeats 3200000 in
set_option maxRecDepth 100000 in
theorem iclone_c (a : Option Addr) (c : Nat) (ps : List Int) (w : World) (hv : RowAt w a (intR.flat ps)) (hx : ps.length ≤ 1000000) (hc : a = none → c = 0) :
    Calls Try.prog 48 #[.slice a ps.length c] w fun e w' => ∃ a' c', e = .returned (.slice a' (List.length ps) c') ∧ w'.ownsRow w.heap.size 3 1 (.slice a' ps.length c') ps.length (intR.flat ps) ∧ Below w.heap.size w w' := by
  obtain ⟨i0, hi, hz0, hz1, hz2⟩ := info_parts infoIn
  match a, hv, hc with
  | none, hv, hc =>
    obtain rfl := hc rfl
    obtain rfl : ps = [] := by
      rcases hv with h0 | ⟨b, off, h, _⟩
      · have := congrArg List.length h0
        rw [Rec.flat_len] at this
        have : ps.length * 1 = 0 := this
        exact List.eq_nil_of_length_eq_zero (by omega)
      · cases h
    have hB : Hid (Below w.heap.size w w) := Below.refl _ _
    have hne : ∀ x : World, Sem.run Try.prog (binOp BinOp.eql 47 (.slice none 0 0) (.slice none 0 0)) x = .ok (.bool true) x := fun x => by rfl
    simp only [List.length_nil]
    go_enter Try.func48, Try.ntmps48
    go_wp2
    go_ret
    exact ⟨_, _, rfl, World.ownsRow_nil .., hB.out⟩
  | some ad, hv, _ =>
    have hbl : ∀ j u, (intR.flat ps)[j]? = some u → (w.alloc (.cells #[] 3)).cell? (ad.add j) = some u := fun j u hj => by
      rcases hv with h0 | ⟨b, off, h', hb, h3⟩
      · rw [h0] at hj; cases hj
      · cases h'
        exact (((Below.refl w.heap.size w).alloc (Nat.le_refl _) _).cell (p := (⟨b, off, none⟩ : Addr).add j) (by rw [add_plain]; exact hb)).trans (by rw [add_plain]; exact h3 j u hj)
    have hne : ∀ x : World, Sem.run Try.prog (binOp BinOp.eql 47 (.slice (some ad) ps.length c) (.slice none 0 0)) x = .ok (.bool false) x := fun x => by rfl
    replace hv := hidden hv
    replace hbl := hidden hbl
    go_enter Try.func48, Try.ntmps48
    go_wp2_with (at_builtin; refine wpList_append_own _ rfl _ _ 47 rfl w.heap.size 3 i0 (.int .i64 0) 1 8 Try.underlying47 hi hz0 hz1 hz2 rfl (by decide) _ _ _ rfl (World.ownsRow_made w #[] 0 (Nat.le_refl _) (by unfold maxLen; omega) rfl) ad ps.length c (intR.flat ps) rfl (Rec.flat_len ps) hbl.out (Rec.flat_one_cell ps) (by unfold maxLen; omega) (by omega) (by simp) ?_; intro v' w1 hown' hgrow _)
    have hB3 : Hid (Below w.heap.size w w1) := ((Below.refl _ _).alloc (Nat.le_refl _) _).grown hgrow (by simp) (fun j hj => by cases hj; exact Nat.le_refl _)
    simp only [Nat.zero_add, List.nil_append] at hown'
    obtain ⟨a1, c1, rfl⟩ := own_shape hown'
    replace hown' := hidden hown'
    clear hgrow
    go_wp2
    go_ret
    exact ⟨_, _, rfl, hown'.out, hB3.out⟩
/-- The nodes of the first k of a label. -/
def labN (ns : List Nd) (k : Nat) (s : ByteArray) : List Nat := (List.range k).filter fun i => ((ns.getD i Nd.none).l.toList == s.toList)
theorem labN_F (ns : List Nd) (k : Nat) (s : ByteArray) : (labN ns k s).map (fun (i : Nat) => (i : Int)) = labF ns k s := by
  unfold labN labF
  congr 1
  congr 1
  funext i
  generalize (ns.getD i Nd.none).l = l
  by_cases h : l = s
  · subst h; simp
  · have hne : (l.toList == s.toList) = false := by
      cases h2 : (l.toList == s.toList) with
      | false => rfl
      | true => exact absurd (tl_inj (eq_of_beq h2)) h
    rw [hne, decide_eq_false h]
theorem labN_succ (ns : List Nd) (k : Nat) (s : ByteArray) : labN ns (k + 1) s = labN ns k s ++ (if ((ns.getD k Nd.none).l.toList == s.toList) = true then [k] else []) := by
  unfold labN
  rw [List.range_succ, List.filter_append]
  congr 1
  rw [List.filter_cons, List.filter_nil]
theorem labN_len (ns : List Nd) (k : Nat) (s : ByteArray) : (labN ns k s).length ≤ k := by
  unfold labN
  exact Nat.le_trans (List.length_filter_le _ _) (by rw [List.length_range]; exact Nat.le_refl _)
set_option maxHeartbeats 3200000 in
set_option maxRecDepth 100000 in
theorem colwith_c (ns : List Nd) (C : ColX) (B : Nat) (s : ByteArray) (w : World) (hC : ColAt ns C B w) (hs : s.size ≤ maxLen) (hN : ns.length ≤ 1000) :
    Calls Try.prog 18 #[.pointer (some ⟨C.gb, 0, none⟩), .string s] w fun e w' => ∃ a' c', e = .returned (.slice a' (labF ns ns.length s).length c') ∧ w'.ownsRow w.heap.size 3 1 (.slice a' (labF ns ns.length s).length c') (labF ns ns.length s).length (intR.flat (labF ns ns.length s)) ∧ Below w.heap.size w w' := by
  obtain ⟨⟨x0, x1, x2⟩, -⟩ := box3n hC.box
  have hkm : ns.length < maxLen := by unfold maxLen; omega
  obtain ⟨lv, hlook, hrow, -⟩ := hC.lab.at lawS Try.underlying87 zeroRowI hkm (key_s hs)
  have hrun := hlook w rfl
  have hlen := labF_len ns ns.length s
  generalize labF ns ns.length s = L at *
  obtain ⟨la, lc, rfl⟩ := own_shape hrow
  obtain ⟨a9, c9, e9, hr9⟩ := holdsR_of_owns (R := intR) hrow
  simp only [Value.slice.injEq] at e9
  obtain ⟨rfl, -, rfl⟩ := e9
  have hcl := iclone_c la lc L w hr9 (by omega) (own_none hrow).1
  clear hlook hrow hr9 hkm hlen hC
  go_enter Try.func18, Try.ntmps18
  go_wp2_with fail
  refine hcl.mono ?_
  rintro e w2 ⟨a', c', rfl, ho, hB⟩
  replace ho := hidden ho
  replace hB := hidden hB
  clear hcl hrun x0 x1 x2
  go_wp2
  go_ret
  exact ⟨_, _, rfl, ho.out, hB.out⟩
set_option maxHeartbeats 3200000 in
set_option maxRecDepth 100000 in
theorem rwith_c (g : Gr) (vs : List NdV) (a : Option Addr) (n c : Nat) (b : Option Addr) (m d : Nat) (s : ByteArray) (w : World) (hO : OwnG g vs a n c b m d w) (hs : g.sm) :
    Calls Try.prog 19 #[.agg #[.slice a n c, .slice b m d], .string s] w fun e w' => ∃ v, e = .returned v ∧ w'.ownsRow w.heap.size 3 1 v (labN g.ns g.ns.length s).length (natR.flat (labN g.ns g.ns.length s)) ∧ Below w.heap.size w w' := by
  obtain ⟨ii, hii, hi0, hi1, hi2⟩ := info_parts infoIn
  obtain ⟨hgn, -⟩ := hO.len
  have hn0 : n ≤ 1000 := by rw [hgn]; exact hs.1
  obtain ⟨x, hx⟩ : ∃ x, x = w.alloc (.cells #[.slice a n c, .slice b m d] 25) := ⟨_, rfl⟩
  have hB0 : Hid (Below w.heap.size w x) := by rw [hx]; exact (Below.refl _ _).alloc (Nat.le_refl _) _
  have hX0 : Hid (x.heap[w.heap.size]? = some (.cells #[.slice a n c, .slice b m d] 25)) := by rw [hx]; exact heap_alloc_new w _
  have hnd := hidden fun z (hz : Below w.heap.size w z) k hk => node_in (hO.calm hz) (k := k) hk
  generalize g.ns = ns at *
  rw [← hgn] at hnd ⊢
  obtain ⟨⟨b0, b1⟩, -⟩ := box2f hX0.out
  clear hO hs hgn
  have hxs : x.heap.size = w.heap.size + 1 := by rw [hx]; simp
  subst hx
  go_enter Try.func19, Try.ntmps19
  go_wp2_with fail
  generalize w.alloc (.cells #[.slice a n c, .slice b m d] 25) = x at *
  clear b0 b1
  rw [← hxs]
  clear hxs
  have hO0 : Hid ((x.alloc (.cells #[] 3)).ownsRow x.heap.size 3 1 (.slice (some ⟨x.heap.size, 0, none⟩) 0 0) (labN ns 0 s).length (natR.flat (labN ns 0 s))) := hidden (World.ownsRow_made (base := x.heap.size) (e := 3) (size := 1) x #[] 0 (Nat.le_refl _) (by unfold maxLen; omega) rfl)
  have hk0 : Hid (Below x.heap.size x (x.alloc (.cells #[] 3))) := hidden ((Below.refl _ _).alloc (Nat.le_refl _) _)
  generalize x.alloc (.cells #[] 3) = x2 at *
  go_loopw [5, 6] (fun u i wr => ∃ k : Nat, k ≤ n ∧ i = .int .i64 k ∧ Hid (wr.ownsRow x.heap.size 3 1 u (labN ns k s).length (natR.flat (labN ns k s))) ∧ Hid (Below x.heap.size x wr))
    (fun _ i _ => n - (intOf i).toNat)
  case atStart => exact ⟨0, Nat.zero_le _, rfl, hO0, hk0⟩
  case round =>
    clear hO0 hk0
    obtain ⟨k, hk, rfl, hown, hnx⟩ := hrel
    obtain ⟨oa, oc, rfl⟩ := own_shape hown.out
    obtain ⟨⟨b0, b1⟩, -⟩ := box2f (box_below hX0.out hnx.out)
    by_cases hlt : k < n
    · have hlt' : (k : Int) < (n : Int) := by omega
      have hby : Hid (Below w.heap.size w wr) := hidden (hB0.out.trans (hnx.out.mono hB0.out.size))
      obtain ⟨gn, off, pa, pc, rfl, hbb, d0, d1, hpr⟩ := hnd.out wr hby.out k hlt
      have hsu := hidden (labN_succ ns k s)
      have hln := labN_len ns k s
      have hws : x.heap.size ≤ wr.heap.size := hnx.out.size
      generalize (ns.getD k Nd.none).l = l at *
      clear d1 hpr hby hbb
      cases hq : (l.toList == s.toList) with
      | true =>
        rw [hq] at hsu
        have hone := hidden (SlR.oneR (R := natR) wr k 3)
        go_wp2_with (at_builtin; go_loud (refine wpList_appT _ natR rfl _ _ 47 rfl x.heap.size 3 ii (.int .i64 0) 1 8 Try.underlying47 hii hi0 hi1 hi2 rfl rfl rfl (owns_keep hown.out ((Below.refl _ _).alloc (Nat.le_refl _) _)) rfl (hone.out) (by show _ + 1 ≤ _; unfold maxLen; omega) (by show (_ + 1) * 8 ≤ _; omega) (by show _ ≤ (wr.heap.push _).size; simp; omega) ?_); intro v' w5 hown5 hgrow5)
        have hk5 : Hid (Below x.heap.size x w5) := hidden ((hnx.out.alloc hnx.out.size _).grown hgrow5 (hnx.out.alloc hnx.out.size (.cells #[.int .i64 (k : Int)] 3)).size (fun j hj => (hown.out.lt j hj).1))
        have hO5 : Hid (w5.ownsRow x.heap.size 3 1 v' (labN ns (k + 1) s).length (natR.flat (labN ns (k + 1) s))) := hidden (by
          rw [hsu.out]
          simp only [if_true]
          rw [List.length_append, Rec.flat_app]
          exact hown5)
        clear hown5 hgrow5 hown hnx hone d0 b0 b1
        go_wp2
        go_roundw
        case rel => exact ⟨k + 1, by omega, by go_num, hO5, hk5⟩
        case measure => simp [intOf]; omega
      | false =>
        rw [hq] at hsu
        have hO5 : Hid (wr.ownsRow x.heap.size 3 1 (.slice oa (labN ns k s).length oc) (labN ns (k + 1) s).length (natR.flat (labN ns (k + 1) s))) := hidden (by
          rw [hsu.out]
          simp only [Bool.false_eq_true, if_false, List.append_nil]
          exact hown.out)
        clear hown
        go_wp2
        go_roundw
        case rel => exact ⟨k + 1, by omega, by go_num, hO5, hnx⟩
        case measure => simp [intOf]; omega
    · have hlt' : ¬ (k : Int) < (n : Int) := by omega
      obtain rfl : k = n := by omega
      have hfin := hidden (own_le2 hown.out hB0.out.size)
      have hbf : Hid (Below w.heap.size w wr) := hidden (hB0.out.trans (hnx.out.mono hB0.out.size))
      clear hown
      go_wp2
      go_ret
      exact ⟨_, rfl, hfin.out, hbf.out⟩
/-- Places below k stand at their own, the rest at nothing. -/
def fillN (n k : Nat) : List Nat := (List.range n).map fun i => if i < k then i else 0
theorem fillN_len (n k : Nat) : (fillN n k).length = n := by simp [fillN]
theorem fillN_zero (n : Nat) : natR.flat (fillN n 0) = (madeCells #[.int .i64 0] n).toList := by
  rw [natR_flat]
  apply List.ext_getElem?
  intro i
  by_cases hi : i < n
  · simp [madeCells, ints, fillN, hi, Nat.mod_one]
  · rw [List.getElem?_eq_none (by simp [ints, fillN]; omega), List.getElem?_eq_none (by simp [madeCells]; omega)]
theorem fillN_step (n k : Nat) : (natR.flat (fillN n k)).set k (.int .i64 (k : Int)) = natR.flat (fillN n (k + 1)) := by
  rw [natR_flat, natR_flat]
  apply List.ext_getElem?
  intro i
  by_cases hi : i < n
  · rw [List.getElem?_set]
    by_cases hk : k = i
    · subst hk; simp [ints, fillN, hi]
    · rw [if_neg hk]
      simp only [ints, fillN, List.getElem?_map, List.getElem?_range hi, Option.map_some]
      by_cases h : i < k
      · rw [if_pos h, if_pos (by omega)]
      · rw [if_neg h, if_neg (by omega)]
  · rw [List.getElem?_eq_none (by rw [List.length_set]; simp [ints, fillN]; omega), List.getElem?_eq_none (by simp [ints, fillN]; omega)]
theorem fillN_all (n : Nat) : fillN n n = List.range n := by
  unfold fillN
  conv => rhs; rw [← List.map_id (List.range n)]
  exact List.map_congr_left fun i hi => by rw [if_pos (List.mem_range.1 hi)]; rfl
set_option maxHeartbeats 3200000 in
set_option maxRecDepth 100000 in
theorem colall_c (ns : List Nd) (C : ColX) (B : Nat) (w : World) (hC : ColAt ns C B w) (hN : ns.length ≤ 1000) :
    Calls Try.prog 16 #[.pointer (some ⟨C.gb, 0, none⟩)] w fun e w' => ∃ a' c', e = .returned (.slice a' ns.length c') ∧ w'.ownsRow w.heap.size 3 1 (.slice a' ns.length c') ns.length (natR.flat (List.range ns.length)) ∧ Below w.heap.size w w' := by
  obtain ⟨ii, hii, hi0, hi1, hi2⟩ := info_parts infoIn
  obtain ⟨⟨x0, x1, x2⟩, -⟩ := box3n hC.box
  have hln := hC.nodes.len
  obtain ⟨na, nc, hnv⟩ := own_shape hC.nodes.row
  rw [hnv] at x0
  rw [hln] at x0
  rw [← fillN_all]
  generalize ns.length = N at *
  clear hnv hln hC
  go_enter Try.func16, Try.ntmps16
  go_wp2_with (refine wpList_make_full _ rfl _ _ 47 rfl w.heap.size 3 ii (.int .i64 0) 1 Try.underlying47 hii hi0 hi1 .i64 .i64 _ _ N rfl rfl ?c1 ?c2 ?c3 ?c4 ?c5 ?_)
  case c1 => rfl
  case c2 => rfl
  case c3 => first | omega | (rw [hi2]; omega)
  case c4 => unfold maxLen; omega
  case c5 => first | exact Nat.le_refl _ | simp
  intro wa hown hgrow
  have hO0 : Hid (wa.ownsRow w.heap.size 3 1 (.slice (some ⟨w.heap.size, 0, none⟩) N N) N (natR.flat (fillN N 0))) := hidden (by rw [fillN_zero]; exact hown)
  have hb0 : Hid (Below w.heap.size w wa) := hidden ((Below.refl _ _).grown hgrow (Nat.le_refl _) (fun j hj => by cases hj))
  clear hown hgrow x0 x1 x2
  go_wp2_with fail
  go_loopw [15] (fun i wr => ∃ k : Nat, k ≤ N ∧ i = .int .i64 k ∧ Hid (wr.ownsRow w.heap.size 3 1 (.slice (some ⟨w.heap.size, 0, none⟩) N N) N (natR.flat (fillN N k))) ∧ Hid (Below w.heap.size w wr))
    (fun i _ => N - (intOf i).toNat)
  case atStart => exact ⟨0, Nat.zero_le _, rfl, hO0, hb0⟩
  case round =>
    clear hO0 hb0
    obtain ⟨k, hk, rfl, hown, hnx⟩ := hrel
    by_cases hlt : k < N
    · have hlt' : (k : Int) < (N : Int) := by omega
      have f0 := hown.out.frozenAt k
      have e0 : ∃ u, wr.cell? ⟨w.heap.size, k, none⟩ = some u := by
        have h := hown.out
        rcases h.2 with ⟨h', _⟩ | ⟨g', cap', cur, h', hb, hg, hnc, hcm, hcs, htake⟩
        · simp at h'
        · simp only [Value.slice.injEq, Option.some.injEq, Addr.mk.injEq, and_true, true_and] at h'
          obtain ⟨rfl, rfl⟩ := h'
          have hks : k < cur.size := by omega
          exact ⟨cur[k], by simp [World.cell?, hg, hks]⟩
      obtain ⟨u0, e0⟩ := e0
      have hst := hown.out.stored k (.int .i64 (k : Int))
      rw [fillN_step] at hst
      have hO5 := hidden hst.1
      have hk5 : Hid (Below w.heap.size w (wr.setCell ⟨w.heap.size, k, none⟩ (.int .i64 (k : Int)))) := hidden (hnx.out.setCell (p := ⟨w.heap.size, k, none⟩) (Nat.le_refl _) _)
      clear hst hown hnx
      go_wp2
      go_roundw
      case rel => exact ⟨k + 1, by omega, by go_num, hO5, hk5⟩
      case measure => simp [intOf]; omega
    · have hlt' : ¬ (k : Int) < (N : Int) := by omega
      obtain rfl : k = N := by omega
      go_wp2
      go_ret
      exact ⟨_, _, rfl, hown.out, hnx.out⟩
end Go.Proofs.Ytnmjhbnadfjapaa
/-
  THE VALUES OF A NAME, by contract: out of the columns.
-/
namespace Go.Proofs.Ytnmjhbnadfjapaa
open Go.ChangeShapes Go.WideShapes Go.ChangeAt Go.RowKit Go.Maps

theorem place_ex (y : Va) : ∀ L : List Va, ∃ k, PlaceS y L k ∧ (k < L.length → ¬ vacmp (L.getD k Va.none) y < 0)
  | [] => ⟨0, ⟨Nat.le_refl _, fun j hj => absurd hj (Nat.not_lt_zero j)⟩, fun h => absurd h (Nat.not_lt_zero 0)⟩
  | a :: L => by
    by_cases h : vacmp a y < 0
    · obtain ⟨k, hp, hq⟩ := place_ex y L
      refine ⟨k + 1, ⟨by have := hp.le; simp; omega, fun j hj => ?_⟩, fun hk => ?_⟩
      · cases j with
        | zero => exact h
        | succ j => exact hp.ahead j (by omega)
      · exact hq (by simp at hk; omega)
    · exact ⟨0, ⟨Nat.zero_le _, fun j hj => absurd hj (Nat.not_lt_zero j)⟩, fun _ => h⟩
theorem put_ex (y : Va) (L : List Va) : ∃ L', PutS y L L' := by
  obtain ⟨k, h1, h2⟩ := place_ex y L
  by_cases h : k < L.length ∧ L.getD k Va.none = y
  · exact ⟨L, k, h1, h2, .inl ⟨h.1, h.2, rfl⟩⟩
  · exact ⟨_, k, h1, h2, .inr ⟨h, rfl⟩⟩
theorem tells_ex (ns : List Nd) (s : ByteArray) : ∀ k, ∃ L, TellsV ns s k L
  | 0 => ⟨[], .zero ns s⟩
  | k + 1 => by
    obtain ⟨L, h⟩ := tells_ex ns s k
    by_cases h0 : (getV ns s k).k = 0
    · exact ⟨L, h.skip h0⟩
    · obtain ⟨L', h'⟩ := put_ex (getV ns s k) L
      exact ⟨L', h.put h0 h'⟩
theorem TellsV.same {ns : List Nd} {s : ByteArray} {k : Nat} {L L' : List Va} (h : TellsV ns s k L) (h' : TellsV ns s k L') : L = L' := Strict.same h.1 h'.1 fun x => by rw [h.2.2, h'.2.2]
theorem infoVa : (Try.prog.info? 27).map (fun i => (i.zero, i.size, i.bytes)) = some (some (.agg #[.int .i64 0, .int .i64 0, .string ⟨#[]⟩]), 3, 32) := by kernel_rfl
set_option maxHeartbeats 1600000 in
set_option maxRecDepth 100000 in
theorem colvals_c (g : Gr) (hok : (checkG g).2 = 0) (hsm : g.sm) (C : ColX) (B : Nat) (s : ByteArray) (R : List Va) (hR : TellsV g.ns s g.ns.length R) (w : World) (hC : ColAt g.ns C B w) (hs : s.size ≤ maxLen) :
    Calls Try.prog 24 #[.pointer (some ⟨C.gb, 0, none⟩), .string s] w fun e w' => ∃ a cap, e = .returned (.slice a R.length cap) ∧ (R = [] ∨ ∃ gb, a = some ⟨gb, 0, none⟩ ∧ RS w' gb R ∧ w.heap.size ≤ gb) ∧ Below w.heap.size w w' := by
  obtain ⟨iv, hiv, hi0, hi1, hi2⟩ := info_parts infoVa
  have hN : g.ns.length ≤ 1000 := hsm.1
  have hps : ∀ i, (g.ns.getD i Nd.none).ps.length ≤ 1000 := fun i => by
    by_cases hi : i < g.ns.length
    · exact (hsm.2.1 _ (getD_memG (d := Nd.none) hi)).2.1
    · simp [List.getD, List.getElem?_eq_none (Nat.le_of_not_lt hi), Nd.none]
  obtain ⟨⟨x0, x1, x2⟩, -⟩ := box3n hC.box
  have hkm : g.ns.length * 1000 < maxLen := by unfold maxLen; omega
  obtain ⟨lv, hlook, hrow, -⟩ := hC.nam.at lawS Try.underlying88 zeroRowC hkm (key_s hs)
  have hrun := hlook w rfl
  have hlen := namF_len g.ns g.ns.length 0 s hps (by omega)
  have hsame := hidden fun (L' : List Va) hp hq => vals_same hok (s := s) (L := R) (L' := L') hp hq hR
  have hUs := hidden fun k hk => colV_snoc g.ns s ((0, Pp.none) : Cl) k hk
  have hUl := hidden fun k hk => colV_len g.ns s k hk
  have hU0 : Hid (colV g.ns s 0 = []) := hidden (by unfold colV; rw [List.take_zero]; rfl)
  generalize colV g.ns s = U at *
  generalize namF g.ns g.ns.length 0 s = L at *
  obtain ⟨la, lc, rfl⟩ := own_shape hrow
  have hL1 : L.length ≤ 1000000 := by omega
  replace hrow := hidden hrow
  clear hlook hlen hC hps hkm hR hsm hok
  go_enter Try.func24, Try.ntmps24
  go_wp2_with fail
  clear hrun x0 x1 x2
  go_loopw [5, 17] (fun u i wr => ∃ j : Nat, j ≤ L.length ∧ i = .int .i64 j ∧ Hid (wr.ownsRow w.heap.size 27 3 u (U j).length (valR.flat (U j))) ∧ Hid (Below w.heap.size w wr))
    (fun _ i _ => L.length - (intOf i).toNat)
  case atStart => exact ⟨0, Nat.zero_le _, rfl, by rw [hU0.out]; exact World.ownsRow_nil .., Below.refl _ _⟩
  case round =>
    obtain ⟨j, hj, rfl, hown, hnx⟩ := hrel
    obtain ⟨oa, oc, rfl⟩ := own_shape hown.out
    by_cases hlt : j < L.length
    · have hlt' : (j : Int) < (L.length : Int) := by omega
      obtain ⟨a9, c9, e9, hr9⟩ := holdsR_of_owns (R := clR) (owns_keep hrow.out hnx.out)
      simp only [Value.slice.injEq] at e9
      obtain ⟨rfl, -, rfl⟩ := e9
      obtain ⟨gb, off, rfl, hbb, hrc⟩ := rec_at hr9 hlt
      have d0 := hrc 0 _ rfl
      have d1 := hrc 1 _ rfl
      have d2 := hrc 2 _ rfl
      have d3 := hrc 3 _ rfl
      rw [show clR.n = 4 from rfl] at d0 d1 d2 d3
      have hst := hidden (hUs.out j hlt)
      have hle : (U j).length ≤ 1000000 := by rw [hUl.out j (by omega)]; omega
      rw [show clR.dflt = ((0, Pp.none) : Cl) from rfl] at d0 d1 d2 d3
      generalize L.getD j (0, Pp.none) = q at *
      obtain ⟨qi, qp⟩ := q
      obtain ⟨qs, qk, qn, qt⟩ := qp
      simp only [Nat.add_zero, toVa] at d0 d1 d2 d3 hst
      clear hrc hr9
      have hX := hidden (heap_alloc_new wr (.cells #[.int .i64 qi, .int .i64 qk, .int .i64 qn, .string qt] 94))
      obtain ⟨⟨p0, p1, p2, p3⟩, -⟩ := box4c hX.out
      have hn1 : Hid (Below w.heap.size w (wr.alloc (.cells #[.int .i64 qi, .int .i64 qk, .int .i64 qn, .string qt] 94))) := hnx.out.alloc hnx.out.size _
      have ho1 := hidden (hown.out.alloc (.cells #[.int .i64 qi, .int .i64 qk, .int .i64 qn, .string qt] 94))
      have hws : Hid (w.heap.size ≤ ((wr.alloc (.cells #[.int .i64 qi, .int .i64 qk, .int .i64 qn, .string qt] 94)).alloc (.cells #[.int .i64 qk, .int .i64 qn, .string qt] 27)).heap.size) := hidden (Nat.le_trans hn1.out.size (by simp))
      have hone : Hid (SlR valR ((wr.alloc (.cells #[.int .i64 qi, .int .i64 qk, .int .i64 qn, .string qt] 94)).alloc (.cells #[.int .i64 qk, .int .i64 qn, .string qt] 27)) (.slice (some ⟨wr.heap.size + 1, 0, none⟩) 1 1) [⟨qk, qn, qt⟩]) := hidden (by
        have h := SlR.oneR (R := valR) (wr.alloc (.cells #[.int .i64 qi, .int .i64 qk, .int .i64 qn, .string qt] 94)) ⟨qk, qn, qt⟩ 27
        rwa [show (wr.alloc (.cells #[.int .i64 qi, .int .i64 qk, .int .i64 qn, .string qt] 94)).heap.size = wr.heap.size + 1 by simp] at h)
      clear hown hnx hX
      go_wp2_with (at_builtin; go_loud (refine wpList_appT _ valR rfl _ _ 56 rfl w.heap.size 27 iv (.agg #[.int .i64 0, .int .i64 0, .string ⟨#[]⟩]) 3 32 Try.underlying56 hiv hi0 hi1 hi2 rfl rfl rfl (owns_keep ho1.out ((Below.refl _ _).alloc (Nat.le_refl _) _)) rfl (hone.out) (by show _ + 1 ≤ _; unfold maxLen; omega) (by show (_ + 1) * 32 ≤ _; omega) (by exact hws.out) ?_); intro v' w5 hown5 hgrow5)
      have hk5 : Hid (Below w.heap.size w w5) := hidden ((hn1.out.alloc hn1.out.size _).grown hgrow5 (hn1.out.alloc hn1.out.size (.cells #[.int .i64 qk, .int .i64 qn, .string qt] 27)).size (fun j hj => (ho1.out.lt j hj).1))
      have hO5 : Hid (w5.ownsRow w.heap.size 27 3 v' (U (j + 1)).length (valR.flat (U (j + 1)))) := hidden (by
        rw [hst.out, List.length_append, Rec.flat_app]
        exact hown5)
      clear hown5 hgrow5 ho1 hn1 hone hws d0 d1 d2 d3 p0 p1 p2 p3
      go_wp2
      go_roundw
      case rel => exact ⟨j + 1, by omega, by go_num, hO5, hk5⟩
      case measure => simp [intOf]; omega
    · have hlt' : ¬ (j : Int) < (L.length : Int) := by omega
      obtain rfl : j = L.length := by omega
      have hlU := hidden (hUl.out L.length (Nat.le_refl _))
      clear hlt hlt' hrow hUs hUl hU0
      generalize U L.length = W at *
      by_cases h0 : L.length = 0
      · have hWn : W = [] := List.eq_nil_of_length_eq_zero (by rw [hlU.out]; exact h0)
        have hRn : Hid (R = []) := hidden (by
          have := hsame.out [] (by rw [hWn]) (fun i j _ h => absurd h (Nat.not_lt_zero j))
          rw [← this]; rfl)
        have hz := hidden fun p c z => vasort0_c p c (.func (.func 52) #[] #[]) z
        have hcp : Hid (∀ p c z, Calls Try.prog 53 #[.slice p 0 c] z fun e w' => e = .returned (.slice p 0 c) ∧ w' = z) := hidden fun p c z => by
          go_enter Try.func53, Try.ntmps53
          go_wp2
          go_ret
          exact ⟨rfl, rfl⟩
        have hWl : W.length = 0 := by rw [hWn]; rfl
        clear hown hsame hlU hWn h0
        go_wp2_with fail
        refine (hz.out _ _ _).mono ?_
        rintro e z ⟨rfl, rfl⟩
        go_wp2_with fail
        refine (hcp.out _ _ _).mono ?_
        rintro e z ⟨rfl, rfl⟩
        go_wp2
        go_ret
        refine ⟨oa, oc, ?_, .inl hRn.out, hnx.out⟩
        rw [hRn.out]
        rfl
      · obtain ⟨gb, cap, e9⟩ : ∃ (g cap : Nat), (Value.slice oa W.length oc) = .slice (some ⟨g, 0, none⟩) W.length cap := by
          rcases hown.out.2 with ⟨e1, e2⟩ | ⟨g, cap, cur, e1, _⟩
          · exact absurd (e2.symm.trans hlU.out).symm h0
          · exact ⟨g, cap, e1⟩
        simp only [Value.slice.injEq] at e9
        obtain ⟨rfl, -, rfl⟩ := e9
        have hgw : w.heap.size ≤ gb := (hown.out.lt gb rfl).1
        have hso := vasort_c wr w.heap.size gb W.length oc W hown.out rfl (by rw [hlU.out]; omega) hgw
        have hsame2 := hsame
        obtain ⟨nW, hnW⟩ : ∃ nW, nW = W.length := ⟨_, rfl⟩
        have hcap0 := hown.out
        have hWb : W.length ≤ 1000000 := by rw [hlU.out]; omega
        clear hsame hlU h0 hown hcap0
        go_wp2_with fail
        refine hso.mono ?_
        rintro e z ⟨rfl, L', hL', hp, hq, hBz, -⟩
        have hlen : L'.length = W.length := hp.length_eq
        have hcap : L'.length ≤ oc := by
          rw [hlen]
          rcases hL'.2 with ⟨e1, _⟩ | ⟨g, cap, cur, e1, _, _, h4, _⟩
          · cases e1
          · simp only [Value.slice.injEq] at e1
            rw [e1.2.2]; exact h4
        have hcR := hsame2.out L' hp (fun i j h1 h2 => hq i j h1 (by rw [← hlen]; exact h2))
        have hcm := compactV_c z w.heap.size gb oc L' (RS.of_own hL') hcap (by rw [hlen]; omega) hgw
        rw [hcR, hlen] at hcm
        have hn2 : Hid (Below w.heap.size w z) := hidden (hnx.out.trans hBz)
        clear hL' hp hq hBz hcap hcR hlen hsame2 hso hWb hnx hnW nW
        go_wp2_with fail
        refine hcm.mono ?_
        rintro e z2 ⟨rfl, hrs, hB2⟩
        have hfin := hidden (hn2.out.trans hB2)
        replace hrs := hidden hrs
        clear hcm hB2
        go_wp2
        go_ret
        exact ⟨_, _, rfl, .inr ⟨gb, rfl, hrs.out, hgw⟩, hfin.out⟩
end Go.Proofs.Ytnmjhbnadfjapaa
/-
  THE VALUES OF A NAME, by contract: node by node.
-/
namespace Go.Proofs.Ytnmjhbnadfjapaa
open Go.ChangeShapes Go.WideShapes Go.ChangeAt Go.RowKit Go.Maps

/-- A slice of values that lies somewhere. -/
structure SlV (w : World) (g og cap : Nat) (L : List Va) : Prop where
  room : L.length ≤ cap
  lt : g < w.heap.size
  cells : ∀ j u, (valR.flat L)[j]? = some u → w.cell? ⟨g, og + j, none⟩ = some u
theorem SlV.below {w w' : World} {g og cap : Nat} {L : List Va} (h : SlV w g og cap L) (hB : Below w.heap.size w w') : SlV w' g og cap L :=
  ⟨h.room, Nat.lt_of_lt_of_le h.lt hB.size, fun j u hj => (hB.cell (p := ⟨g, og + j, none⟩) h.lt).trans (h.cells j u hj)⟩
theorem SlV.at3 {w : World} {g og cap : Nat} {L : List Va} (h : SlV w g og cap L) {k : Nat} (hk : k < L.length) :
    w.cell? ⟨g, og + k * 3, none⟩ = some (.int .i64 (L.getD k Va.none).k) ∧ w.cell? ⟨g, og + k * 3 + 1, none⟩ = some (.int .i64 (L.getD k Va.none).n) ∧ w.cell? ⟨g, og + k * 3 + 2, none⟩ = some (.string (L.getD k Va.none).t) :=
  ⟨h.cells _ _ (Rec.flat_at (R := valR) L k 0 hk (by show 0 < 3; omega)), h.cells _ _ (Rec.flat_at (R := valR) L k 1 hk (by show 1 < 3; omega)), h.cells _ _ (Rec.flat_at (R := valR) L k 2 hk (by show 2 < 3; omega))⟩
theorem SlV.row {w : World} {g cap : Nat} {L : List Va} (h : SlV w g 0 cap L) : RowAt w (some ⟨g, 0, none⟩) (valR.flat L) := .inr ⟨g, 0, rfl, h.lt, fun j u hj => h.cells j u hj⟩
theorem cells_blkV {z : World} {q : Nat} {cs : List Value} {t : TypeId} (h : z.heap[q]? = some (.cells cs.toArray t)) : ∀ j u, cs[j]? = some u → z.cell? ((⟨q, 0, none⟩ : Addr).add j) = some u := fun j u hj => by
  rw [add_plain]
  simp only [World.cell?, h, Nat.zero_add]
  simpa using hj
theorem rvput_fin {w3 : World} {B : Nat} {v3 : Value} {L : List Va} {k n : Nat} {y : Va} (hk : k ≤ n) (hn : n = L.length)
    (h : w3.ownsRow B 27 3 v3 (0 + k + 1 + (n - k)) (([] ++ valR.flat (L.take k)) ++ [.int .i64 y.k, .int .i64 y.n, .string y.t] ++ valR.flat (L.drop k))) :
    ∃ g' cap', v3 = .slice (some ⟨g', 0, none⟩) (n + 1) cap' ∧ SlV w3 g' 0 cap' (L.take k ++ y :: L.drop k) := by
  have e : valR.flat (L.take k ++ y :: L.drop k) = ([] ++ valR.flat (L.take k)) ++ [.int .i64 y.k, .int .i64 y.n, .string y.t] ++ valR.flat (L.drop k) := by
    rw [Rec.flat_app, Rec.flat_cons]; simp [valR]
  rw [← e, show 0 + k + 1 + (n - k) = n + 1 by omega] at h
  rcases id h.2 with ⟨_, h0⟩ | ⟨g, cap, cur, e1, e2, e3, e4, _⟩
  · omega
  · subst e1
    exact ⟨g, cap, rfl, by simp; omega, (Array.getElem?_eq_some_iff.1 e3).1, fun j u hj => by rw [Nat.zero_add]; exact own_cellV h hj⟩
set_option maxHeartbeats 3200000 in
set_option maxRecDepth 1000000 in
theorem rvals_c (G : Gr) (vs : List NdV) (a : Option Addr) (N c : Nat) (b : Option Addr) (m d : Nat) (s : ByteArray) (R : List Va) (hR : TellsV G.ns s G.ns.length R) (w : World) (hO : OwnG G vs a N c b m d w) (hs : G.sm) :
    Calls Try.prog 25 #[.agg #[.slice a N c, .slice b m d], .string s] w fun e w' => ∃ a' c', e = .returned (.slice a' R.length c') ∧ RowAt w' a' (valR.flat R) ∧ Below w.heap.size w w' := by
  obtain ⟨i0, hi, hz0, hz1, hz2⟩ := info_parts infoVa
  obtain ⟨hgn, -⟩ := hO.len
  have hn0 : N ≤ 1000 := by rw [hgn]; exact hs.1
  obtain ⟨x, hx⟩ : ∃ x, x = w.alloc (.cells #[.slice a N c, .slice b m d] 25) := ⟨_, rfl⟩
  have hB0 : Hid (Below w.heap.size w x) := by rw [hx]; exact (Below.refl _ _).alloc (Nat.le_refl _) _
  have hX0 : Hid (x.heap[w.heap.size]? = some (.cells #[.slice a N c, .slice b m d] 25)) := by rw [hx]; exact heap_alloc_new w _
  have hget := hidden fun z (hz : Below w.heap.size w z) k hk => rget_c G vs a N c b m d k s z (hO.calm hz) hs hk
  have htell := hidden fun L (h : TellsV G.ns s N L) => (show TellsV G.ns s G.ns.length L by rw [← hgn]; exact h).same hR
  have htz := hidden (TellsV.zero G.ns s)
  have htk := hidden fun k L (h : TellsV G.ns s k L) h0 => h.skip h0
  have htp := hidden fun k L L' (h : TellsV G.ns s k L) h0 hp => h.put (L' := L') h0 hp
  have hgv : Hid (∀ k, getV G.ns s k = ⟨(pv (G.ns.getD k Nd.none).ps s).k, (pv (G.ns.getD k Nd.none).ps s).n, (pv (G.ns.getD k Nd.none).ps s).t⟩) := hidden fun k => rfl
  have htl : Hid (∀ k L, TellsV G.ns s k L → L.length ≤ k) := hidden fun k L h => h.2.1
  obtain ⟨TV, hTV⟩ : ∃ TV : Nat → List Va → Prop, TV = TellsV G.ns s := ⟨_, rfl⟩
  rw [← hTV] at htell htz htk htp htl
  generalize G.ns = ns at *
  clear hO hs hgn hR hTV
  obtain ⟨⟨b0, b1⟩, -⟩ := box2f hX0.out
  have hxs : x.heap.size = w.heap.size + 1 := by rw [hx]; simp
  subst hx
  go_enter Try.func25, Try.ntmps25
  go_wp2_with fail
  generalize w.alloc (.cells #[.slice a N c, .slice b m d] 25) = x at *
  clear b0 b1
  rw [← hxs]
  clear hxs
  have hO0 : Hid (SlV (x.alloc (.cells #[] 27)) x.heap.size 0 0 []) := hidden ⟨Nat.le_refl _, by simp, fun j u hj => by cases hj⟩
  have hk0 : Hid (Below x.heap.size x (x.alloc (.cells #[] 27))) := hidden ((Below.refl _ _).alloc (Nat.le_refl _) _)
  generalize x.alloc (.cells #[] 27) = x2 at *
  go_loopw [5, 6] (fun u i wr => ∃ (K : Nat) (L : List Va) (g cap : Nat), K ≤ N ∧ i = .int .i64 K ∧ u = .slice (some ⟨g, 0, none⟩) L.length cap ∧ Hid (SlV wr g 0 cap L) ∧ Hid (TV K L) ∧ Hid (Below x.heap.size x wr))
    (fun _ i _ => N - (intOf i).toNat)
  case atStart => exact ⟨0, [], x.heap.size, 0, Nat.zero_le _, rfl, rfl, hO0, htz, hk0⟩
  case round =>
    clear hO0 hk0
    obtain ⟨K, L, g, cap, hK, rfl, rfl, hSl, hTk, hnx⟩ := hrel
    obtain ⟨⟨b0, b1⟩, -⟩ := box2f (box_below hX0.out hnx.out)
    by_cases hlt : K < N
    · have hlt' : (K : Int) < (N : Int) := by omega
      have hft := hget.out wr (hB0.out.trans (hnx.out.mono hB0.out.size)) K hlt
      have hsk := hidden (htk.out K L hTk.out)
      have hpu := hidden (fun L' => htp.out K L L' hTk.out)
      rw [hgv.out K] at hsk hpu
      have hLb := htl.out K L hTk.out
      have hTL := hidden hTk.out
      generalize (pv (ns.getD K Nd.none).ps s).k = yk at *
      generalize (pv (ns.getD K Nd.none).ps s).n = yn at *
      generalize (pv (ns.getD K Nd.none).ps s).t = yt at *
      clear hTk
      go_wp2_with fail
      refine hft.mono ?_
      rintro e q2 ⟨rfl, hBz⟩
      have hn2 : Hid (Below x.heap.size x q2) := hidden (hnx.out.trans (hBz.mono hnx.out.size))
      have hS2 := hidden (hSl.out.below hBz)
      clear hBz hft hnx hSl b0 b1
      obtain ⟨wv, hwv⟩ : ∃ wv, wv = q2.alloc (.cells #[.int .i64 yk, .int .i64 yn, .string yt] 27) := ⟨_, rfl⟩
      have hXv : Hid (wv.heap[q2.heap.size]? = some (.cells #[.int .i64 yk, .int .i64 yn, .string yt] 27)) := by rw [hwv]; exact heap_alloc_new q2 _
      have hBv : Hid (Below x.heap.size x wv) := by rw [hwv]; exact hn2.out.alloc hn2.out.size _
      have hS0 : Hid (SlV wv g 0 cap L) := by rw [hwv]; exact hS2.out.below ((Below.refl _ _).alloc (Nat.le_refl _) _)
      obtain ⟨vb, hvb⟩ : ∃ vb, vb = q2.heap.size := ⟨_, rfl⟩
      rw [← hvb] at hXv
      go_wp2_with fail
      rw [← hwv, ← hvb]
      replace hwv := hidden hwv
      replace hvb := hidden hvb
      obtain ⟨n, hnL⟩ : ∃ n, n = L.length := ⟨_, rfl⟩
      rw [← hnL] at hLb ⊢
      replace hnL := hidden hnL
      have hn : n ≤ 1000 := by omega
      have hroom : n ≤ cap := by rw [hnL.out]; exact hS0.out.room
      clear hn2 hS2
      go_loopw [8] (fun u wr => ∃ k : Nat, u = .int .i64 k ∧ k ≤ n ∧ Hid (PlaceS ⟨yk, yn, yt⟩ L k) ∧ Hid (Below wv.heap.size wv wr)) (fun u _ => n - (intOf u).toNat)
      case atStart => exact ⟨0, rfl, Nat.zero_le _, ⟨Nat.zero_le _, fun j h1 => by omega⟩, Below.refl _ _⟩
      case round =>
        obtain ⟨k, rfl, hkn, hpl, hBd⟩ := hrel
        have hX := hidden (box_below hXv.out hBd.out)
        obtain ⟨⟨x0, x1, x2⟩, -⟩ := box3n hX.out
        by_cases hlk : k < n
        · have hlk' : (k : Int) < (n : Int) := by omega
          have hkL : k < L.length := by rw [← hnL.out]; exact hlk
          have hcr : Hid (∀ z, Below wv.heap.size wv z → z.cell? ⟨vb, 0, none⟩ = some (.int .i64 yk) ∧ z.cell? ⟨vb, 1, none⟩ = some (.int .i64 yn) ∧ z.cell? ⟨vb, 2, none⟩ = some (.string yt) ∧ z.cell? ⟨g, k * 3, none⟩ = some (.int .i64 (L.getD k Va.none).k) ∧ z.cell? ⟨g, k * 3 + 1, none⟩ = some (.int .i64 (L.getD k Va.none).n) ∧ z.cell? ⟨g, k * 3 + 2, none⟩ = some (.string (L.getD k Va.none).t)) := hidden fun z h => by
            obtain ⟨⟨p0, p1, p2⟩, -⟩ := box3n (box_below hXv.out h)
            exact ⟨p0, p1, p2, by simpa only [Nat.zero_add] using (hS0.out.below h).at3 hkL⟩
          have hless : Hid (vacmp (L.getD k Va.none) ⟨yk, yn, yt⟩ < 0 → PlaceS ⟨yk, yn, yt⟩ L (k + 1)) := hidden fun h => ⟨by rw [← hnL.out]; omega, fun j hj => by
            by_cases e : j = k
            · subst e; exact h
            · exact hpl.out.ahead j (by omega)⟩
          have hputE : Hid (¬ vacmp (L.getD k Va.none) ⟨yk, yn, yt⟩ < 0 → L.getD k Va.none = ⟨yk, yn, yt⟩ → PutS ⟨yk, yn, yt⟩ L L) := hidden fun h1 h2 => ⟨⟨k, hpl.out, fun _ => h1, .inl ⟨hkL, h2, rfl⟩⟩⟩
          have hputN : Hid (¬ vacmp (L.getD k Va.none) ⟨yk, yn, yt⟩ < 0 → ¬ L.getD k Va.none = ⟨yk, yn, yt⟩ → PutS ⟨yk, yn, yt⟩ L (L.take k ++ ⟨yk, yn, yt⟩ :: L.drop k)) := hidden fun h1 h2 => ⟨⟨k, hpl.out, fun _ => h1, .inr ⟨fun h => h2 h.2, rfl⟩⟩⟩
          clear hpl hX x0 x1 x2
          generalize L.getD k Va.none = o at *
          obtain ⟨ok, on, ot⟩ := o
          have hcmp := hidden fun z => rcmp_c ok on yk yn ot yt z
          have hve : Hid (vacmp ⟨ok, on, ot⟩ ⟨yk, yn, yt⟩ = orS (cmpI ok yk) (cmpI on yn) (cmpS ot yt)) := hidden rfl
          rw [← hve.out] at hcmp
          generalize vacmp ⟨ok, on, ot⟩ ⟨yk, yn, yt⟩ = CC at *
          clear hve
          have kk : Hid (Below wv.heap.size wv wr.drew) := hidden hBd.out.drew
          have hS := hcr.out _ kk.out
          (try simp only at hS)
          go_wp2_with fail
          go_region_held3 (fun z => z.cell? ⟨vb, 0, none⟩ = some (.int .i64 yk) ∧ z.cell? ⟨vb, 1, none⟩ = some (.int .i64 yn) ∧ z.cell? ⟨vb, 2, none⟩ = some (.string yt) ∧ z.cell? ⟨g, k * 3, none⟩ = some (.int .i64 ok) ∧ z.cell? ⟨g, k * 3 + 1, none⟩ = some (.int .i64 on) ∧ z.cell? ⟨g, k * 3 + 2, none⟩ = some (.string ot)) (first | exact hS | go_keep) (first
            | (go_at_call 54; refine (hcmp.out _).mono ?_; rintro e y9 ⟨rfl, hBz⟩
               have kk := hidden (kk.out.trans (hBz.mono kk.out.size))
               have hS := hcr.out y9 kk.out
               skip)
            | fail)
          clear hcmp hS hBd
          by_cases hle : CC < 0
          · have hnp := hidden (hless.out hle)
            clear hless hputE hputN hcr
            go_wp2
            go_roundw
            case rel => exact ⟨k + 1, by go_num, by omega, hnp, kk⟩
            case measure => simp [intOf]; omega
          · have hgE := hidden (hputE.out (by omega))
            have hgN := hidden (hputN.out (by omega))
            have hS8 := hcr.out y9.drew kk.out.drew
            (try simp only at hS8)
            obtain ⟨y0, y1, y2, o0, o1, o2⟩ := hS8
            have hBd2 : Hid (Below wv.heap.size wv y9.drew) := hidden kk.out.drew
            clear hputE hputN hless hcr kk
            go_wp2_with fail
            by_cases hk0 : yk = 0
            · have hnext := hidden (hsk.out hk0)
              have hfb := hidden (hBv.out.trans (hBd2.out.mono hBv.out.size))
              have hS9 := hidden (hS0.out.below hBd2.out)
              subst hk0
              go_region
              all_goals
                clear y0 y1 y2 o0 o1 o2
                go_wp2
                go_roundw
                case rel => exact ⟨K + 1, L, g, cap, by omega, by go_num, by rw [← hnL.out], hS9, hnext, hfb⟩
                case measure => simp [intOf]; omega
            · have hkb : (yk != 0) = true := by simp [hk0]
              have hke : ((k : Int) == (n : Int)) = false := by simp; omega
              by_cases heq : (⟨ok, on, ot⟩ : Va) = ⟨yk, yn, yt⟩
              · have hnext := hidden (hpu.out _ hk0 (hgE.out heq))
                have hfb := hidden (hBv.out.trans (hBd2.out.mono hBv.out.size))
                have hS9 := hidden (hS0.out.below hBd2.out)
                simp only [Va.mk.injEq] at heq
                obtain ⟨rfl, rfl, rfl⟩ := heq
                have hq : ∀ z, (binOp .neq 27 (.agg #[.int .i64 ok, .int .i64 on, .string ot]) (.agg #[.int .i64 ok, .int .i64 on, .string ot])).run Try.prog z = .ok (.bool false) z := fun z => by
                  rw [neqVa ⟨ok, on, ot⟩ ⟨ok, on, ot⟩ z]; simp
                clear hgE hgN
                go_region
                all_goals
                  clear y0 y1 y2 o0 o1 o2
                  go_wp2
                  go_roundw
                  case rel => exact ⟨K + 1, L, g, cap, by omega, by go_num, by rw [← hnL.out], hS9, hnext, hfb⟩
                  case measure => simp [intOf]; omega
              · have hnext := hidden (hpu.out _ hk0 (hgN.out heq))
                have hq9 := hidden (neqVa_ne heq)
                have hq : ∀ z, (binOp .neq 27 (.agg #[.int .i64 ok, .int .i64 on, .string ot]) (.agg #[.int .i64 yk, .int .i64 yn, .string yt])).run Try.prog z = .ok (.bool true) z := hq9.out
                clear hgE hgN heq
                go_region
                all_goals
                  clear y0 y1 y2 o0 o1 o2 hq hq9
                  have hBd := hBd2
                  clear hBd2
                  go_wp2_with fail
                  obtain ⟨x, hxx⟩ : ∃ x, Hid (x = y9.drew) := ⟨_, hidden rfl⟩
                  have hBf : Hid (Below wv.heap.size wv x) := by rw [hxx.out]; exact hBd.out
                  rw [← hxx.out]
                  clear hxx hBd
                  have hslx := hS0.out.below hBf.out
                  have hXx := hidden (box_below hXv.out hBf.out)
                  obtain ⟨⟨x0, x1, x2⟩, -⟩ := box3n hXx.out
                  have hl1 : Hid ((valR.flat (L.take k)).length = k * 3) := by show _ = _; rw [Rec.flat_len, List.length_take, ← hnL.out, Nat.min_eq_left hkn]; rfl
                  have hl3 : Hid ((valR.flat (L.drop k)).length = (n - k) * 3) := by show _ = _; rw [Rec.flat_len, List.length_drop, ← hnL.out]; rfl
                  have hc1 : Hid (∀ u ∈ valR.flat (L.take k), u.oneCell' = true) := Rec.flat_one_cell (R := valR) _
                  have hc3 : Hid (∀ u ∈ valR.flat (L.drop k), u.oneCell' = true) := Rec.flat_one_cell (R := valR) _
                  have eT : valR.flat (L.take k) = (valR.flat L).take (k * 3) := by
                    have h1 : valR.flat L = valR.flat (L.take k) ++ valR.flat (L.drop k) := by rw [← Rec.flat_app, List.take_append_drop]
                    rw [h1, List.take_left' hl1.out]
                  have eD : valR.flat (L.drop k) = (valR.flat L).drop (k * 3) := by
                    have h1 : valR.flat L = valR.flat (L.take k) ++ valR.flat (L.drop k) := by rw [← Rec.flat_app, List.take_append_drop]
                    rw [h1, List.drop_left' hl1.out]
                  have hn1 : Hid (∀ z, Below x.heap.size x z → ∀ j u, (valR.flat (L.take k))[j]? = some u → z.cell? ((⟨g, 0, none⟩ : Addr).add j) = some u) := fun z hz j u hj => by
                    rw [add_plain]
                    rw [eT, List.getElem?_take] at hj
                    split at hj
                    · exact (hslx.below hz).cells j u hj
                    · cases hj
                  have hn3 : Hid (∀ z, Below x.heap.size x z → ∀ j u, (valR.flat (L.drop k))[j]? = some u → z.cell? ((if cap = k then (⟨g, 0, none⟩ : Addr) else ⟨g, k * 3, none⟩).add j) = some u) := fun z hz j u hj => by
                    have h8 := (List.getElem?_eq_some_iff.1 hj).1
                    rw [hl3.out] at h8
                    rw [eD, List.getElem?_drop] at hj
                    rw [if_neg (by omega), add_plain]
                    have h7 := (hslx.below hz).cells _ u hj
                    rwa [Nat.zero_add] at h7
                  clear hslx eT eD
                  have bA : Hid (Below x.heap.size x (x.drew.alloc (.cells #[] 27))) := (Below.refl _ _).drew.alloc (Nat.le_refl _) _
                  have bB : Hid (Below x.heap.size x ((x.drew.alloc (.cells #[] 27)).alloc (.cells #[.int .i64 yk, .int .i64 yn, .string yt] 27))) := bA.out.alloc bA.out.size _
                  have bC0 : Hid (Below x.heap.size x (x.drew.alloc (.cells #[.int .i64 yk, .int .i64 yn, .string yt] 27))) := (Below.refl _ _).drew.alloc (Nat.le_refl _) _
                  have bC : Hid (Below x.heap.size x ((x.drew.alloc (.cells #[.int .i64 yk, .int .i64 yn, .string yt] 27)).alloc (.cells #[] 27))) := bC0.out.alloc bC0.out.size _
                  have mA : Hid ((x.drew.alloc (.cells #[] 27)).ownsRow x.heap.size 27 3 (.slice (some ⟨x.heap.size, 0, none⟩) 0 0) 0 []) := World.ownsRow_made x.drew #[] 0 (Nat.le_refl _) (by unfold maxLen; omega) rfl
                  have mB : Hid (((x.drew.alloc (.cells #[] 27)).alloc (.cells #[.int .i64 yk, .int .i64 yn, .string yt] 27)).ownsRow x.heap.size 27 3 (.slice (some ⟨x.heap.size, 0, none⟩) 0 0) 0 []) := mA.out.alloc _
                  have mC : Hid (((x.drew.alloc (.cells #[.int .i64 yk, .int .i64 yn, .string yt] 27)).alloc (.cells #[] 27)).ownsRow x.heap.size 27 3 (.slice (some ⟨x.heap.size + 1, 0, none⟩) 0 0) 0 []) := by
                    have h9 := World.ownsRow_made (base := x.heap.size) (e := 27) (size := 3) (x.drew.alloc (.cells #[.int .i64 yk, .int .i64 yn, .string yt] 27)) #[] 0 bC0.out.size (by unfold maxLen; omega) rfl
                    have h8 : (x.drew.alloc (.cells #[.int .i64 yk, .int .i64 yn, .string yt] 27)).heap.size = x.heap.size + 1 := by show (x.heap.push _).size = _; simp
                    rw [h8] at h9
                    exact h9
                  have oB : Hid (((x.drew.alloc (.cells #[] 27)).alloc (.cells #[.int .i64 yk, .int .i64 yn, .string yt] 27)).heap[x.heap.size + 1]? = some (.cells #[.int .i64 yk, .int .i64 yn, .string yt] 27)) := by
                    have h9 := heap_alloc_new (x.drew.alloc (.cells #[] 27)) (.cells #[.int .i64 yk, .int .i64 yn, .string yt] 27)
                    have h8 : (x.drew.alloc (.cells #[] 27)).heap.size = x.heap.size + 1 := by show (x.heap.push _).size = _; simp
                    rw [h8] at h9
                    exact h9
                  have oC : Hid (((x.drew.alloc (.cells #[.int .i64 yk, .int .i64 yn, .string yt] 27)).alloc (.cells #[] 27)).heap[x.heap.size]? = some (.cells #[.int .i64 yk, .int .i64 yn, .string yt] 27)) :=
                    box_below (heap_alloc_new x.drew (.cells #[.int .i64 yk, .int .i64 yn, .string yt] 27)) ((Below.refl _ _).alloc (Nat.le_refl _) _)
                  have hkn1 : (k : Int) ≤ (n : Int) := by omega
                  have hkc : (k : Int) ≤ (cap : Int) := by omega
                  have hnc : (n : Int) ≤ (cap : Int) := by omega
                  have hcon : ∀ u ∈ ([.int .i64 yk, .int .i64 yn, .string yt] : List Value), u.oneCell' = true := fun u hu => by simp at hu; rcases hu with rfl | rfl | rfl <;> rfl
                  replace hcon := hidden hcon
                  have hroom' := hidden hroom
                  clear hroom
                  generalize hck : (if cap = k then (⟨g, 0, none⟩ : Addr) else ⟨g, k * 3, none⟩) = ak at *
                  have hck2 : Hid (cap = k ∧ ak = ⟨g, 0, none⟩ ∨ ¬ cap = k ∧ ak = ⟨g, k * 3, none⟩) := by
                    by_cases h : cap = k
                    · exact .inl ⟨h, by rw [← hck, if_pos h]⟩
                    · exact .inr ⟨h, by rw [← hck, if_neg h]⟩
                  clear hck
                  rcases hck2.out with ⟨hck, hak⟩ | ⟨hck, hak⟩ <;> subst hak <;> clear hck2
                  all_goals
                    go_region_held3 (fun z => z.cell? ⟨vb, 0, none⟩ = some (.int .i64 yk) ∧ z.cell? ⟨vb, 1, none⟩ = some (.int .i64 yn) ∧ z.cell? ⟨vb, 2, none⟩ = some (.string yt)) (go_keep) (first
                      | (refine step_append_own_at (by rfl) _ _ _ (by rfl) x.heap.size 27 i0 _ 3 32 Try.underlying56 hi hz0 hz1 hz2 rfl (by decide) _ 0 [] (by rfl) mA.out ⟨g, 0, none⟩ k _ (valR.flat (L.take k)) (by rfl) hl1.out (hn1.out _ bA.out) hc1.out (by unfold maxLen; omega) (by omega) bA.out.size ?_
                         intro v1 w1 hown1 hgrow1 hat1
                         have hB1 := (bA.out).grown hgrow1 bA.out.size (fun j hj => by cases hj; first | exact Nat.le_refl _ | exact Nat.le_succ _)
                         obtain ⟨⟨p0, p1, p2⟩, -⟩ := box3n (box_below hXx.out hB1))
                      | (refine step_append_own_at (by rfl) _ _ _ (by rfl) x.heap.size 27 i0 _ 3 32 Try.underlying56 hi hz0 hz1 hz2 rfl (by decide) _ 0 [] (by rfl) mB.out ⟨g, 0, none⟩ k _ (valR.flat (L.take k)) (by rfl) hl1.out (hn1.out _ bB.out) hc1.out (by unfold maxLen; omega) (by omega) bB.out.size ?_
                         intro v1 w1 hown1 hgrow1 hat1
                         have hB1 := (bB.out).grown hgrow1 bB.out.size (fun j hj => by cases hj; first | exact Nat.le_refl _ | exact Nat.le_succ _)
                         have hq1 := (hgrow1.block (x.heap.size + 1) (Array.getElem?_eq_some_iff.1 oB.out).1 (by simp [Value.ownBlock])).trans oB.out
                         obtain ⟨⟨p0, p1, p2⟩, -⟩ := box3n (box_below hXx.out hB1))
                      | (refine step_append_own_at (by rfl) _ _ _ (by rfl) x.heap.size 27 i0 _ 3 32 Try.underlying56 hi hz0 hz1 hz2 rfl (by decide) _ 0 [] (by rfl) mC.out ⟨g, 0, none⟩ k _ (valR.flat (L.take k)) (by rfl) hl1.out (hn1.out _ bC.out) hc1.out (by unfold maxLen; omega) (by omega) bC.out.size ?_
                         intro v1 w1 hown1 hgrow1 hat1
                         have hB1 := (bC.out).grown hgrow1 bC.out.size (fun j hj => by cases hj; first | exact Nat.le_refl _ | exact Nat.le_succ _)
                         have hq1 := (hgrow1.block (x.heap.size) (Array.getElem?_eq_some_iff.1 oC.out).1 (by simp [Value.ownBlock])).trans oC.out
                         obtain ⟨⟨p0, p1, p2⟩, -⟩ := box3n (box_below hXx.out hB1))
                      | (refine step_append_own_at (by rfl) _ _ _ (by rfl) x.heap.size 27 i0 _ 3 32 Try.underlying56 hi hz0 hz1 hz2 rfl (by decide) v1 (0 + k) _ (by rfl) (hown1.alloc _) ⟨w1.heap.size, 0, none⟩ 1 1 [.int .i64 yk, .int .i64 yn, .string yt] (by rfl) (by rfl) (cells_new w1 [.int .i64 yk, .int .i64 yn, .string yt] _) hcon.out (by unfold maxLen; omega) (by omega) (hB1.alloc hB1.size (.cells #[.int .i64 yk, .int .i64 yn, .string yt] 27)).size ?_
                         intro v2 w2 hown2 hgrow2 hat2
                         have hB2 := ((hB1.alloc hB1.size (.cells #[.int .i64 yk, .int .i64 yn, .string yt] 27))).grown hgrow2 (hB1.alloc hB1.size (.cells #[.int .i64 yk, .int .i64 yn, .string yt] 27)).size (fun j hj => (hown1.lt j hj).1)
                         obtain ⟨⟨q0, q1, q2⟩, -⟩ := box3n (box_below hXx.out hB2))
                      | (refine step_append_own_at (by rfl) _ _ _ (by rfl) x.heap.size 27 i0 _ 3 32 Try.underlying56 hi hz0 hz1 hz2 rfl (by decide) v1 (0 + k) _ (by rfl) hown1 ⟨x.heap.size + 1, 0, none⟩ 1 1 [.int .i64 yk, .int .i64 yn, .string yt] (by rfl) (by rfl) (cells_blkV (cs := [.int .i64 yk, .int .i64 yn, .string yt]) hq1) hcon.out (by unfold maxLen; omega) (by omega) hB1.size ?_
                         intro v2 w2 hown2 hgrow2 hat2
                         have hB2 := (hB1).grown hgrow2 hB1.size (fun j hj => (hown1.lt j hj).1)
                         obtain ⟨⟨q0, q1, q2⟩, -⟩ := box3n (box_below hXx.out hB2))
                      | (refine step_append_own_at (by rfl) _ _ _ (by rfl) x.heap.size 27 i0 _ 3 32 Try.underlying56 hi hz0 hz1 hz2 rfl (by decide) v1 (0 + k) _ (by rfl) hown1 ⟨x.heap.size, 0, none⟩ 1 1 [.int .i64 yk, .int .i64 yn, .string yt] (by rfl) (by rfl) (cells_blkV (cs := [.int .i64 yk, .int .i64 yn, .string yt]) hq1) hcon.out (by unfold maxLen; omega) (by omega) hB1.size ?_
                         intro v2 w2 hown2 hgrow2 hat2
                         have hB2 := (hB1).grown hgrow2 hB1.size (fun j hj => (hown1.lt j hj).1)
                         obtain ⟨⟨q0, q1, q2⟩, -⟩ := box3n (box_below hXx.out hB2))
                      | (refine step_append_own_at (by rfl) _ _ _ (by rfl) x.heap.size 27 i0 _ 3 32 Try.underlying56 hi hz0 hz1 hz2 rfl (by decide) v2 (0 + k + 1) _ (by rfl) hown2 _ (n - k) _ (valR.flat (L.drop k)) (by rfl) hl3.out (hn3.out _ hB2) hc3.out (by unfold maxLen; omega) (by omega) hB2.size ?_
                         intro v3 w3 hown3 hgrow3 hat3
                         have hB3 := hB2.grown hgrow3 hB2.size (fun j hj => (hown2.lt j hj).1)
                         obtain ⟨⟨r0, r1, r2⟩, -⟩ := box3n (box_below hXx.out hB3)
                         obtain ⟨g9, c9, rfl, hS9⟩ := rvput_fin (L := L) (y := ⟨yk, yn, yt⟩) hkn hnL.out hown3)
                      | fail)
                  all_goals
                    have hfb := hidden (hBv.out.trans ((hBf.out.trans (hB3.mono hBf.out.size)).mono hBv.out.size))
                    replace hS9 := hidden hS9
                    have hln : Hid ((L.take k ++ ⟨yk, yn, yt⟩ :: L.drop k).length = n + 1) := by show _ = _; have := hnL.out; simp; omega
                    rw [← hln.out]
                    go_wp2
                    go_roundw
                    case rel => exact ⟨K + 1, _, g9, c9, by omega, by go_num, rfl, hS9, hnext, hfb⟩
                    case measure => simp [intOf]; omega
        · have hlk' : ¬ (k : Int) < (n : Int) := by omega
          have hkq : ((k : Int) == (n : Int)) = true := by simp; omega
          have hputN : Hid (PutS ⟨yk, yn, yt⟩ L (L.take k ++ ⟨yk, yn, yt⟩ :: L.drop k)) := hidden ⟨⟨k, hpl.out, fun h => absurd h (by rw [← hnL.out]; exact hlk), .inr ⟨fun h => absurd h.1 (by rw [← hnL.out]; exact hlk), rfl⟩⟩⟩
          clear hpl hX
          go_wp2_with fail
          go_region
          all_goals
            go_wp2_with fail
            by_cases hk0 : yk = 0
            · have hnext := hidden (hsk.out hk0)
              have hfb := hidden (hBv.out.trans (hBd.out.drew.drew.mono hBv.out.size))
              have hS9 := hidden (hS0.out.below hBd.out.drew.drew)
              subst hk0
              go_region
              all_goals
                clear x0 x1 x2
                go_wp2
                go_roundw
                case rel => exact ⟨K + 1, L, g, cap, by omega, by go_num, by rw [← hnL.out], hS9, hnext, hfb⟩
                case measure => simp [intOf]; omega
            · have hkb : (yk != 0) = true := by simp [hk0]
              have hnext := hidden (hpu.out _ hk0 hputN.out)
              go_region
              all_goals
                clear x0 x1 x2
                go_wp2_with fail
                have hBd := hidden hBd.out.drew.drew
                obtain ⟨x, hxx⟩ : ∃ x, Hid (x = wr.drew.drew) := ⟨_, hidden rfl⟩
                have hBf : Hid (Below wv.heap.size wv x) := by rw [hxx.out]; exact hBd.out
                rw [← hxx.out]
                clear hxx hBd
                have hslx := hS0.out.below hBf.out
                have hXx := hidden (box_below hXv.out hBf.out)
                obtain ⟨⟨x0, x1, x2⟩, -⟩ := box3n hXx.out
                have hl1 : Hid ((valR.flat (L.take k)).length = k * 3) := by show _ = _; rw [Rec.flat_len, List.length_take, ← hnL.out, Nat.min_eq_left hkn]; rfl
                have hl3 : Hid ((valR.flat (L.drop k)).length = (n - k) * 3) := by show _ = _; rw [Rec.flat_len, List.length_drop, ← hnL.out]; rfl
                have hc1 : Hid (∀ u ∈ valR.flat (L.take k), u.oneCell' = true) := Rec.flat_one_cell (R := valR) _
                have hc3 : Hid (∀ u ∈ valR.flat (L.drop k), u.oneCell' = true) := Rec.flat_one_cell (R := valR) _
                have eT : valR.flat (L.take k) = (valR.flat L).take (k * 3) := by
                  have h1 : valR.flat L = valR.flat (L.take k) ++ valR.flat (L.drop k) := by rw [← Rec.flat_app, List.take_append_drop]
                  rw [h1, List.take_left' hl1.out]
                have eD : valR.flat (L.drop k) = (valR.flat L).drop (k * 3) := by
                  have h1 : valR.flat L = valR.flat (L.take k) ++ valR.flat (L.drop k) := by rw [← Rec.flat_app, List.take_append_drop]
                  rw [h1, List.drop_left' hl1.out]
                have hn1 : Hid (∀ z, Below x.heap.size x z → ∀ j u, (valR.flat (L.take k))[j]? = some u → z.cell? ((⟨g, 0, none⟩ : Addr).add j) = some u) := fun z hz j u hj => by
                  rw [add_plain]
                  rw [eT, List.getElem?_take] at hj
                  split at hj
                  · exact (hslx.below hz).cells j u hj
                  · cases hj
                have hn3 : Hid (∀ z, Below x.heap.size x z → ∀ j u, (valR.flat (L.drop k))[j]? = some u → z.cell? ((if cap = k then (⟨g, 0, none⟩ : Addr) else ⟨g, k * 3, none⟩).add j) = some u) := fun z hz j u hj => by
                  have h8 := (List.getElem?_eq_some_iff.1 hj).1
                  rw [hl3.out] at h8
                  rw [eD, List.getElem?_drop] at hj
                  rw [if_neg (by omega), add_plain]
                  have h7 := (hslx.below hz).cells _ u hj
                  rwa [Nat.zero_add] at h7
                clear hslx eT eD
                have bA : Hid (Below x.heap.size x (x.drew.alloc (.cells #[] 27))) := (Below.refl _ _).drew.alloc (Nat.le_refl _) _
                have bB : Hid (Below x.heap.size x ((x.drew.alloc (.cells #[] 27)).alloc (.cells #[.int .i64 yk, .int .i64 yn, .string yt] 27))) := bA.out.alloc bA.out.size _
                have bC0 : Hid (Below x.heap.size x (x.drew.alloc (.cells #[.int .i64 yk, .int .i64 yn, .string yt] 27))) := (Below.refl _ _).drew.alloc (Nat.le_refl _) _
                have bC : Hid (Below x.heap.size x ((x.drew.alloc (.cells #[.int .i64 yk, .int .i64 yn, .string yt] 27)).alloc (.cells #[] 27))) := bC0.out.alloc bC0.out.size _
                have mA : Hid ((x.drew.alloc (.cells #[] 27)).ownsRow x.heap.size 27 3 (.slice (some ⟨x.heap.size, 0, none⟩) 0 0) 0 []) := World.ownsRow_made x.drew #[] 0 (Nat.le_refl _) (by unfold maxLen; omega) rfl
                have mB : Hid (((x.drew.alloc (.cells #[] 27)).alloc (.cells #[.int .i64 yk, .int .i64 yn, .string yt] 27)).ownsRow x.heap.size 27 3 (.slice (some ⟨x.heap.size, 0, none⟩) 0 0) 0 []) := mA.out.alloc _
                have mC : Hid (((x.drew.alloc (.cells #[.int .i64 yk, .int .i64 yn, .string yt] 27)).alloc (.cells #[] 27)).ownsRow x.heap.size 27 3 (.slice (some ⟨x.heap.size + 1, 0, none⟩) 0 0) 0 []) := by
                  have h9 := World.ownsRow_made (base := x.heap.size) (e := 27) (size := 3) (x.drew.alloc (.cells #[.int .i64 yk, .int .i64 yn, .string yt] 27)) #[] 0 bC0.out.size (by unfold maxLen; omega) rfl
                  have h8 : (x.drew.alloc (.cells #[.int .i64 yk, .int .i64 yn, .string yt] 27)).heap.size = x.heap.size + 1 := by show (x.heap.push _).size = _; simp
                  rw [h8] at h9
                  exact h9
                have oB : Hid (((x.drew.alloc (.cells #[] 27)).alloc (.cells #[.int .i64 yk, .int .i64 yn, .string yt] 27)).heap[x.heap.size + 1]? = some (.cells #[.int .i64 yk, .int .i64 yn, .string yt] 27)) := by
                  have h9 := heap_alloc_new (x.drew.alloc (.cells #[] 27)) (.cells #[.int .i64 yk, .int .i64 yn, .string yt] 27)
                  have h8 : (x.drew.alloc (.cells #[] 27)).heap.size = x.heap.size + 1 := by show (x.heap.push _).size = _; simp
                  rw [h8] at h9
                  exact h9
                have oC : Hid (((x.drew.alloc (.cells #[.int .i64 yk, .int .i64 yn, .string yt] 27)).alloc (.cells #[] 27)).heap[x.heap.size]? = some (.cells #[.int .i64 yk, .int .i64 yn, .string yt] 27)) :=
                  box_below (heap_alloc_new x.drew (.cells #[.int .i64 yk, .int .i64 yn, .string yt] 27)) ((Below.refl _ _).alloc (Nat.le_refl _) _)
                have hkn1 : (k : Int) ≤ (n : Int) := by omega
                have hkc : (k : Int) ≤ (cap : Int) := by omega
                have hnc : (n : Int) ≤ (cap : Int) := by omega
                have hcon : ∀ u ∈ ([.int .i64 yk, .int .i64 yn, .string yt] : List Value), u.oneCell' = true := fun u hu => by simp at hu; rcases hu with rfl | rfl | rfl <;> rfl
                replace hcon := hidden hcon
                have hroom' := hidden hroom
                clear hroom
                generalize hck : (if cap = k then (⟨g, 0, none⟩ : Addr) else ⟨g, k * 3, none⟩) = ak at *
                have hck2 : Hid (cap = k ∧ ak = ⟨g, 0, none⟩ ∨ ¬ cap = k ∧ ak = ⟨g, k * 3, none⟩) := by
                  by_cases h : cap = k
                  · exact .inl ⟨h, by rw [← hck, if_pos h]⟩
                  · exact .inr ⟨h, by rw [← hck, if_neg h]⟩
                clear hck
                rcases hck2.out with ⟨hck, hak⟩ | ⟨hck, hak⟩ <;> subst hak <;> clear hck2
                all_goals
                  go_region_held3 (fun z => z.cell? ⟨vb, 0, none⟩ = some (.int .i64 yk) ∧ z.cell? ⟨vb, 1, none⟩ = some (.int .i64 yn) ∧ z.cell? ⟨vb, 2, none⟩ = some (.string yt)) (go_keep) (first
                    | (refine step_append_own_at (by rfl) _ _ _ (by rfl) x.heap.size 27 i0 _ 3 32 Try.underlying56 hi hz0 hz1 hz2 rfl (by decide) _ 0 [] (by rfl) mA.out ⟨g, 0, none⟩ k _ (valR.flat (L.take k)) (by rfl) hl1.out (hn1.out _ bA.out) hc1.out (by unfold maxLen; omega) (by omega) bA.out.size ?_
                       intro v1 w1 hown1 hgrow1 hat1
                       have hB1 := (bA.out).grown hgrow1 bA.out.size (fun j hj => by cases hj; first | exact Nat.le_refl _ | exact Nat.le_succ _)
                       obtain ⟨⟨p0, p1, p2⟩, -⟩ := box3n (box_below hXx.out hB1))
                    | (refine step_append_own_at (by rfl) _ _ _ (by rfl) x.heap.size 27 i0 _ 3 32 Try.underlying56 hi hz0 hz1 hz2 rfl (by decide) _ 0 [] (by rfl) mB.out ⟨g, 0, none⟩ k _ (valR.flat (L.take k)) (by rfl) hl1.out (hn1.out _ bB.out) hc1.out (by unfold maxLen; omega) (by omega) bB.out.size ?_
                       intro v1 w1 hown1 hgrow1 hat1
                       have hB1 := (bB.out).grown hgrow1 bB.out.size (fun j hj => by cases hj; first | exact Nat.le_refl _ | exact Nat.le_succ _)
                       have hq1 := (hgrow1.block (x.heap.size + 1) (Array.getElem?_eq_some_iff.1 oB.out).1 (by simp [Value.ownBlock])).trans oB.out
                       obtain ⟨⟨p0, p1, p2⟩, -⟩ := box3n (box_below hXx.out hB1))
                    | (refine step_append_own_at (by rfl) _ _ _ (by rfl) x.heap.size 27 i0 _ 3 32 Try.underlying56 hi hz0 hz1 hz2 rfl (by decide) _ 0 [] (by rfl) mC.out ⟨g, 0, none⟩ k _ (valR.flat (L.take k)) (by rfl) hl1.out (hn1.out _ bC.out) hc1.out (by unfold maxLen; omega) (by omega) bC.out.size ?_
                       intro v1 w1 hown1 hgrow1 hat1
                       have hB1 := (bC.out).grown hgrow1 bC.out.size (fun j hj => by cases hj; first | exact Nat.le_refl _ | exact Nat.le_succ _)
                       have hq1 := (hgrow1.block (x.heap.size) (Array.getElem?_eq_some_iff.1 oC.out).1 (by simp [Value.ownBlock])).trans oC.out
                       obtain ⟨⟨p0, p1, p2⟩, -⟩ := box3n (box_below hXx.out hB1))
                    | (refine step_append_own_at (by rfl) _ _ _ (by rfl) x.heap.size 27 i0 _ 3 32 Try.underlying56 hi hz0 hz1 hz2 rfl (by decide) v1 (0 + k) _ (by rfl) (hown1.alloc _) ⟨w1.heap.size, 0, none⟩ 1 1 [.int .i64 yk, .int .i64 yn, .string yt] (by rfl) (by rfl) (cells_new w1 [.int .i64 yk, .int .i64 yn, .string yt] _) hcon.out (by unfold maxLen; omega) (by omega) (hB1.alloc hB1.size (.cells #[.int .i64 yk, .int .i64 yn, .string yt] 27)).size ?_
                       intro v2 w2 hown2 hgrow2 hat2
                       have hB2 := ((hB1.alloc hB1.size (.cells #[.int .i64 yk, .int .i64 yn, .string yt] 27))).grown hgrow2 (hB1.alloc hB1.size (.cells #[.int .i64 yk, .int .i64 yn, .string yt] 27)).size (fun j hj => (hown1.lt j hj).1)
                       obtain ⟨⟨q0, q1, q2⟩, -⟩ := box3n (box_below hXx.out hB2))
                    | (refine step_append_own_at (by rfl) _ _ _ (by rfl) x.heap.size 27 i0 _ 3 32 Try.underlying56 hi hz0 hz1 hz2 rfl (by decide) v1 (0 + k) _ (by rfl) hown1 ⟨x.heap.size + 1, 0, none⟩ 1 1 [.int .i64 yk, .int .i64 yn, .string yt] (by rfl) (by rfl) (cells_blkV (cs := [.int .i64 yk, .int .i64 yn, .string yt]) hq1) hcon.out (by unfold maxLen; omega) (by omega) hB1.size ?_
                       intro v2 w2 hown2 hgrow2 hat2
                       have hB2 := (hB1).grown hgrow2 hB1.size (fun j hj => (hown1.lt j hj).1)
                       obtain ⟨⟨q0, q1, q2⟩, -⟩ := box3n (box_below hXx.out hB2))
                    | (refine step_append_own_at (by rfl) _ _ _ (by rfl) x.heap.size 27 i0 _ 3 32 Try.underlying56 hi hz0 hz1 hz2 rfl (by decide) v1 (0 + k) _ (by rfl) hown1 ⟨x.heap.size, 0, none⟩ 1 1 [.int .i64 yk, .int .i64 yn, .string yt] (by rfl) (by rfl) (cells_blkV (cs := [.int .i64 yk, .int .i64 yn, .string yt]) hq1) hcon.out (by unfold maxLen; omega) (by omega) hB1.size ?_
                       intro v2 w2 hown2 hgrow2 hat2
                       have hB2 := (hB1).grown hgrow2 hB1.size (fun j hj => (hown1.lt j hj).1)
                       obtain ⟨⟨q0, q1, q2⟩, -⟩ := box3n (box_below hXx.out hB2))
                    | (refine step_append_own_at (by rfl) _ _ _ (by rfl) x.heap.size 27 i0 _ 3 32 Try.underlying56 hi hz0 hz1 hz2 rfl (by decide) v2 (0 + k + 1) _ (by rfl) hown2 _ (n - k) _ (valR.flat (L.drop k)) (by rfl) hl3.out (hn3.out _ hB2) hc3.out (by unfold maxLen; omega) (by omega) hB2.size ?_
                       intro v3 w3 hown3 hgrow3 hat3
                       have hB3 := hB2.grown hgrow3 hB2.size (fun j hj => (hown2.lt j hj).1)
                       obtain ⟨⟨r0, r1, r2⟩, -⟩ := box3n (box_below hXx.out hB3)
                       obtain ⟨g9, c9, rfl, hS9⟩ := rvput_fin (L := L) (y := ⟨yk, yn, yt⟩) hkn hnL.out hown3)
                    | fail)
                all_goals
                  have hfb := hidden (hBv.out.trans ((hBf.out.trans (hB3.mono hBf.out.size)).mono hBv.out.size))
                  replace hS9 := hidden hS9
                  have hln : Hid ((L.take k ++ ⟨yk, yn, yt⟩ :: L.drop k).length = n + 1) := by show _ = _; have := hnL.out; simp; omega
                  rw [← hln.out]
                  go_wp2
                  go_roundw
                  case rel => exact ⟨K + 1, _, g9, c9, by omega, by go_num, rfl, hS9, hnext, hfb⟩
                  case measure => simp [intOf]; omega
    · have hlt' : ¬ (K : Int) < (N : Int) := by omega
      obtain rfl : K = N := by omega
      have hfin := htell.out L hTk.out
      have hbf : Hid (Below w.heap.size w wr) := hidden (hB0.out.trans (hnx.out.mono hB0.out.size))
      have hrow := hidden hSl.out.row
      rw [hfin] at hrow ⊢
      clear hSl
      go_wp2
      go_ret
      exact ⟨_, ⟨_, rfl⟩, hrow.out, hbf.out⟩
end Go.Proofs.Ytnmjhbnadfjapaa
