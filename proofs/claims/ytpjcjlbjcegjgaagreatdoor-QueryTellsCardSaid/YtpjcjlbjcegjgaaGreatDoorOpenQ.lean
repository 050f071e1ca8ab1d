/-
  THE VARIABLES OF A QUERY, each once: the program's, by contract (a map tells what was found).
-/
import Derived.Test.YtpjcjlbjcegjgaaGreatDoorRVars2
import Derived.Maps.Own
import Derived.Maps.OwnOps
import Derived.Maps.OwnSet
import Derived.StringKeys
import Derived.Test.YtpjcjlbjcegjgaaGreatDoorParts
import Derived.Lib.SmallJoins
namespace Go.Proofs.YtpjcjlbjcegjgaaGreatDoor
open Go.ChangeShapes Go.WideShapes Go.ChangeAt Go.RowKit Go.Maps

theorem lawK : Keyed Tryz.prog 9 := string_keyed Tryz.underlying9
theorem zeroInt (w : World) : (zeroValue 3).run Tryz.prog w = .ok (.int .i64 0) w := by kernel_rfl
theorem key_txt {s : ByteArray} (h : s.size ≤ maxLen) : keyOf Tryz.prog 9 (.string s) = some (.string s.data.toList) := Go.WideMaps.keyOf_string_mk Tryz.underlying9 h
theorem lit_ne {x s : ByteArray} (he : x ≠ s) : (Lit.string x.data.toList) ≠ (Lit.string s.data.toList) := fun e => he (by
  have e1 : x.data.toList = s.data.toList := by simpa using e
  obtain ⟨⟨x⟩⟩ := x
  obtain ⟨⟨s⟩⟩ := s
  simp only at e1
  rw [e1])
/-- A map that tells how often each was found. -/
structure MapV (w : World) (b n : Nat) (L : List ByteArray) (D : DataW Unit) : Prop where
  own : w.ownsMap Tryz.prog 9 (plainElem Tryz.prog 3) b n D
  val : ∀ s : ByteArray, ∃ c : Int, D.atKey (.string s.data.toList) (.lit (.int .i64 0)) = .lit (.int .i64 c) ∧ 0 ≤ c ∧ c ≤ n ∧ (c = 0 ↔ s ∉ L)
theorem mapV_made (w : World) : MapV (w.alloc (.map #[] 0)) w.heap.size 0 [] (.map []) := ⟨World.ownsMap_made _ _ _ _, fun s => ⟨0, rfl, Int.le_refl _, Int.le_refl _, by simp⟩⟩
theorem MapV.keep {w w' : World} {b n : Nat} {L : List ByteArray} {D : DataW Unit} (h : MapV w b n L D) (hb : ∀ k, k < w.heap.size → k = b → w'.heap[k]? = w.heap[k]?) : MapV w' b n L D := by
  obtain ⟨es, clock, hh, h2⟩ := h.own
  exact ⟨⟨es, clock, (hb b (Array.getElem?_eq_some_iff.1 hh).1 rfl).trans hh, h2⟩, h.val⟩
theorem MapV.put {w w' : World} {b n : Nat} {L : List ByteArray} {D : DataW Unit} (h : MapV w b n L D) {s : ByteArray} {c : Int} (hc : D.atKey (.string s.data.toList) (.lit (.int .i64 0)) = .lit (.int .i64 c)) (hc0 : 0 ≤ c) (hcn : c ≤ n)
    (hown : w'.ownsMap Tryz.prog 9 (plainElem Tryz.prog 3) b (n + 1) (D.put (.string s.data.toList) (.lit (.int .i64 (c + 1))))) : MapV w' b (n + 1) (addV L s) (D.put (.string s.data.toList) (.lit (.int .i64 (c + 1)))) := by
  have ht := h.own.tidy lawK
  have hm : ∀ x, x ∈ addV L s ↔ x ∈ L ∨ x = s := fun x => by
    unfold addV
    split
    · rename_i hs
      exact ⟨.inl, fun h => by rcases h with h | rfl; exact h; exact hs⟩
    · simp
  refine ⟨hown, fun x => ?_⟩
  by_cases he : x = s
  · subst he
    exact ⟨c + 1, by rw [atKey_put_same ht.isMap (by simp [WideAt.IsKeyLit])], by omega, by push_cast; omega, ⟨fun h => by omega, fun h => absurd ((hm x).2 (.inr rfl)) h⟩⟩
  · obtain ⟨d, h1, h2, h3, h4⟩ := h.val x
    refine ⟨d, by rw [atKey_put_other (lit_ne he)]; exact h1, h2, by push_cast; omega, h4.trans ⟨fun h hx => ?_, fun h hx => h ((hm x).2 (.inl hx))⟩⟩
    rcases (hm x).1 hx with h5 | h5
    · exact h h5
    · exact he h5
/-- The variables that are told, and the map. -/
structure TV (w x : World) (inp : Array Value) (v : Value) (L : List ByteArray) (n : Nat) (D : DataW Unit) : Prop where
  below : Below w.heap.size w x
  box : x.heap[w.heap.size]? = some (.cells inp 26)
  row : x.ownsRow (w.heap.size + 2) 9 1 v L.length (tx L)
  map : MapV x (w.heap.size + 1) n L D
theorem TV.step {w x z : World} {inp : Array Value} {v : Value} {L : List ByteArray} {n : Nat} {D : DataW Unit} (h : TV w x inp v L n D) (hB : Below x.heap.size x z) : TV w z inp v L n D :=
  ⟨h.below.trans (hB.mono h.below.size), box_below h.box hB, owns_keep h.row hB, h.map.keep fun k hk _ => hB.block k hk⟩
/-- What of it does not hang on the list: between an append and the map's turn. -/
structure TW (w x : World) (inp : Array Value) (v : Value) (L L' : List ByteArray) (n : Nat) (D : DataW Unit) : Prop where
  below : Below w.heap.size w x
  box : x.heap[w.heap.size]? = some (.cells inp 26)
  row : x.ownsRow (w.heap.size + 2) 9 1 v L'.length (tx L')
  map : MapV x (w.heap.size + 1) n L D
theorem TV.same {w x : World} {inp : Array Value} {v : Value} {L : List ByteArray} {n : Nat} {D : DataW Unit} (h : TV w x inp v L n D) : TW w x inp v L L n D := ⟨h.below, h.box, h.row, h.map⟩
theorem TV.next {w x z : World} {inp : Array Value} {v v' : Value} {L : List ByteArray} {n : Nat} {D : DataW Unit} {s : ByteArray} (h : TV w x inp v L n D) (hown : z.ownsRow (w.heap.size + 2) 9 1 v' (L.length + 1) (tx L ++ [.string s])) (hg : x.grownBy z v.ownBlock) : TW w z inp v' L (L ++ [s]) n D := by
  refine ⟨h.below.grown hg h.below.size (fun j hj => by have := (h.row.lt j hj).1; omega), box_grown h.box h.row (by decide) hg, ?_, h.map.keep fun k hk hk2 => hg.block k hk (fun e => ?_)⟩
  · rw [tx_app, List.length_append]
    exact hown
  · have := (h.row.lt k e.symm).1; omega
theorem TW.put {w x z : World} {inp : Array Value} {v : Value} {L L' : List ByteArray} {n : Nat} {D : DataW Unit} (h : TW w x inp v L L' n D) {s : ByteArray} {c : Int} (hc : D.atKey (.string s.data.toList) (.lit (.int .i64 0)) = .lit (.int .i64 c)) (hc0 : 0 ≤ c) (hcn : c ≤ n)
    (hown : z.ownsMap Tryz.prog 9 (plainElem Tryz.prog 3) (w.heap.size + 1) (n + 1) (D.put (.string s.data.toList) (.lit (.int .i64 (c + 1))))) (hg : x.grownBy z (some (w.heap.size + 1))) (hL : L' = addV L s) :
    TV w z inp v L' (n + 1) (D.put (.string s.data.toList) (.lit (.int .i64 (c + 1)))) := by
  have hb := (Array.getElem?_eq_some_iff.1 h.box).1
  refine ⟨h.below.grown hg h.below.size (fun j hj => by cases hj; omega), (hg.block _ hb (fun e => by have := Option.some.inj e; omega)).trans h.box, ?_, by rw [hL]; exact h.map.put hc hc0 hcn hown⟩
  obtain ⟨h1, h2⟩ := h.row
  refine ⟨h1, ?_⟩
  rcases h2 with h2 | ⟨g, cap, cur, e1, e2, e3, e4⟩
  · exact .inl h2
  · exact .inr ⟨g, cap, cur, e1, e2, (hg.block g (Array.getElem?_eq_some_iff.1 e3).1 (fun e => by cases e; omega)).trans e3, e4⟩
theorem tv_made (w : World) (inp : Array Value) : TV w ((w.alloc (.cells inp 26)).alloc (.map #[] 0)) inp (.slice none 0 0) [] 0 (.map []) := by
  refine ⟨((Below.refl _ _).alloc (Nat.le_refl _) _).alloc (by simp) _, (heap_alloc_old _ _ (by simp)).trans (heap_alloc_new _ _), World.ownsRow_nil .., ?_⟩
  have h := mapV_made (w.alloc (.cells inp 26))
  rwa [show (w.alloc (.cells inp 26)).heap.size = w.heap.size + 1 by simp] at h
set_option maxRecDepth 100000 in
set_option maxHeartbeats 3200000 in
theorem qvarsQ_c (ps : List Pl) (na : Option Addr) (N0 nc : Nat) (ea : Option Addr) (M0 ec : Nat) (ra : Option Addr) (R0 rc : Nat) (qc : Bool) (sk li : Int) (ct : Bool) (w : World) (hE : HoldsP w (.slice na N0 nc) ps) (hl : ps.length ≤ 90000) (hsz : ∀ p ∈ ps, p.v.size ≤ 1000) :
    Calls Tryz.prog 8 #[.agg #[.slice na N0 nc, .slice ea M0 ec, .slice ra R0 rc, .bool qc, .int .i64 sk, .int .i64 li, .bool ct]] w fun e w' => ∃ a c, e = .returned (.slice a (varsQ ps).length c) ∧ w'.ownsRow (w.heap.size + 2) 9 1 (.slice a (varsQ ps).length c) (varsQ ps).length (tx (varsQ ps)) ∧ Below w.heap.size w w' := by
  have hmm := @run_makeMap Tryz.prog
  obtain ⟨_, _, hv⟩ := hE.slice
  simp only [Value.slice.injEq] at hv
  obtain ⟨-, hM, -⟩ := hv
  rw [← hM] at hl
  replace hM := hidden hM
  replace hE := hidden hE
  replace hsz := hidden hsz
  obtain ⟨ix, hix, hx0, hx1, hx2⟩ := info_parts infoTxt
  have hT0 := hidden (tv_made w #[.slice na N0 nc, .slice ea M0 ec, .slice ra R0 rc, .bool qc, .int .i64 sk, .int .i64 li, .bool ct])
  obtain ⟨⟨q0, q1, q2, q3, q4, q5, q6⟩, -⟩ := box7q hT0.out.box
  go_enter Tryz.func8, Tryz.ntmps8
  go_wp2
  clear q0 q1 q2 q3 q4 q5 q6 hmm
  go_loopw [3, 11] (fun u i x => ∃ (k : Nat) (L : List ByteArray) (D : DataW Unit), i = .int .i64 k ∧ k ≤ N0 ∧ Hid (L = varsQ (ps.take k)) ∧ Hid (TV w x #[.slice na N0 nc, .slice ea M0 ec, .slice ra R0 rc, .bool qc, .int .i64 sk, .int .i64 li, .bool ct] u L k D)) (fun _ i _ => N0 - (intOf i).toNat)
  case atStart => exact ⟨0, [], _, rfl, Nat.zero_le _, rfl, hT0⟩
  case round =>
    clear hT0
    obtain ⟨k, L, D, rfl, hk, hL, hT⟩ := hrel
    obtain ⟨⟨g0, g1, g2, g3, g4, g5, g6⟩, -⟩ := box7q hT.out.box
    by_cases hlt : k < N0
    · have hj1 : (k : Int) < (N0 : Int) := by omega
      have hkp : k < ps.length := by rw [← hM.out]; exact hlt
      obtain ⟨b, off, pta, ptc, rfl, hb, c0, c1, c2, -⟩ := place_at hE.out hkp
      have f0 := (hT.out.below.cell (p := ⟨b, off + k * 3, none⟩) hb).trans c0
      have f1 := (hT.out.below.cell (p := ⟨b, off + k * 3 + 1, none⟩) hb).trans c1
      have f2 := (hT.out.below.cell (p := ⟨b, off + k * 3 + 2, none⟩) hb).trans c2
      have hsn := hidden (varsQ_snoc ps k hkp)
      have hvs : (ps.getD k Pl.none).v.size ≤ 1000 := hsz.out _ (by
        rw [show ps.getD k Pl.none = ps[k] by simp [List.getD, hkp]]
        exact List.getElem_mem _)
      have hlen : Hid (L.length ≤ k) := by
        show _ ≤ _
        rw [hL.out]
        exact Nat.le_trans (varsQ_le _) (by simp; omega)
      clear c0 c1 c2
      generalize ps.getD k Pl.none = pd at *
      obtain ⟨pv, s, pts⟩ := pd
      simp only at f0 f1 f2 hsn hvs
      generalize pts.length = pn at *
      have hsm : pv.size ≤ maxLen := by unfold maxLen; omega
      have hkey := hidden (key_txt (s := pv) hsm)
      have hkm : k < maxLen := by unfold maxLen; omega
      have hT1 := hidden (hT.out.step ((Below.refl _ _).alloc (Nat.le_refl _) (.cells #[.string pv, .string s, .slice pta pn ptc] 38)))
      have hP1 := hidden (heap_alloc_new wr (.cells #[.string pv, .string s, .slice pta pn ptc] 38))
      have hbs : Hid (w.heap.size + 2 ≤ (wr.alloc (.cells #[.string pv, .string s, .slice pta pn ptc] 38)).heap.size) := by
        show _ ≤ _
        obtain ⟨es, cl, hh, _⟩ := hT.out.map.own
        have := (Array.getElem?_eq_some_iff.1 hh).1; simp; omega
      have hys : Hid ((wr.alloc (.cells #[.string pv, .string s, .slice pta pn ptc] 38)).heap.size = wr.heap.size + 1) := hidden (by simp)
      generalize hya : wr.alloc (.cells #[.string pv, .string s, .slice pta pn ptc] 38) = y at *
      replace hya := hidden hya
      obtain ⟨⟨p0, p1, p2⟩, -⟩ := box3q hP1.out
      obtain ⟨c, hc, hc0, hck, hcL⟩ := hT1.out.map.val pv
      replace hc := hidden hc
      replace hcL := hidden hcL
      have hw : IntKind.i64.wrap (c + 1) = c + 1 := by rw [IntKind.wrap_i64]; omega
      have hwf := hidden (show (Lit.int .i64 (c + 1)).wf = true by rw [← hw, show IntKind.i64.wrap (c + 1) = wrap64 (c + 1) from Go.IntWalk.i64_left _]; exact wrap64_wf _)
      clear hT
      by_cases hs : pv ∈ L
      · have hc1 : ¬ c = 0 := fun h => hcL.out.1 h hs
        have hL2 : Hid (L = varsQ (ps.take (k + 1))) := by
          show _ = _
          rw [hsn.out, ← hL.out]; unfold addV; rw [if_pos hs]
        have hLa : Hid (L = addV L pv) := by show _ = _; unfold addV; rw [if_pos hs]
        clear hL hsn hs hcL
        go_wp2_with (first
          | (at_lookup; (try rw [hya.out]); go_loud (refine wpList_lookup_own_int _ rfl _ _ 54 rfl 9 3 .i64 lawK Tryz.underlying54 Tryz.underlying3 (zeroInt _) (w.heap.size + 1) k D rfl hT1.out.map.own _ _ rfl hkey.out ?_); intro cc hatc hwc; have hcc := hatc.symm.trans hc.out; simp only [DataW.lit.injEq, Lit.int.injEq, true_and] at hcc; subst hcc; clear hatc hwc)
          | (at_mapUpdate; go_loud (refine wpList_mapUpdate_own _ rfl _ _ _ 54 rfl 9 3 lawK Tryz.underlying54 _ (w.heap.size + 1) k D rfl hT1.out.map.own hkm _ _ _ rfl rfl hkey.out _ [] (plainElem_int Tryz.underlying3 hwf.out) ?_); intro w6 hown6 hgrow6)
          | fail)
        have hT2 := hidden (hT1.out.same.put hc.out hc0 hck hown6 hgrow6 hLa.out)
        clear hown6 hgrow6
        go_roundw
        case rel => exact ⟨k + 1, L, _, by go_num, by omega, hL2, hT2⟩
        case measure => simp [intOf]; omega
      · obtain rfl : c = 0 := hcL.out.2 hs
        have hL2 : Hid (L ++ [pv] = varsQ (ps.take (k + 1))) := by
          show _ = _
          rw [hsn.out, ← hL.out]; unfold addV; rw [if_neg hs]
        have hLa : Hid (L ++ [pv] = addV L pv) := by show _ = _; unfold addV; rw [if_neg hs]
        clear hL hsn hs hcL
        go_wp2_with (first
          | (at_lookup; refine wpList_lookup_own_int _ rfl _ _ 54 rfl 9 3 .i64 lawK Tryz.underlying54 Tryz.underlying3 (zeroInt _) (w.heap.size + 1) k D rfl hTW.out.map.own _ _ rfl hkey.out ?_; intro cc hatc hwc; have hcc := hatc.symm.trans hc.out; simp only [DataW.lit.injEq, Lit.int.injEq, true_and] at hcc; subst hcc; clear hatc hwc)
          | (at_mapUpdate; go_loud (refine wpList_mapUpdate_own _ rfl _ _ _ 54 rfl 9 3 lawK Tryz.underlying54 _ (w.heap.size + 1) k D rfl hTW.out.map.own hkm _ _ _ rfl rfl hkey.out _ [] (plainElem_int Tryz.underlying3 hwf.out) ?_); intro w6 hown6 hgrow6)
          | (at_lookup; (try rw [hya.out]); go_loud (refine wpList_lookup_own_int _ rfl _ _ 54 rfl 9 3 .i64 lawK Tryz.underlying54 Tryz.underlying3 (zeroInt _) (w.heap.size + 1) k D rfl hT1.out.map.own _ _ rfl hkey.out ?_); intro cc hatc hwc; have hcc := hatc.symm.trans hc.out; simp only [DataW.lit.injEq, Lit.int.injEq, true_and] at hcc; subst hcc; clear hatc hwc)
          | (at_builtin; go_loud (refine wpList_append_own _ rfl _ _ 24 rfl (w.heap.size + 2) 9 ix (.string ⟨#[]⟩) 1 16 Tryz.underlying24 hix hx0 hx1 hx2 rfl (by decide) u3 _ _ rfl (hT1.out.row.alloc _) ⟨y.heap.size, 0, none⟩ 1 1 [.string pv] rfl rfl (cells_new y [_] _) (by simp [Value.oneCell']) (by have := hlen.out; unfold maxLen; omega) (by have := hlen.out; omega) (by have := hbs.out; simp; omega) ?_); intro v' w5 hown5 hgrow5 _; have hTW := hidden ((hT1.out.step ((Below.refl _ _).alloc (Nat.le_refl _) (.cells #[.string pv] 9))).next hown5 hgrow5); obtain ⟨⟨r0, r1, r2⟩, -⟩ := box3q (box_grown ((heap_alloc_old _ _ (Array.getElem?_eq_some_iff.1 hP1.out).1).trans hP1.out) (hT1.out.row.alloc _) (by decide) hgrow5))
          | fail)
        have hT2 := hidden (hTW.out.put hc.out hc0 hck hown6 hgrow6 hLa.out)
        clear hown6 hgrow6
        go_roundw
        case rel => exact ⟨k + 1, _, _, by go_num, by omega, hL2, hT2⟩
        case measure => simp [intOf]; omega
    · have hj1 : ¬ (k : Int) < (N0 : Int) := by omega
      have hL2 : Hid (L = varsQ ps) := by
        show _ = _
        rw [hL.out, List.take_of_length_le (by rw [← hM.out]; omega)]
      go_wp2
      go_ret
      obtain rfl := hL2.out
      obtain ⟨a, c, rfl⟩ := own_shape hT.out.row
      exact ⟨a, c, rfl, hT.out.row, hT.out.below⟩
end Go.Proofs.YtpjcjlbjcegjgaaGreatDoor
/-
  A QUERY THAT CAME IN.
-/
namespace Go.Proofs.YtpjcjlbjcegjgaaGreatDoor
open Go.ChangeShapes Go.WideShapes Go.ChangeAt Go.RowKit

theorem k_str : Tryz.prog.cellsOf 9 = 1 := by kernel_rfl
theorem k_int : Tryz.prog.cellsOf 3 = 1 := by kernel_rfl
theorem k_bool : Tryz.prog.cellsOf 4 = 1 := by kernel_rfl
theorem k_val : Tryz.prog.cellsOf 40 = 3 := by kernel_rfl
theorem k_rx : Tryz.prog.cellsOf 47 = 4 := by kernel_rfl
theorem k_ts : Tryz.prog.cellsOf 32 = 1 := by kernel_rfl
theorem k_ps : Tryz.prog.cellsOf 22 = 1 := by kernel_rfl
theorem k_es : Tryz.prog.cellsOf 23 = 1 := by kernel_rfl
theorem k_rs : Tryz.prog.cellsOf 24 = 1 := by kernel_rfl
def txR : Rec ByteArray := ⟨fun x => [.string x], 1, by decide, fun _ => rfl, fun x u hu => by simp at hu; subst hu; rfl, ⟨#[]⟩⟩
theorem txR_flat : ∀ L : List ByteArray, txR.flat L = tx L
  | [] => rfl
  | x :: r => by rw [Rec.flat_cons, txR_flat r]; rfl
variable {H : Type} {enc : TypeId × Value → H} {w : World} {sp : Nat → Bool} {held : Bool}
set_option maxRecDepth 100000 in
theorem open_tstF (fuel : Nat) (cs : List Value) (x : DataW H × List MemPlace) (hl : cs.length = 5) (hx : DataW.trod enc Tryz.prog w 0 sp held fuel 42 cs = some x) : ∃ p : Tst, cs = testR.enc p := by
  match cs, hl with
  | [a0, a1, a2, a3, a4], _ =>
    obtain ⟨xs, n, hfu, _, _, hlen, hf⟩ := DataW.trod_struct Tryz.underlying42 hx
    have g0 := hf 0 _ at0
    have g1 := hf 1 _ at1
    have g2 := hf 2 _ at2
    match xs, hlen with
    | [y0, y1, y2], _ =>
      (try dsimp only at g0 g1 g2)
      simp only [k_str, k_int, k_val, List.drop_zero, List.take_succ_cons, List.take_zero, List.drop_succ_cons, List.getElem?_cons_zero, List.getElem?_cons_succ] at g0 g1 g2
      obtain ⟨m0, b0, _, _⟩ := DataW.trod_string Tryz.underlying9 g0
      obtain ⟨m1, b1, _, _⟩ := DataW.trod_int Tryz.underlying3 g1
      obtain ⟨xs2, n2, _, _, _, hlen2, hf2⟩ := DataW.trod_struct Tryz.underlying40 g2
      have h0 := hf2 0 _ at0
      have h1 := hf2 1 _ at1
      have h2 := hf2 2 _ at2
      match xs2, hlen2 with
      | [z0, z1, z2], _ =>
        (try dsimp only at h0 h1 h2)
        simp only [k_str, k_int, List.drop_zero, List.take_succ_cons, List.take_zero, List.drop_succ_cons, List.getElem?_cons_zero, List.getElem?_cons_succ] at h0 h1 h2
        obtain ⟨m2, b2, _, _⟩ := DataW.trod_int Tryz.underlying3 h0
        obtain ⟨m3, b3, _, _⟩ := DataW.trod_int Tryz.underlying3 h1
        obtain ⟨m4, b4, _, _⟩ := DataW.trod_string Tryz.underlying9 h2
        simp only [List.cons.injEq, and_true] at b0 b1 b2 b3 b4
        subst b0 b1 b2 b3 b4
        exact ⟨⟨m0, m1, m2, m3, m4⟩, rfl⟩
set_option maxRecDepth 100000 in
theorem open_plF (fuel : Nat) (cs : List Value) (x : DataW H × List MemPlace) (hl : cs.length = 3) (hx : DataW.trod enc Tryz.prog w 0 sp held fuel 38 cs = some x) :
    ∃ p : PlV, cs = placeR.enc p ∧ ∃ ts : List Tst, ts.length ≤ maxLen ∧ HoldsR testR w (.slice p.a p.n p.c) ts := by
  match cs, hl with
  | [a0, a1, a2], _ =>
    obtain ⟨xs, n, hfu, _, _, hlen, hf⟩ := DataW.trod_struct Tryz.underlying38 hx
    have g0 := hf 0 _ at0
    have g1 := hf 1 _ at1
    have g2 := hf 2 _ at2
    match xs, hlen with
    | [y0, y1, y2], _ =>
      (try dsimp only at g0 g1 g2)
      simp only [k_str, k_ts, List.drop_zero, List.take_succ_cons, List.take_zero, List.drop_succ_cons, List.getElem?_cons_zero, List.getElem?_cons_succ] at g0 g1 g2
      obtain ⟨m0, b0, _, _⟩ := DataW.trod_string Tryz.underlying9 g0
      obtain ⟨m1, b1, _, _⟩ := DataW.trod_string Tryz.underlying9 g1
      simp only [List.cons.injEq, and_true] at b0 b1
      subst b0 b1
      obtain ⟨ts, a, c, rfl, hm, hh, _⟩ := open_recsF (R := testR) (ok := fun _ => True) Tryz.underlying32 (by kernel_rfl) (fun n' cs' x' _ hl' hx' => by
        obtain ⟨p, hp⟩ := open_tstF n' cs' x' hl' hx'
        exact ⟨p, hp, trivial⟩) g2
      exact ⟨⟨m0, m1, a, ts.length, c⟩, rfl, ts, hm, hh⟩
set_option maxRecDepth 100000 in
theorem open_ptF (fuel : Nat) (cs : List Value) (x : DataW H × List MemPlace) (hl : cs.length = 9) (hx : DataW.trod enc Tryz.prog w 0 sp held fuel 49 cs = some x) :
    ∃ p : PthV, cs = pathR.enc p ∧ ∃ D r, HeldX (fun _ => True) w D p.x r := by
  match cs, hl with
  | [a0, a1, a2, a3, a4, a5, a6, a7, a8], _ =>
    obtain ⟨xs, n, hfu, _, _, hlen, hf⟩ := DataW.trod_struct Tryz.underlying49 hx
    have g0 := hf 0 _ at0
    have g1 := hf 1 _ at1
    have g2 := hf 2 _ at2
    have g3 := hf 3 _ at3
    have g4 := hf 4 _ at4
    have g5 := hf 5 _ at5
    match xs, hlen with
    | [y0, y1, y2, y3, y4, y5], _ =>
      (try dsimp only at g0 g1 g2 g3 g4 g5)
      simp only [k_str, k_int, k_bool, k_rx, List.drop_zero, List.take_succ_cons, List.take_zero, List.drop_succ_cons, List.getElem?_cons_zero, List.getElem?_cons_succ] at g0 g1 g2 g3 g4 g5
      obtain ⟨m0, b0, _, _⟩ := DataW.trod_string Tryz.underlying9 g0
      obtain ⟨m1, b1, _, _⟩ := DataW.trod_string Tryz.underlying9 g1
      obtain ⟨v, hv, D, r, hD⟩ := open_rxF Tryz.underlying47 Tryz.underlying3 Tryz.underlying44 Tryz.underlying45 Tryz.underlying9 Tryz.underlying4 (by kernel_rfl) rfl rfl rfl (by kernel_rfl) (by kernel_rfl) (by kernel_rfl) rfl rfl (by kernel_rfl) (by kernel_rfl) _ _ _ rfl g2
      obtain ⟨m3, b3, _, _⟩ := DataW.trod_string Tryz.underlying9 g3
      obtain ⟨m4, b4, _, _⟩ := DataW.trod_int Tryz.underlying3 g4
      obtain ⟨m5, b5, _⟩ := DataW.trod_bool Tryz.underlying4 g5
      simp only [rxR, List.cons.injEq, and_true] at b0 b1 hv b3 b4 b5
      obtain ⟨rfl, rfl, rfl, rfl⟩ := hv
      subst b0 b1 b3 b4 b5
      exact ⟨⟨m0, m1, v, m3, m4, m5⟩, rfl, D, r, hD⟩
set_option maxRecDepth 100000 in
theorem open_query {v : Value} {d : DataW H} {qs : List MemPlace} {r : Reach} {b0 : Nat} (hval : Value.okWide Tryz.prog w r b0 26 v) (h : DataW.Trod enc Tryz.prog w 0 sp held 26 v d qs) :
    ∃ (na : Option Addr) (N0 nc : Nat) (ea : Option Addr) (M0 ec : Nat) (ra : Option Addr) (R0 rc : Nat) (qc : Bool) (sk li : Int) (ct : Bool) (ps : List Pl) (es : List Pth) (rs : List ByteArray),
      v = .agg #[.slice na N0 nc, .slice ea M0 ec, .slice ra R0 rc, .bool qc, .int .i64 sk, .int .i64 li, .bool ct] ∧ HoldsP w (.slice na N0 nc) ps ∧ HoldsE w (.slice ea M0 ec) es ∧ Holds w (.slice ra R0 rc) (tx rs) ∧
      ps.length ≤ maxLen ∧ es.length ≤ maxLen ∧ rs.length ≤ maxLen ∧ ∀ x ∈ ps, x.ts.length ≤ maxLen := by
  obtain ⟨l, hl, rfl, _⟩ := GoX.arg_agg (by kernel_rfl) (show Tryz.prog.cellsOf 26 = 7 by kernel_rfl) hval
  obtain ⟨fuel, hf⟩ := h
  match l, hl with
  | [a0, a1, a2, a3, a4, a5, a6], hl =>
    obtain ⟨xs, n, hfu, _, _, hlen, hf⟩ := DataW.trod_struct Tryz.underlying26 (show DataW.trod enc Tryz.prog w 0 sp held fuel 26 [a0, a1, a2, a3, a4, a5, a6] = some _ from hf)
    have g0 := hf 0 _ at0
    have g1 := hf 1 _ at1
    have g2 := hf 2 _ at2
    have g3 := hf 3 _ at3
    have g4 := hf 4 _ at4
    have g5 := hf 5 _ at5
    have g6 := hf 6 _ at6
    match xs, hlen with
    | [y0, y1, y2, y3, y4, y5, y6], _ =>
      (try dsimp only at g0 g1 g2 g3 g4 g5 g6)
      simp only [k_ps, k_es, k_rs, k_int, k_bool, List.drop_zero, List.take_succ_cons, List.take_zero, List.drop_succ_cons, List.getElem?_cons_zero, List.getElem?_cons_succ] at g0 g1 g2 g3 g4 g5 g6
      obtain ⟨vs, na, nc, rfl, hpm, hph, hpw⟩ := open_recsF (R := placeR) (ok := fun p => ∃ ts : List Tst, ts.length ≤ maxLen ∧ HoldsR testR w (.slice p.a p.n p.c) ts) Tryz.underlying22 (by kernel_rfl) (fun n' cs' x' _ hl' hx' => open_plF n' cs' x' hl' hx') g0
      obtain ⟨us, ea, ec, rfl, hem, heh, hew⟩ := open_recsF (R := pathR) (ok := fun p => ∃ D r, HeldX (fun _ => True) w D p.x r) Tryz.underlying23 (by kernel_rfl) (fun n' cs' x' _ hl' hx' => open_ptF n' cs' x' hl' hx') g1
      obtain ⟨rs, ra, rc, rfl, hrm, hrh, _⟩ := open_recsF (R := txR) (ok := fun _ => True) Tryz.underlying24 (by kernel_rfl) (fun n' cs' x' _ hl' hx' => by
        match cs', hl' with
        | [u], _ =>
          obtain ⟨m, b, _, _⟩ := DataW.trod_string Tryz.underlying9 hx'
          simp only [List.cons.injEq, and_true] at b
          subst b
          exact ⟨m, rfl, trivial⟩) g2
      obtain ⟨m3, b3, _⟩ := DataW.trod_bool Tryz.underlying4 g3
      obtain ⟨m4, b4, _, _⟩ := DataW.trod_int Tryz.underlying3 g4
      obtain ⟨m5, b5, _, _⟩ := DataW.trod_int Tryz.underlying3 g5
      obtain ⟨m6, b6, _⟩ := DataW.trod_bool Tryz.underlying4 g6
      simp only [List.cons.injEq, and_true] at b3 b4 b5 b6
      subst b3 b4 b5 b6
      have hch : ∀ i : Nat, ∃ ts : List Tst, ts.length ≤ maxLen ∧ (i < vs.length → HoldsR testR w (.slice (vs.getD i PlV.none).a (vs.getD i PlV.none).n (vs.getD i PlV.none).c) ts) := fun i => by
        by_cases hi : i < vs.length
        · have e : vs.getD i PlV.none = vs[i] := by simp [List.getD, hi]
          obtain ⟨ts, h1, h2⟩ := hpw _ (List.getElem_mem hi)
          exact ⟨ts, h1, fun _ => by rw [e]; exact h2⟩
        · exact ⟨[], by unfold maxLen; simp, fun h => absurd h hi⟩
      obtain ⟨f, hf⟩ := Classical.skolem.1 hch
      have hce : ∀ i : Nat, ∃ q : Nat × Rx, i < us.length → HeldX (fun _ => True) w q.1 (us.getD i PthV.none).x q.2 := fun i => by
        by_cases hi : i < us.length
        · have e : us.getD i PthV.none = us[i] := by simp [List.getD, hi]
          obtain ⟨D, r, h⟩ := hew _ (List.getElem_mem hi)
          exact ⟨(D, r), fun _ => by rw [e]; exact h⟩
        · exact ⟨(0, Rx.none), fun h => absurd h hi⟩
      obtain ⟨q, hq⟩ := Classical.skolem.1 hce
      have hpl : ∀ i, i < vs.length → ((List.range vs.length).map fun i => Pl.mk (vs.getD i PlV.none).v (vs.getD i PlV.none).l (f i)).getD i Pl.none = Pl.mk (vs.getD i PlV.none).v (vs.getD i PlV.none).l (f i) := fun i hi => by simp [List.getD, hi]
      have hel : ∀ i, i < us.length → ((List.range us.length).map fun i => Pth.mk (us.getD i PthV.none).f (us.getD i PthV.none).t (q i).2 (us.getD i PthV.none).v (us.getD i PthV.none).h (us.getD i PthV.none).sh).getD i Pth.none = Pth.mk (us.getD i PthV.none).f (us.getD i PthV.none).t (q i).2 (us.getD i PthV.none).v (us.getD i PthV.none).h (us.getD i PthV.none).sh := fun i hi => by simp [List.getD, hi]
      refine ⟨na, vs.length, nc, ea, us.length, ec, ra, rs.length, rc, m3, m4, m5, m6, (List.range vs.length).map fun i => Pl.mk (vs.getD i PlV.none).v (vs.getD i PlV.none).l (f i), (List.range us.length).map fun i => Pth.mk (us.getD i PthV.none).f (us.getD i PthV.none).t (q i).2 (us.getD i PthV.none).v (us.getD i PthV.none).h (us.getD i PthV.none).sh, rs, rfl, ⟨vs, hph, by simp, fun i hi => ?_⟩, ⟨us, heh, by simp, fun i hi => ?_⟩, ?_, by simpa using hpm, by simpa using hem, hrm, fun x hx => ?_⟩
      · have hi' : i < vs.length := by simpa using hi
        rw [hpl i hi']
        exact ⟨rfl, rfl, (hf i).2 hi'⟩
      · have hi' : i < us.length := by simpa using hi
        rw [hel i hi']
        exact ⟨⟨rfl, rfl, rfl, rfl, rfl⟩, (q i).1, hq i hi'⟩
      · obtain ⟨a', c', e, hr⟩ := hrh
        simp only [Value.slice.injEq] at e
        obtain ⟨rfl, _, rfl⟩ := e
        exact ⟨_, _, by rw [tx_len], by rw [← txR_flat]; exact hr⟩
      · obtain ⟨i, _, rfl⟩ := List.mem_map.1 hx
        exact (hf i).1
end Go.Proofs.YtpjcjlbjcegjgaaGreatDoor
