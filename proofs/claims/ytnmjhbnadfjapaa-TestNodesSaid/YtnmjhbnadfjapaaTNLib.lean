/-
  THE VARIABLES OF A QUERY, each once: the reference's, by contract.
-/
import Derived.Test.YtnmjhbnadfjapaaQTests
import Derived.Maps.Own
import Derived.Maps.OwnOps
import Derived.Maps.OwnSet
import Derived.StringKeys
import Derived.Test.YtnmjhbnadfjapaaColNew
import Derived.Lib.SmallJoins
import Derived.Test.YtnmjhbnadfjapaaTEach5
import Derived.Deep.RegionHeld3
import Derived.Test.YtnmjhbnadfjapaaGRCheck
import Derived.Test.YtnmjhbnadfjapaaGOwnC
import Derived.Test.YtnmjhbnadfjapaaGFew
import Derived.Test.YtnmjhbnadfjapaaCommon
import Derived.Test.YtnmjhbnadfjapaaQFew
namespace Go.Proofs.Ytnmjhbnadfjapaa
open Go.ChangeShapes Go.WideShapes Go.ChangeAt Go.RowKit

set_option maxRecDepth 100000 in
set_option maxHeartbeats 1600000 in
theorem rplaceT_c (L : List ByteArray) (s : ByteArray) (a : Option Addr) (c : Nat) (w : World) (h : RowAt w a (tx L)) (hl : L.length ≤ 90000) :
    Calls Try.prog 62 #[.slice a L.length c, .string s] w fun e w' => ∃ r : Int, e = .returned (.int .i64 r) ∧ (r < 0 ↔ s ∉ L) ∧ w' = w := by
  obtain ⟨N, hN⟩ : ∃ N, N = L.length := ⟨_, rfl⟩
  rw [← hN] at hl ⊢
  replace hN := hidden hN
  replace h := hidden h
  go_enter Try.func62, Try.ntmps62
  go_wp2
  go_loop [5] (fun i => ∃ k : Nat, i = .int .i64 k ∧ k ≤ N ∧ Hid (∀ j, j < k → ∀ x, L[j]? = some x → x ≠ s)) (fun i => N - (intOf i).toNat)
  case atStart => exact ⟨0, rfl, Nat.zero_le _, fun j hj => absurd hj (Nat.not_lt_zero _)⟩
  case round =>
    obtain ⟨k, rfl, hk, hno⟩ := hrel
    by_cases hlt : k < N
    · have hj1 : (k : Int) < (N : Int) := by omega
      have hkp : k < L.length := by rw [← hN.out]; exact hlt
      obtain ⟨b, off, rfl, hb, f0⟩ := txt_at h.out hkp
      have hget : Hid (L[k]? = some (L.getD k ⟨#[]⟩)) := hidden (by simp [List.getD, hkp])
      generalize L.getD k ⟨#[]⟩ = p at *
      by_cases hs : p = s
      · subst hs
        have hin : Hid (p ∈ L) := hidden (List.mem_of_getElem? hget.out)
        go_wp2
        go_ret
        exact ⟨_, rfl, ⟨fun h => by omega, fun h => absurd hin.out h⟩, rfl⟩
      · have he2 : ¬ p.toList = s.toList := fun h => hs (txt_inj h)
        have he1 : (p.toList == s.toList) = false := by simpa using he2
        have hno2 : Hid (∀ j, j < k + 1 → ∀ x, L[j]? = some x → x ≠ s) := by
          intro j hj x hx
          by_cases hjk : j < k
          · exact hno.out j hjk x hx
          · obtain rfl : j = k := by omega
            rw [hget.out] at hx
            cases hx
            exact hs
        clear hno hs hget
        go_wp2
        go_round
        case rel => exact ⟨k + 1, by go_num, by omega, hno2⟩
        case measure => simp [intOf]; omega
    · have hj1 : ¬ (k : Int) < (N : Int) := by omega
      have hout : Hid (s ∉ L) := by
        intro hm
        obtain ⟨j, hj, he⟩ := List.getElem_of_mem hm
        exact hno.out j (by have := hN.out; omega) s (by rw [List.getElem?_eq_getElem hj, he]) rfl
      go_wp2
      go_ret
      exact ⟨_, rfl, ⟨fun _ => hout.out, fun _ => by omega⟩, rfl⟩
open Classical in
noncomputable def addV (L : List ByteArray) (s : ByteArray) : List ByteArray := if s ∈ L then L else L ++ [s]
noncomputable def varsQ (ps : List Pl) : List ByteArray := (ps.map Pl.v).foldl addV []
theorem varsQ_snoc (ps : List Pl) (k : Nat) (hk : k < ps.length) : varsQ (ps.take (k + 1)) = addV (varsQ (ps.take k)) (ps.getD k Pl.none).v := by
  unfold varsQ
  rw [take_snocR ps Pl.none k hk, List.map_append, List.foldl_append]
  rfl
theorem addV_le (l : List ByteArray) : ∀ acc, (l.foldl addV acc).length ≤ acc.length + l.length := by
  induction l with
  | nil => intro acc; simp
  | cons s l ih =>
    intro acc
    have h := ih (addV acc s)
    have h2 : (addV acc s).length ≤ acc.length + 1 := by
      unfold addV
      split <;> simp
    simp only [List.foldl_cons, List.length_cons]
    omega
theorem varsQ_le (ps : List Pl) : (varsQ ps).length ≤ ps.length := by
  have h := addV_le (ps.map Pl.v) []
  simpa [varsQ] using h
end Go.Proofs.Ytnmjhbnadfjapaa
/-
  THE VARIABLES OF A QUERY, each once: the reference's walk.
-/
namespace Go.Proofs.Ytnmjhbnadfjapaa
open Go.ChangeShapes Go.WideShapes Go.ChangeAt Go.RowKit

theorem owns_tx {w : World} {B t n m c : Nat} {a : Option Addr} {L : List ByteArray} (h : w.ownsRow B t 1 (.slice a n c) m (tx L)) : RowAt w a (tx L) := by
  obtain ⟨a', c', he, hr⟩ := holds_of_owns h
  simp only [Value.slice.injEq] at he
  obtain ⟨rfl, _, _⟩ := he
  exact hr
set_option maxRecDepth 100000 in
set_option maxHeartbeats 3200000 in
theorem rvarsQ_c (ps : List Pl) (na : Option Addr) (N0 nc : Nat) (ea : Option Addr) (M0 ec : Nat) (ra : Option Addr) (R0 rc : Nat) (qc : Bool) (sk li : Int) (ct : Bool) (w : World) (hE : HoldsP w (.slice na N0 nc) ps) (hl : ps.length ≤ 90000) :
    Calls Try.prog 37 #[.agg #[.slice na N0 nc, .slice ea M0 ec, .slice ra R0 rc, .bool qc, .int .i64 sk, .int .i64 li, .bool ct]] w fun e w' => ∃ a c, e = .returned (.slice a (varsQ ps).length c) ∧ w'.ownsRow (w.heap.size + 1) 9 1 (.slice a (varsQ ps).length c) (varsQ ps).length (tx (varsQ ps)) ∧ Below w.heap.size w w' := by
  obtain ⟨_, _, hv⟩ := hE.slice
  simp only [Value.slice.injEq] at hv
  obtain ⟨-, hM, -⟩ := hv
  rw [← hM] at hl
  replace hM := hidden hM
  replace hE := hidden hE
  obtain ⟨ix, hix, hx0, hx1, hx2⟩ := info_parts infoTxt
  have hT0 := hidden (TR.made0 w #[.slice na N0 nc, .slice ea M0 ec, .slice ra R0 rc, .bool qc, .int .i64 sk, .int .i64 li, .bool ct])
  go_enter Try.func37, Try.ntmps37
  go_wp2
  go_loopw [3, 4] (fun u i x => ∃ (k : Nat) (L : List ByteArray), i = .int .i64 k ∧ k ≤ N0 ∧ Hid (L = varsQ (ps.take k)) ∧ Hid (TR w x #[.slice na N0 nc, .slice ea M0 ec, .slice ra R0 rc, .bool qc, .int .i64 sk, .int .i64 li, .bool ct] u L)) (fun _ i _ => N0 - (intOf i).toNat)
  case atStart => exact ⟨0, [], rfl, Nat.zero_le _, rfl, hT0⟩
  case round =>
    clear hT0
    obtain ⟨k, L, rfl, hk, hL, hT⟩ := hrel
    obtain ⟨⟨g0, g1, g2, g3, g4, g5, g6⟩, -⟩ := box7q hT.out.box
    obtain ⟨ua, uc, rfl⟩ := own_shape hT.out.row
    by_cases hlt : k < N0
    · have hj1 : (k : Int) < (N0 : Int) := by omega
      have hkp : k < ps.length := by rw [← hM.out]; exact hlt
      obtain ⟨b, off, pta, ptc, rfl, hb, c0, -, -, -⟩ := placeQ_at hE.out hkp
      have f0 := (hT.out.below.cell (p := ⟨b, off + k * 3, none⟩) hb).trans c0
      have hsn := hidden (varsQ_snoc ps k hkp)
      have hlen : Hid (L.length ≤ k) := by
        show _ ≤ _
        rw [hL.out]
        exact Nat.le_trans (varsQ_le _) (by simp; omega)
      clear c0
      generalize (ps.getD k Pl.none).v = s at *
      have hbs : Hid (w.heap.size + 1 ≤ wr.heap.size) := by show _ ≤ _; have := (Array.getElem?_eq_some_iff.1 hT.out.box).1; omega
      have hpl := rplaceT_c L s ua uc wr (owns_tx hT.out.row) (by have := hlen.out; omega)
      rw [← hL.out] at hsn
      unfold addV at hsn
      go_wp2_with fail
      refine hpl.mono ?_
      rintro e w' ⟨r, rfl, hr, rfl⟩
      by_cases hs : s ∈ L
      · have hr1 : ¬ r < 0 := fun h => hr.1 h hs
        have hL2 : Hid (L = varsQ (ps.take (k + 1))) := by
          show _ = _
          rw [hsn.out, if_pos hs]
        clear hL hsn hr hs hpl
        go_wp2
        go_roundw
        case rel => exact ⟨k + 1, L, by go_num, by omega, hL2, hT⟩
        case measure => simp [intOf]; omega
      · have hr1 : r < 0 := hr.2 hs
        have hL2 : Hid (L ++ [s] = varsQ (ps.take (k + 1))) := by
          show _ = _
          rw [hsn.out, if_neg hs]
        clear hL hsn hr hs hpl
        go_wp2_with (at_builtin; go_loud (refine wpList_append_own _ rfl _ _ 72 rfl (w.heap.size + 1) 9 ix (.string ⟨#[]⟩) 1 16 Try.underlying72 hix hx0 hx1 hx2 rfl (by decide) (.slice ua L.length uc) _ _ rfl (hT.out.row.alloc _) ⟨_, 0, none⟩ 1 1 [.string s] rfl rfl (cells_new _ [_] _) (by simp [Value.oneCell']) (by have := hlen.out; unfold maxLen; omega) (by have := hlen.out; omega) (by have := hbs.out; simp; omega) ?_); intro v' w6 hown6 hgrow6 _)
        have hT2 := hidden ((hT.out.step ((Below.refl _ _).alloc (Nat.le_refl _) (.cells #[.string s] 9))).next hown6 hgrow6)
        clear hT hown6 hgrow6 hbs hlen g0 g1 g2 g3 g4 g5 g6 f0
        go_wp2
        go_roundw
        case rel => exact ⟨k + 1, _, by go_num, by omega, hL2, hT2⟩
        case measure => simp [intOf]; omega
    · have hj1 : ¬ (k : Int) < (N0 : Int) := by omega
      have hL2 : Hid (L = varsQ ps) := by
        show _ = _
        rw [hL.out, List.take_of_length_le (by rw [← hM.out]; omega)]
      go_wp2
      go_ret
      obtain rfl := hL2.out
      exact ⟨ua, uc, rfl, hT.out.row, hT.out.below⟩
end Go.Proofs.Ytnmjhbnadfjapaa
/-
  THE VARIABLES OF A QUERY, each once: the program's, by contract (a map tells what was found).
-/
namespace Go.Proofs.Ytnmjhbnadfjapaa
open Go.ChangeShapes Go.WideShapes Go.ChangeAt Go.RowKit Go.Maps

theorem lawK : Keyed Try.prog 9 := string_keyed Try.underlying9
theorem zeroInt (w : World) : (zeroValue 3).run Try.prog w = .ok (.int .i64 0) w := by kernel_rfl
theorem key_txt {s : ByteArray} (h : s.size ≤ maxLen) : keyOf Try.prog 9 (.string s) = some (.string s.data.toList) := Go.WideMaps.keyOf_string_mk Try.underlying9 h
theorem lit_ne {x s : ByteArray} (he : x ≠ s) : (Lit.string x.data.toList) ≠ (Lit.string s.data.toList) := fun e => he (by
  have e1 : x.data.toList = s.data.toList := by simpa using e
  obtain ⟨⟨x⟩⟩ := x
  obtain ⟨⟨s⟩⟩ := s
  simp only at e1
  rw [e1])
/-- A map that tells how often each was found. -/
structure MapV (w : World) (b n : Nat) (L : List ByteArray) (D : DataW Unit) : Prop where
  own : w.ownsMap Try.prog 9 (plainElem Try.prog 3) b n D
  val : ∀ s : ByteArray, ∃ c : Int, D.atKey (.string s.data.toList) (.lit (.int .i64 0)) = .lit (.int .i64 c) ∧ 0 ≤ c ∧ c ≤ n ∧ (c = 0 ↔ s ∉ L)
theorem mapV_made (w : World) : MapV (w.alloc (.map #[] 0)) w.heap.size 0 [] (.map []) := ⟨World.ownsMap_made _ _ _ _, fun s => ⟨0, rfl, Int.le_refl _, Int.le_refl _, by simp⟩⟩
theorem MapV.keep {w w' : World} {b n : Nat} {L : List ByteArray} {D : DataW Unit} (h : MapV w b n L D) (hb : ∀ k, k < w.heap.size → k = b → w'.heap[k]? = w.heap[k]?) : MapV w' b n L D := by
  obtain ⟨es, clock, hh, h2⟩ := h.own
  exact ⟨⟨es, clock, (hb b (Array.getElem?_eq_some_iff.1 hh).1 rfl).trans hh, h2⟩, h.val⟩
theorem MapV.put {w w' : World} {b n : Nat} {L : List ByteArray} {D : DataW Unit} (h : MapV w b n L D) {s : ByteArray} {c : Int} (hc : D.atKey (.string s.data.toList) (.lit (.int .i64 0)) = .lit (.int .i64 c)) (hc0 : 0 ≤ c) (hcn : c ≤ n)
    (hown : w'.ownsMap Try.prog 9 (plainElem Try.prog 3) b (n + 1) (D.put (.string s.data.toList) (.lit (.int .i64 (c + 1))))) : MapV w' b (n + 1) (addV L s) (D.put (.string s.data.toList) (.lit (.int .i64 (c + 1)))) := by
  have ht := h.own.tidy lawK
  have hm : ∀ x, x ∈ addV L s ↔ x ∈ L ∨ x = s := fun x => by
    unfold addV
    split
    · rename_i hs
      exact ⟨.inl, fun h => by rcases h with h | rfl; exact h; exact hs⟩
    · simp
  refine ⟨hown, fun x => ?_⟩
  by_cases he : x = s
  · subst he
    exact ⟨c + 1, by rw [atKey_put_same ht.isMap (by simp [WideAt.IsKeyLit])], by omega, by push_cast; omega, ⟨fun h => by omega, fun h => absurd ((hm x).2 (.inr rfl)) h⟩⟩
  · obtain ⟨d, h1, h2, h3, h4⟩ := h.val x
    refine ⟨d, by rw [atKey_put_other (lit_ne he)]; exact h1, h2, by push_cast; omega, h4.trans ⟨fun h hx => ?_, fun h hx => h ((hm x).2 (.inl hx))⟩⟩
    rcases (hm x).1 hx with h5 | h5
    · exact h h5
    · exact he h5
/-- The variables that are told, and the map. -/
structure TV (w x : World) (inp : Array Value) (v : Value) (L : List ByteArray) (n : Nat) (D : DataW Unit) : Prop where
  below : Below w.heap.size w x
  box : x.heap[w.heap.size]? = some (.cells inp 74)
  row : x.ownsRow (w.heap.size + 2) 9 1 v L.length (tx L)
  map : MapV x (w.heap.size + 1) n L D
theorem TV.step {w x z : World} {inp : Array Value} {v : Value} {L : List ByteArray} {n : Nat} {D : DataW Unit} (h : TV w x inp v L n D) (hB : Below x.heap.size x z) : TV w z inp v L n D :=
  ⟨h.below.trans (hB.mono h.below.size), box_below h.box hB, owns_keep h.row hB, h.map.keep fun k hk _ => hB.block k hk⟩
/-- What of it does not hang on the list: between an append and the map's turn. -/
structure TW (w x : World) (inp : Array Value) (v : Value) (L L' : List ByteArray) (n : Nat) (D : DataW Unit) : Prop where
  below : Below w.heap.size w x
  box : x.heap[w.heap.size]? = some (.cells inp 74)
  row : x.ownsRow (w.heap.size + 2) 9 1 v L'.length (tx L')
  map : MapV x (w.heap.size + 1) n L D
theorem TV.same {w x : World} {inp : Array Value} {v : Value} {L : List ByteArray} {n : Nat} {D : DataW Unit} (h : TV w x inp v L n D) : TW w x inp v L L n D := ⟨h.below, h.box, h.row, h.map⟩
theorem TV.next {w x z : World} {inp : Array Value} {v v' : Value} {L : List ByteArray} {n : Nat} {D : DataW Unit} {s : ByteArray} (h : TV w x inp v L n D) (hown : z.ownsRow (w.heap.size + 2) 9 1 v' (L.length + 1) (tx L ++ [.string s])) (hg : x.grownBy z v.ownBlock) : TW w z inp v' L (L ++ [s]) n D := by
  refine ⟨h.below.grown hg h.below.size (fun j hj => by have := (h.row.lt j hj).1; omega), box_grown h.box h.row (by decide) hg, ?_, h.map.keep fun k hk hk2 => hg.block k hk (fun e => ?_)⟩
  · rw [tx_app, List.length_append]
    exact hown
  · have := (h.row.lt k e.symm).1; omega
theorem TW.put {w x z : World} {inp : Array Value} {v : Value} {L L' : List ByteArray} {n : Nat} {D : DataW Unit} (h : TW w x inp v L L' n D) {s : ByteArray} {c : Int} (hc : D.atKey (.string s.data.toList) (.lit (.int .i64 0)) = .lit (.int .i64 c)) (hc0 : 0 ≤ c) (hcn : c ≤ n)
    (hown : z.ownsMap Try.prog 9 (plainElem Try.prog 3) (w.heap.size + 1) (n + 1) (D.put (.string s.data.toList) (.lit (.int .i64 (c + 1))))) (hg : x.grownBy z (some (w.heap.size + 1))) (hL : L' = addV L s) :
    TV w z inp v L' (n + 1) (D.put (.string s.data.toList) (.lit (.int .i64 (c + 1)))) := by
  have hb := (Array.getElem?_eq_some_iff.1 h.box).1
  refine ⟨h.below.grown hg h.below.size (fun j hj => by cases hj; omega), (hg.block _ hb (fun e => by have := Option.some.inj e; omega)).trans h.box, ?_, by rw [hL]; exact h.map.put hc hc0 hcn hown⟩
  obtain ⟨h1, h2⟩ := h.row
  refine ⟨h1, ?_⟩
  rcases h2 with h2 | ⟨g, cap, cur, e1, e2, e3, e4⟩
  · exact .inl h2
  · exact .inr ⟨g, cap, cur, e1, e2, (hg.block g (Array.getElem?_eq_some_iff.1 e3).1 (fun e => by cases e; omega)).trans e3, e4⟩
theorem tv_made (w : World) (inp : Array Value) : TV w ((w.alloc (.cells inp 74)).alloc (.map #[] 0)) inp (.slice none 0 0) [] 0 (.map []) := by
  refine ⟨((Below.refl _ _).alloc (Nat.le_refl _) _).alloc (by simp) _, (heap_alloc_old _ _ (by simp)).trans (heap_alloc_new _ _), World.ownsRow_nil .., ?_⟩
  have h := mapV_made (w.alloc (.cells inp 74))
  rwa [show (w.alloc (.cells inp 74)).heap.size = w.heap.size + 1 by simp] at h
set_option maxRecDepth 100000 in
set_option maxHeartbeats 3200000 in
theorem qvarsQ_c (ps : List Pl) (na : Option Addr) (N0 nc : Nat) (ea : Option Addr) (M0 ec : Nat) (ra : Option Addr) (R0 rc : Nat) (qc : Bool) (sk li : Int) (ct : Bool) (w : World) (hE : HoldsP w (.slice na N0 nc) ps) (hl : ps.length ≤ 90000) (hsz : ∀ p ∈ ps, p.v.size ≤ 1000) :
    Calls Try.prog 63 #[.agg #[.slice na N0 nc, .slice ea M0 ec, .slice ra R0 rc, .bool qc, .int .i64 sk, .int .i64 li, .bool ct]] w fun e w' => ∃ a c, e = .returned (.slice a (varsQ ps).length c) ∧ w'.ownsRow (w.heap.size + 2) 9 1 (.slice a (varsQ ps).length c) (varsQ ps).length (tx (varsQ ps)) ∧ Below w.heap.size w w' := by
  have hmm := @run_makeMap Try.prog
  obtain ⟨_, _, hv⟩ := hE.slice
  simp only [Value.slice.injEq] at hv
  obtain ⟨-, hM, -⟩ := hv
  rw [← hM] at hl
  replace hM := hidden hM
  replace hE := hidden hE
  replace hsz := hidden hsz
  obtain ⟨ix, hix, hx0, hx1, hx2⟩ := info_parts infoTxt
  have hT0 := hidden (tv_made w #[.slice na N0 nc, .slice ea M0 ec, .slice ra R0 rc, .bool qc, .int .i64 sk, .int .i64 li, .bool ct])
  obtain ⟨⟨q0, q1, q2, q3, q4, q5, q6⟩, -⟩ := box7q hT0.out.box
  go_enter Try.func63, Try.ntmps63
  go_wp2
  clear q0 q1 q2 q3 q4 q5 q6 hmm
  go_loopw [3, 11] (fun u i x => ∃ (k : Nat) (L : List ByteArray) (D : DataW Unit), i = .int .i64 k ∧ k ≤ N0 ∧ Hid (L = varsQ (ps.take k)) ∧ Hid (TV w x #[.slice na N0 nc, .slice ea M0 ec, .slice ra R0 rc, .bool qc, .int .i64 sk, .int .i64 li, .bool ct] u L k D)) (fun _ i _ => N0 - (intOf i).toNat)
  case atStart => exact ⟨0, [], _, rfl, Nat.zero_le _, rfl, hT0⟩
  case round =>
    clear hT0
    obtain ⟨k, L, D, rfl, hk, hL, hT⟩ := hrel
    obtain ⟨⟨g0, g1, g2, g3, g4, g5, g6⟩, -⟩ := box7q hT.out.box
    by_cases hlt : k < N0
    · have hj1 : (k : Int) < (N0 : Int) := by omega
      have hkp : k < ps.length := by rw [← hM.out]; exact hlt
      obtain ⟨b, off, pta, ptc, rfl, hb, c0, c1, c2, -⟩ := placeQ_at hE.out hkp
      have f0 := (hT.out.below.cell (p := ⟨b, off + k * 3, none⟩) hb).trans c0
      have f1 := (hT.out.below.cell (p := ⟨b, off + k * 3 + 1, none⟩) hb).trans c1
      have f2 := (hT.out.below.cell (p := ⟨b, off + k * 3 + 2, none⟩) hb).trans c2
      have hsn := hidden (varsQ_snoc ps k hkp)
      have hvs : (ps.getD k Pl.none).v.size ≤ 1000 := hsz.out _ (by
        rw [show ps.getD k Pl.none = ps[k] by simp [List.getD, hkp]]
        exact List.getElem_mem _)
      have hlen : Hid (L.length ≤ k) := by
        show _ ≤ _
        rw [hL.out]
        exact Nat.le_trans (varsQ_le _) (by simp; omega)
      clear c0 c1 c2
      generalize ps.getD k Pl.none = pd at *
      obtain ⟨pv, s, pts⟩ := pd
      simp only at f0 f1 f2 hsn hvs
      generalize pts.length = pn at *
      have hsm : pv.size ≤ maxLen := by unfold maxLen; omega
      have hkey := hidden (key_txt (s := pv) hsm)
      have hkm : k < maxLen := by unfold maxLen; omega
      have hT1 := hidden (hT.out.step ((Below.refl _ _).alloc (Nat.le_refl _) (.cells #[.string pv, .string s, .slice pta pn ptc] 105)))
      have hP1 := hidden (heap_alloc_new wr (.cells #[.string pv, .string s, .slice pta pn ptc] 105))
      have hbs : Hid (w.heap.size + 2 ≤ (wr.alloc (.cells #[.string pv, .string s, .slice pta pn ptc] 105)).heap.size) := by
        show _ ≤ _
        obtain ⟨es, cl, hh, _⟩ := hT.out.map.own
        have := (Array.getElem?_eq_some_iff.1 hh).1; simp; omega
      have hys : Hid ((wr.alloc (.cells #[.string pv, .string s, .slice pta pn ptc] 105)).heap.size = wr.heap.size + 1) := hidden (by simp)
      generalize hya : wr.alloc (.cells #[.string pv, .string s, .slice pta pn ptc] 105) = y at *
      replace hya := hidden hya
      obtain ⟨⟨p0, p1, p2⟩, -⟩ := box3q hP1.out
      obtain ⟨c, hc, hc0, hck, hcL⟩ := hT1.out.map.val pv
      replace hc := hidden hc
      replace hcL := hidden hcL
      have hw : IntKind.i64.wrap (c + 1) = c + 1 := by rw [IntKind.wrap_i64]; omega
      have hwf := hidden (show (Lit.int .i64 (c + 1)).wf = true by rw [← hw, show IntKind.i64.wrap (c + 1) = wrap64 (c + 1) from Go.IntWalk.i64_left _]; exact wrap64_wf _)
      clear hT
      by_cases hs : pv ∈ L
      · have hc1 : ¬ c = 0 := fun h => hcL.out.1 h hs
        have hL2 : Hid (L = varsQ (ps.take (k + 1))) := by
          show _ = _
          rw [hsn.out, ← hL.out]; unfold addV; rw [if_pos hs]
        have hLa : Hid (L = addV L pv) := by show _ = _; unfold addV; rw [if_pos hs]
        clear hL hsn hs hcL
        go_wp2_with (first
          | (at_lookup; (try rw [hya.out]); go_loud (refine wpList_lookup_own_int _ rfl _ _ 130 rfl 9 3 .i64 lawK Try.underlying130 Try.underlying3 (zeroInt _) (w.heap.size + 1) k D rfl hT1.out.map.own _ _ rfl hkey.out ?_); intro cc hatc hwc; have hcc := hatc.symm.trans hc.out; simp only [DataW.lit.injEq, Lit.int.injEq, true_and] at hcc; subst hcc; clear hatc hwc)
          | (at_mapUpdate; go_loud (refine wpList_mapUpdate_own _ rfl _ _ _ 130 rfl 9 3 lawK Try.underlying130 _ (w.heap.size + 1) k D rfl hT1.out.map.own hkm _ _ _ rfl rfl hkey.out _ [] (plainElem_int Try.underlying3 hwf.out) ?_); intro w6 hown6 hgrow6)
          | fail)
        have hT2 := hidden (hT1.out.same.put hc.out hc0 hck hown6 hgrow6 hLa.out)
        clear hown6 hgrow6
        go_roundw
        case rel => exact ⟨k + 1, L, _, by go_num, by omega, hL2, hT2⟩
        case measure => simp [intOf]; omega
      · obtain rfl : c = 0 := hcL.out.2 hs
        have hL2 : Hid (L ++ [pv] = varsQ (ps.take (k + 1))) := by
          show _ = _
          rw [hsn.out, ← hL.out]; unfold addV; rw [if_neg hs]
        have hLa : Hid (L ++ [pv] = addV L pv) := by show _ = _; unfold addV; rw [if_neg hs]
        clear hL hsn hs hcL
        go_wp2_with (first
          | (at_lookup; refine wpList_lookup_own_int _ rfl _ _ 130 rfl 9 3 .i64 lawK Try.underlying130 Try.underlying3 (zeroInt _) (w.heap.size + 1) k D rfl hTW.out.map.own _ _ rfl hkey.out ?_; intro cc hatc hwc; have hcc := hatc.symm.trans hc.out; simp only [DataW.lit.injEq, Lit.int.injEq, true_and] at hcc; subst hcc; clear hatc hwc)
          | (at_mapUpdate; go_loud (refine wpList_mapUpdate_own _ rfl _ _ _ 130 rfl 9 3 lawK Try.underlying130 _ (w.heap.size + 1) k D rfl hTW.out.map.own hkm _ _ _ rfl rfl hkey.out _ [] (plainElem_int Try.underlying3 hwf.out) ?_); intro w6 hown6 hgrow6)
          | (at_lookup; (try rw [hya.out]); go_loud (refine wpList_lookup_own_int _ rfl _ _ 130 rfl 9 3 .i64 lawK Try.underlying130 Try.underlying3 (zeroInt _) (w.heap.size + 1) k D rfl hT1.out.map.own _ _ rfl hkey.out ?_); intro cc hatc hwc; have hcc := hatc.symm.trans hc.out; simp only [DataW.lit.injEq, Lit.int.injEq, true_and] at hcc; subst hcc; clear hatc hwc)
          | (at_builtin; go_loud (refine wpList_append_own _ rfl _ _ 72 rfl (w.heap.size + 2) 9 ix (.string ⟨#[]⟩) 1 16 Try.underlying72 hix hx0 hx1 hx2 rfl (by decide) u3 _ _ rfl (hT1.out.row.alloc _) ⟨y.heap.size, 0, none⟩ 1 1 [.string pv] rfl rfl (cells_new y [_] _) (by simp [Value.oneCell']) (by have := hlen.out; unfold maxLen; omega) (by have := hlen.out; omega) (by have := hbs.out; simp; omega) ?_); intro v' w5 hown5 hgrow5 _; have hTW := hidden ((hT1.out.step ((Below.refl _ _).alloc (Nat.le_refl _) (.cells #[.string pv] 9))).next hown5 hgrow5); obtain ⟨⟨r0, r1, r2⟩, -⟩ := box3q (box_grown ((heap_alloc_old _ _ (Array.getElem?_eq_some_iff.1 hP1.out).1).trans hP1.out) (hT1.out.row.alloc _) (by decide) hgrow5))
          | fail)
        have hT2 := hidden (hTW.out.put hc.out hc0 hck hown6 hgrow6 hLa.out)
        clear hown6 hgrow6
        go_roundw
        case rel => exact ⟨k + 1, _, _, by go_num, by omega, hL2, hT2⟩
        case measure => simp [intOf]; omega
    · have hj1 : ¬ (k : Int) < (N0 : Int) := by omega
      have hL2 : Hid (L = varsQ ps) := by
        show _ = _
        rw [hL.out, List.take_of_length_le (by rw [← hM.out]; omega)]
      go_wp2
      go_ret
      obtain rfl := hL2.out
      obtain ⟨a, c, rfl⟩ := own_shape hT.out.row
      exact ⟨a, c, rfl, hT.out.row, hT.out.below⟩
end Go.Proofs.Ytnmjhbnadfjapaa
/-
  A QUERY THAT CAME IN.
-/
namespace Go.Proofs.Ytnmjhbnadfjapaa
open Go.ChangeShapes Go.WideShapes Go.ChangeAt Go.RowKit

theorem k_str : Try.prog.cellsOf 9 = 1 := by kernel_rfl
theorem k_int : Try.prog.cellsOf 3 = 1 := by kernel_rfl
theorem k_bool : Try.prog.cellsOf 4 = 1 := by kernel_rfl
theorem k_val : Try.prog.cellsOf 27 = 3 := by kernel_rfl
theorem k_rx : Try.prog.cellsOf 112 = 4 := by kernel_rfl
theorem k_ts : Try.prog.cellsOf 65 = 1 := by kernel_rfl
theorem k_ps : Try.prog.cellsOf 70 = 1 := by kernel_rfl
theorem k_es : Try.prog.cellsOf 71 = 1 := by kernel_rfl
theorem k_rs : Try.prog.cellsOf 72 = 1 := by kernel_rfl
def txR : Rec ByteArray := ⟨fun x => [.string x], 1, by decide, fun _ => rfl, fun x u hu => by simp at hu; subst hu; rfl, ⟨#[]⟩⟩
theorem txR_flat : ∀ L : List ByteArray, txR.flat L = tx L
  | [] => rfl
  | x :: r => by rw [Rec.flat_cons, txR_flat r]; rfl
variable {H : Type} {enc : TypeId × Value → H} {w : World} {sp : Nat → Bool} {held : Bool}
set_option maxRecDepth 100000 in
theorem open_tstF (fuel : Nat) (cs : List Value) (x : DataW H × List MemPlace) (hl : cs.length = 5) (hx : DataW.trod enc Try.prog w 0 sp held fuel 62 cs = some x) : ∃ p : Tst, cs = testR.enc p := by
  match cs, hl with
  | [a0, a1, a2, a3, a4], _ =>
    obtain ⟨xs, n, hfu, _, _, hlen, hf⟩ := DataW.trod_struct Try.underlying62 hx
    have g0 := hf 0 _ at0
    have g1 := hf 1 _ at1
    have g2 := hf 2 _ at2
    match xs, hlen with
    | [y0, y1, y2], _ =>
      (try dsimp only at g0 g1 g2)
      simp only [k_str, k_int, k_val, List.drop_zero, List.take_succ_cons, List.take_zero, List.drop_succ_cons, List.getElem?_cons_zero, List.getElem?_cons_succ] at g0 g1 g2
      obtain ⟨m0, b0, _, _⟩ := DataW.trod_string Try.underlying9 g0
      obtain ⟨m1, b1, _, _⟩ := DataW.trod_int Try.underlying3 g1
      obtain ⟨xs2, n2, _, _, _, hlen2, hf2⟩ := DataW.trod_struct Try.underlying27 g2
      have h0 := hf2 0 _ at0
      have h1 := hf2 1 _ at1
      have h2 := hf2 2 _ at2
      match xs2, hlen2 with
      | [z0, z1, z2], _ =>
        (try dsimp only at h0 h1 h2)
        simp only [k_str, k_int, List.drop_zero, List.take_succ_cons, List.take_zero, List.drop_succ_cons, List.getElem?_cons_zero, List.getElem?_cons_succ] at h0 h1 h2
        obtain ⟨m2, b2, _, _⟩ := DataW.trod_int Try.underlying3 h0
        obtain ⟨m3, b3, _, _⟩ := DataW.trod_int Try.underlying3 h1
        obtain ⟨m4, b4, _, _⟩ := DataW.trod_string Try.underlying9 h2
        simp only [List.cons.injEq, and_true] at b0 b1 b2 b3 b4
        subst b0 b1 b2 b3 b4
        exact ⟨⟨m0, m1, m2, m3, m4⟩, rfl⟩
set_option maxRecDepth 100000 in
theorem open_plF (fuel : Nat) (cs : List Value) (x : DataW H × List MemPlace) (hl : cs.length = 3) (hx : DataW.trod enc Try.prog w 0 sp held fuel 105 cs = some x) :
    ∃ p : PlV, cs = placeR.enc p ∧ ∃ ts : List Tst, ts.length ≤ maxLen ∧ HoldsR testR w (.slice p.a p.n p.c) ts := by
  match cs, hl with
  | [a0, a1, a2], _ =>
    obtain ⟨xs, n, hfu, _, _, hlen, hf⟩ := DataW.trod_struct Try.underlying105 hx
    have g0 := hf 0 _ at0
    have g1 := hf 1 _ at1
    have g2 := hf 2 _ at2
    match xs, hlen with
    | [y0, y1, y2], _ =>
      (try dsimp only at g0 g1 g2)
      simp only [k_str, k_ts, List.drop_zero, List.take_succ_cons, List.take_zero, List.drop_succ_cons, List.getElem?_cons_zero, List.getElem?_cons_succ] at g0 g1 g2
      obtain ⟨m0, b0, _, _⟩ := DataW.trod_string Try.underlying9 g0
      obtain ⟨m1, b1, _, _⟩ := DataW.trod_string Try.underlying9 g1
      simp only [List.cons.injEq, and_true] at b0 b1
      subst b0 b1
      obtain ⟨ts, a, c, rfl, hm, hh, _⟩ := open_recsF (R := testR) (ok := fun _ => True) Try.underlying65 (by kernel_rfl) (fun n' cs' x' _ hl' hx' => by
        obtain ⟨p, hp⟩ := open_tstF n' cs' x' hl' hx'
        exact ⟨p, hp, trivial⟩) g2
      exact ⟨⟨m0, m1, a, ts.length, c⟩, rfl, ts, hm, hh⟩
set_option maxRecDepth 100000 in
theorem open_ptF (fuel : Nat) (cs : List Value) (x : DataW H × List MemPlace) (hl : cs.length = 9) (hx : DataW.trod enc Try.prog w 0 sp held fuel 114 cs = some x) :
    ∃ p : PthV, cs = pathR.enc p ∧ ∃ D r, HeldX (fun _ => True) w D p.x r := by
  match cs, hl with
  | [a0, a1, a2, a3, a4, a5, a6, a7, a8], _ =>
    obtain ⟨xs, n, hfu, _, _, hlen, hf⟩ := DataW.trod_struct Try.underlying114 hx
    have g0 := hf 0 _ at0
    have g1 := hf 1 _ at1
    have g2 := hf 2 _ at2
    have g3 := hf 3 _ at3
    have g4 := hf 4 _ at4
    have g5 := hf 5 _ at5
    match xs, hlen with
    | [y0, y1, y2, y3, y4, y5], _ =>
      (try dsimp only at g0 g1 g2 g3 g4 g5)
      simp only [k_str, k_int, k_bool, k_rx, List.drop_zero, List.take_succ_cons, List.take_zero, List.drop_succ_cons, List.getElem?_cons_zero, List.getElem?_cons_succ] at g0 g1 g2 g3 g4 g5
      obtain ⟨m0, b0, _, _⟩ := DataW.trod_string Try.underlying9 g0
      obtain ⟨m1, b1, _, _⟩ := DataW.trod_string Try.underlying9 g1
      obtain ⟨v, hv, D, r, hD⟩ := open_rxF Try.underlying112 Try.underlying3 Try.underlying109 Try.underlying110 Try.underlying9 Try.underlying4 (by kernel_rfl) rfl rfl rfl (by kernel_rfl) (by kernel_rfl) (by kernel_rfl) rfl rfl (by kernel_rfl) (by kernel_rfl) _ _ _ rfl g2
      obtain ⟨m3, b3, _, _⟩ := DataW.trod_string Try.underlying9 g3
      obtain ⟨m4, b4, _, _⟩ := DataW.trod_int Try.underlying3 g4
      obtain ⟨m5, b5, _⟩ := DataW.trod_bool Try.underlying4 g5
      simp only [rxR, List.cons.injEq, and_true] at b0 b1 hv b3 b4 b5
      obtain ⟨rfl, rfl, rfl, rfl⟩ := hv
      subst b0 b1 b3 b4 b5
      exact ⟨⟨m0, m1, v, m3, m4, m5⟩, rfl, D, r, hD⟩
set_option maxRecDepth 100000 in
theorem open_query {v : Value} {d : DataW H} {qs : List MemPlace} {r : Reach} {b0 : Nat} (hval : Value.okWide Try.prog w r b0 74 v) (h : DataW.Trod enc Try.prog w 0 sp held 74 v d qs) :
    ∃ (na : Option Addr) (N0 nc : Nat) (ea : Option Addr) (M0 ec : Nat) (ra : Option Addr) (R0 rc : Nat) (qc : Bool) (sk li : Int) (ct : Bool) (ps : List Pl) (es : List Pth) (rs : List ByteArray),
      v = .agg #[.slice na N0 nc, .slice ea M0 ec, .slice ra R0 rc, .bool qc, .int .i64 sk, .int .i64 li, .bool ct] ∧ HoldsP w (.slice na N0 nc) ps ∧ HoldsE w (.slice ea M0 ec) es ∧ Holds w (.slice ra R0 rc) (tx rs) ∧
      ps.length ≤ maxLen ∧ es.length ≤ maxLen ∧ rs.length ≤ maxLen ∧ ∀ x ∈ ps, x.ts.length ≤ maxLen := by
  obtain ⟨l, hl, rfl, _⟩ := GoX.arg_agg (by kernel_rfl) (show Try.prog.cellsOf 74 = 7 by kernel_rfl) hval
  obtain ⟨fuel, hf⟩ := h
  match l, hl with
  | [a0, a1, a2, a3, a4, a5, a6], hl =>
    obtain ⟨xs, n, hfu, _, _, hlen, hf⟩ := DataW.trod_struct Try.underlying74 (show DataW.trod enc Try.prog w 0 sp held fuel 74 [a0, a1, a2, a3, a4, a5, a6] = some _ from hf)
    have g0 := hf 0 _ at0
    have g1 := hf 1 _ at1
    have g2 := hf 2 _ at2
    have g3 := hf 3 _ at3
    have g4 := hf 4 _ at4
    have g5 := hf 5 _ at5
    have g6 := hf 6 _ at6
    match xs, hlen with
    | [y0, y1, y2, y3, y4, y5, y6], _ =>
      (try dsimp only at g0 g1 g2 g3 g4 g5 g6)
      simp only [k_ps, k_es, k_rs, k_int, k_bool, List.drop_zero, List.take_succ_cons, List.take_zero, List.drop_succ_cons, List.getElem?_cons_zero, List.getElem?_cons_succ] at g0 g1 g2 g3 g4 g5 g6
      obtain ⟨vs, na, nc, rfl, hpm, hph, hpw⟩ := open_recsF (R := placeR) (ok := fun p => ∃ ts : List Tst, ts.length ≤ maxLen ∧ HoldsR testR w (.slice p.a p.n p.c) ts) Try.underlying70 (by kernel_rfl) (fun n' cs' x' _ hl' hx' => open_plF n' cs' x' hl' hx') g0
      obtain ⟨us, ea, ec, rfl, hem, heh, hew⟩ := open_recsF (R := pathR) (ok := fun p => ∃ D r, HeldX (fun _ => True) w D p.x r) Try.underlying71 (by kernel_rfl) (fun n' cs' x' _ hl' hx' => open_ptF n' cs' x' hl' hx') g1
      obtain ⟨rs, ra, rc, rfl, hrm, hrh, _⟩ := open_recsF (R := txR) (ok := fun _ => True) Try.underlying72 (by kernel_rfl) (fun n' cs' x' _ hl' hx' => by
        match cs', hl' with
        | [u], _ =>
          obtain ⟨m, b, _, _⟩ := DataW.trod_string Try.underlying9 hx'
          simp only [List.cons.injEq, and_true] at b
          subst b
          exact ⟨m, rfl, trivial⟩) g2
      obtain ⟨m3, b3, _⟩ := DataW.trod_bool Try.underlying4 g3
      obtain ⟨m4, b4, _, _⟩ := DataW.trod_int Try.underlying3 g4
      obtain ⟨m5, b5, _, _⟩ := DataW.trod_int Try.underlying3 g5
      obtain ⟨m6, b6, _⟩ := DataW.trod_bool Try.underlying4 g6
      simp only [List.cons.injEq, and_true] at b3 b4 b5 b6
      subst b3 b4 b5 b6
      have hch : ∀ i : Nat, ∃ ts : List Tst, ts.length ≤ maxLen ∧ (i < vs.length → HoldsR testR w (.slice (vs.getD i PlV.none).a (vs.getD i PlV.none).n (vs.getD i PlV.none).c) ts) := fun i => by
        by_cases hi : i < vs.length
        · have e : vs.getD i PlV.none = vs[i] := by simp [List.getD, hi]
          obtain ⟨ts, h1, h2⟩ := hpw _ (List.getElem_mem hi)
          exact ⟨ts, h1, fun _ => by rw [e]; exact h2⟩
        · exact ⟨[], by unfold maxLen; simp, fun h => absurd h hi⟩
      obtain ⟨f, hf⟩ := Classical.skolem.1 hch
      have hce : ∀ i : Nat, ∃ q : Nat × Rx, i < us.length → HeldX (fun _ => True) w q.1 (us.getD i PthV.none).x q.2 := fun i => by
        by_cases hi : i < us.length
        · have e : us.getD i PthV.none = us[i] := by simp [List.getD, hi]
          obtain ⟨D, r, h⟩ := hew _ (List.getElem_mem hi)
          exact ⟨(D, r), fun _ => by rw [e]; exact h⟩
        · exact ⟨(0, Rx.none), fun h => absurd h hi⟩
      obtain ⟨q, hq⟩ := Classical.skolem.1 hce
      have hpl : ∀ i, i < vs.length → ((List.range vs.length).map fun i => Pl.mk (vs.getD i PlV.none).v (vs.getD i PlV.none).l (f i)).getD i Pl.none = Pl.mk (vs.getD i PlV.none).v (vs.getD i PlV.none).l (f i) := fun i hi => by simp [List.getD, hi]
      have hel : ∀ i, i < us.length → ((List.range us.length).map fun i => Pth.mk (us.getD i PthV.none).f (us.getD i PthV.none).t (q i).2 (us.getD i PthV.none).v (us.getD i PthV.none).h (us.getD i PthV.none).sh).getD i Pth.none = Pth.mk (us.getD i PthV.none).f (us.getD i PthV.none).t (q i).2 (us.getD i PthV.none).v (us.getD i PthV.none).h (us.getD i PthV.none).sh := fun i hi => by simp [List.getD, hi]
      refine ⟨na, vs.length, nc, ea, us.length, ec, ra, rs.length, rc, m3, m4, m5, m6, (List.range vs.length).map fun i => Pl.mk (vs.getD i PlV.none).v (vs.getD i PlV.none).l (f i), (List.range us.length).map fun i => Pth.mk (us.getD i PthV.none).f (us.getD i PthV.none).t (q i).2 (us.getD i PthV.none).v (us.getD i PthV.none).h (us.getD i PthV.none).sh, rs, rfl, ⟨vs, hph, by simp, fun i hi => ?_⟩, ⟨us, heh, by simp, fun i hi => ?_⟩, ?_, by simpa using hpm, by simpa using hem, hrm, fun x hx => ?_⟩
      · have hi' : i < vs.length := by simpa using hi
        rw [hpl i hi']
        exact ⟨rfl, rfl, (hf i).2 hi'⟩
      · have hi' : i < us.length := by simpa using hi
        rw [hel i hi']
        exact ⟨⟨rfl, rfl, rfl, rfl, rfl⟩, (q i).1, hq i hi'⟩
      · obtain ⟨a', c', e, hr⟩ := hrh
        simp only [Value.slice.injEq] at e
        obtain ⟨rfl, _, rfl⟩ := e
        exact ⟨_, _, by rw [tx_len], by rw [← txR_flat]; exact hr⟩
      · obtain ⟨i, _, rfl⟩ := List.mem_map.1 hx
        exact (hf i).1
end Go.Proofs.Ytnmjhbnadfjapaa
/-
  THE NODES OF A LABEL, AND ALL NODES, by contract: from the columns, and node by node.
-/
namespace Go.Proofs.Ytnmjhbnadfjapaa
open Go.ChangeShapes Go.WideShapes Go.ChangeAt Go.RowKit Go.Maps
set_option maxHeartbeats 3200000 in
set_option maxRecDepth 100000 in
theorem iclone_c (a : Option Addr) (c : Nat) (ps : List Int) (w : World) (hv : RowAt w a (intR.flat ps)) (hx : ps.length ≤ 1000000) (hc : a = none → c = 0) :
    Calls Try.prog 48 #[.slice a ps.length c] w fun e w' => ∃ a' c', e = .returned (.slice a' (List.length ps) c') ∧ w'.ownsRow w.heap.size 3 1 (.slice a' ps.length c') ps.length (intR.flat ps) ∧ Below w.heap.size w w' := by
  obtain ⟨i0, hi, hz0, hz1, hz2⟩ := info_parts infoIn
  match a, hv, hc with
  | none, hv, hc =>
    obtain rfl := hc rfl
    obtain rfl : ps = [] := by
      rcases hv with h0 | ⟨b, off, h, _⟩
      · have := congrArg List.length h0
        rw [Rec.flat_len] at this
        have : ps.length * 1 = 0 := this
        exact List.eq_nil_of_length_eq_zero (by omega)
      · cases h
    have hB : Hid (Below w.heap.size w w) := Below.refl _ _
    have hne : ∀ x : World, Sem.run Try.prog (binOp BinOp.eql 47 (.slice none 0 0) (.slice none 0 0)) x = .ok (.bool true) x := fun x => by rfl
    simp only [List.length_nil]
    go_enter Try.func48, Try.ntmps48
    go_wp2
    go_ret
    exact ⟨_, _, rfl, World.ownsRow_nil .., hB.out⟩
  | some ad, hv, _ =>
    have hbl : ∀ j u, (intR.flat ps)[j]? = some u → (w.alloc (.cells #[] 3)).cell? (ad.add j) = some u := fun j u hj => by
      rcases hv with h0 | ⟨b, off, h', hb, h3⟩
      · rw [h0] at hj; cases hj
      · cases h'
        exact (((Below.refl w.heap.size w).alloc (Nat.le_refl _) _).cell (p := (⟨b, off, none⟩ : Addr).add j) (by rw [add_plain]; exact hb)).trans (by rw [add_plain]; exact h3 j u hj)
    have hne : ∀ x : World, Sem.run Try.prog (binOp BinOp.eql 47 (.slice (some ad) ps.length c) (.slice none 0 0)) x = .ok (.bool false) x := fun x => by rfl
    replace hv := hidden hv
    replace hbl := hidden hbl
    go_enter Try.func48, Try.ntmps48
    go_wp2_with (at_builtin; refine wpList_append_own _ rfl _ _ 47 rfl w.heap.size 3 i0 (.int .i64 0) 1 8 Try.underlying47 hi hz0 hz1 hz2 rfl (by decide) _ _ _ rfl (World.ownsRow_made w #[] 0 (Nat.le_refl _) (by unfold maxLen; omega) rfl) ad ps.length c (intR.flat ps) rfl (Rec.flat_len ps) hbl.out (Rec.flat_one_cell ps) (by unfold maxLen; omega) (by omega) (by simp) ?_; intro v' w1 hown' hgrow _)
    have hB3 : Hid (Below w.heap.size w w1) := ((Below.refl _ _).alloc (Nat.le_refl _) _).grown hgrow (by simp) (fun j hj => by cases hj; exact Nat.le_refl _)
    simp only [Nat.zero_add, List.nil_append] at hown'
    obtain ⟨a1, c1, rfl⟩ := own_shape hown'
    replace hown' := hidden hown'
    clear hgrow
    go_wp2
    go_ret
    exact ⟨_, _, rfl, hown'.out, hB3.out⟩
/-- The nodes of the first k of a label. -/
def labN (ns : List Nd) (k : Nat) (s : ByteArray) : List Nat := (List.range k).filter fun i => ((ns.getD i Nd.none).l.toList == s.toList)
theorem labN_F (ns : List Nd) (k : Nat) (s : ByteArray) : (labN ns k s).map (fun (i : Nat) => (i : Int)) = labF ns k s := by
  unfold labN labF
  congr 1
  congr 1
  funext i
  generalize (ns.getD i Nd.none).l = l
  by_cases h : l = s
  · subst h; simp
  · have hne : (l.toList == s.toList) = false := by
      cases h2 : (l.toList == s.toList) with
      | false => rfl
      | true => exact absurd (tl_inj (eq_of_beq h2)) h
    rw [hne, decide_eq_false h]
theorem labN_succ (ns : List Nd) (k : Nat) (s : ByteArray) : labN ns (k + 1) s = labN ns k s ++ (if ((ns.getD k Nd.none).l.toList == s.toList) = true then [k] else []) := by
  unfold labN
  rw [List.range_succ, List.filter_append]
  congr 1
  rw [List.filter_cons, List.filter_nil]
theorem labN_len (ns : List Nd) (k : Nat) (s : ByteArray) : (labN ns k s).length ≤ k := by
  unfold labN
  exact Nat.le_trans (List.length_filter_le _ _) (by rw [List.length_range]; exact Nat.le_refl _)
set_option maxHeartbeats 3200000 in
set_option maxRecDepth 100000 in
theorem colwith_c (ns : List Nd) (C : ColX) (B : Nat) (s : ByteArray) (w : World) (hC : ColAt ns C B w) (hs : s.size ≤ maxLen) (hN : ns.length ≤ 1000) :
    Calls Try.prog 18 #[.pointer (some ⟨C.gb, 0, none⟩), .string s] w fun e w' => ∃ a' c', e = .returned (.slice a' (labF ns ns.length s).length c') ∧ w'.ownsRow w.heap.size 3 1 (.slice a' (labF ns ns.length s).length c') (labF ns ns.length s).length (intR.flat (labF ns ns.length s)) ∧ Below w.heap.size w w' := by
  obtain ⟨⟨x0, x1, x2⟩, -⟩ := box3n hC.box
  have hkm : ns.length < maxLen := by unfold maxLen; omega
  obtain ⟨lv, hlook, hrow, -⟩ := hC.lab.at lawS Try.underlying87 zeroRowI hkm (key_s hs)
  have hrun := hlook w rfl
  have hlen := labF_len ns ns.length s
  generalize labF ns ns.length s = L at *
  obtain ⟨la, lc, rfl⟩ := own_shape hrow
  obtain ⟨a9, c9, e9, hr9⟩ := holdsR_of_owns (R := intR) hrow
  simp only [Value.slice.injEq] at e9
  obtain ⟨rfl, -, rfl⟩ := e9
  have hcl := iclone_c la lc L w hr9 (by omega) (own_none hrow).1
  clear hlook hrow hr9 hkm hlen hC
  go_enter Try.func18, Try.ntmps18
  go_wp2_with fail
  refine hcl.mono ?_
  rintro e w2 ⟨a', c', rfl, ho, hB⟩
  replace ho := hidden ho
  replace hB := hidden hB
  clear hcl hrun x0 x1 x2
  go_wp2
  go_ret
  exact ⟨_, _, rfl, ho.out, hB.out⟩
set_option maxHeartbeats 3200000 in
set_option maxRecDepth 100000 in
theorem rwith_c (g : Gr) (vs : List NdV) (a : Option Addr) (n c : Nat) (b : Option Addr) (m d : Nat) (s : ByteArray) (w : World) (hO : OwnG g vs a n c b m d w) (hs : g.sm) :
    Calls Try.prog 19 #[.agg #[.slice a n c, .slice b m d], .string s] w fun e w' => ∃ v, e = .returned v ∧ w'.ownsRow w.heap.size 3 1 v (labN g.ns g.ns.length s).length (natR.flat (labN g.ns g.ns.length s)) ∧ Below w.heap.size w w' := by
  obtain ⟨ii, hii, hi0, hi1, hi2⟩ := info_parts infoIn
  obtain ⟨hgn, -⟩ := hO.len
  have hn0 : n ≤ 1000 := by rw [hgn]; exact hs.1
  obtain ⟨x, hx⟩ : ∃ x, x = w.alloc (.cells #[.slice a n c, .slice b m d] 25) := ⟨_, rfl⟩
  have hB0 : Hid (Below w.heap.size w x) := by rw [hx]; exact (Below.refl _ _).alloc (Nat.le_refl _) _
  have hX0 : Hid (x.heap[w.heap.size]? = some (.cells #[.slice a n c, .slice b m d] 25)) := by rw [hx]; exact heap_alloc_new w _
  have hnd := hidden fun z (hz : Below w.heap.size w z) k hk => node_in (hO.calm hz) (k := k) hk
  generalize g.ns = ns at *
  rw [← hgn] at hnd ⊢
  obtain ⟨⟨b0, b1⟩, -⟩ := box2f hX0.out
  clear hO hs hgn
  have hxs : x.heap.size = w.heap.size + 1 := by rw [hx]; simp
  subst hx
  go_enter Try.func19, Try.ntmps19
  go_wp2_with fail
  generalize w.alloc (.cells #[.slice a n c, .slice b m d] 25) = x at *
  clear b0 b1
  rw [← hxs]
  clear hxs
  have hO0 : Hid ((x.alloc (.cells #[] 3)).ownsRow x.heap.size 3 1 (.slice (some ⟨x.heap.size, 0, none⟩) 0 0) (labN ns 0 s).length (natR.flat (labN ns 0 s))) := hidden (World.ownsRow_made (base := x.heap.size) (e := 3) (size := 1) x #[] 0 (Nat.le_refl _) (by unfold maxLen; omega) rfl)
  have hk0 : Hid (Below x.heap.size x (x.alloc (.cells #[] 3))) := hidden ((Below.refl _ _).alloc (Nat.le_refl _) _)
  generalize x.alloc (.cells #[] 3) = x2 at *
  go_loopw [5, 6] (fun u i wr => ∃ k : Nat, k ≤ n ∧ i = .int .i64 k ∧ Hid (wr.ownsRow x.heap.size 3 1 u (labN ns k s).length (natR.flat (labN ns k s))) ∧ Hid (Below x.heap.size x wr))
    (fun _ i _ => n - (intOf i).toNat)
  case atStart => exact ⟨0, Nat.zero_le _, rfl, hO0, hk0⟩
  case round =>
    clear hO0 hk0
    obtain ⟨k, hk, rfl, hown, hnx⟩ := hrel
    obtain ⟨oa, oc, rfl⟩ := own_shape hown.out
    obtain ⟨⟨b0, b1⟩, -⟩ := box2f (box_below hX0.out hnx.out)
    by_cases hlt : k < n
    · have hlt' : (k : Int) < (n : Int) := by omega
      have hby : Hid (Below w.heap.size w wr) := hidden (hB0.out.trans (hnx.out.mono hB0.out.size))
      obtain ⟨gn, off, pa, pc, rfl, hbb, d0, d1, hpr⟩ := hnd.out wr hby.out k hlt
      have hsu := hidden (labN_succ ns k s)
      have hln := labN_len ns k s
      have hws : x.heap.size ≤ wr.heap.size := hnx.out.size
      generalize (ns.getD k Nd.none).l = l at *
      clear d1 hpr hby hbb
      cases hq : (l.toList == s.toList) with
      | true =>
        rw [hq] at hsu
        have hone := hidden (SlR.oneR (R := natR) wr k 3)
        go_wp2_with (at_builtin; go_loud (refine wpList_appT _ natR rfl _ _ 47 rfl x.heap.size 3 ii (.int .i64 0) 1 8 Try.underlying47 hii hi0 hi1 hi2 rfl rfl rfl (owns_keep hown.out ((Below.refl _ _).alloc (Nat.le_refl _) _)) rfl (hone.out) (by show _ + 1 ≤ _; unfold maxLen; omega) (by show (_ + 1) * 8 ≤ _; omega) (by show _ ≤ (wr.heap.push _).size; simp; omega) ?_); intro v' w5 hown5 hgrow5)
        have hk5 : Hid (Below x.heap.size x w5) := hidden ((hnx.out.alloc hnx.out.size _).grown hgrow5 (hnx.out.alloc hnx.out.size (.cells #[.int .i64 (k : Int)] 3)).size (fun j hj => (hown.out.lt j hj).1))
        have hO5 : Hid (w5.ownsRow x.heap.size 3 1 v' (labN ns (k + 1) s).length (natR.flat (labN ns (k + 1) s))) := hidden (by
          rw [hsu.out]
          simp only [if_true]
          rw [List.length_append, Rec.flat_app]
          exact hown5)
        clear hown5 hgrow5 hown hnx hone d0 b0 b1
        go_wp2
        go_roundw
        case rel => exact ⟨k + 1, by omega, by go_num, hO5, hk5⟩
        case measure => simp [intOf]; omega
      | false =>
        rw [hq] at hsu
        have hO5 : Hid (wr.ownsRow x.heap.size 3 1 (.slice oa (labN ns k s).length oc) (labN ns (k + 1) s).length (natR.flat (labN ns (k + 1) s))) := hidden (by
          rw [hsu.out]
          simp only [Bool.false_eq_true, if_false, List.append_nil]
          exact hown.out)
        clear hown
        go_wp2
        go_roundw
        case rel => exact ⟨k + 1, by omega, by go_num, hO5, hnx⟩
        case measure => simp [intOf]; omega
    · have hlt' : ¬ (k : Int) < (n : Int) := by omega
      obtain rfl : k = n := by omega
      have hfin := hidden (own_le2 hown.out hB0.out.size)
      have hbf : Hid (Below w.heap.size w wr) := hidden (hB0.out.trans (hnx.out.mono hB0.out.size))
      clear hown
      go_wp2
      go_ret
      exact ⟨_, rfl, hfin.out, hbf.out⟩
/-- Places below k stand at their own, the rest at nothing. -/
def fillN (n k : Nat) : List Nat := (List.range n).map fun i => if i < k then i else 0
theorem fillN_len (n k : Nat) : (fillN n k).length = n := by simp [fillN]
theorem fillN_zero (n : Nat) : natR.flat (fillN n 0) = (madeCells #[.int .i64 0] n).toList := by
  rw [natR_flat]
  apply List.ext_getElem?
  intro i
  by_cases hi : i < n
  · simp [madeCells, ints, fillN, hi, Nat.mod_one]
  · rw [List.getElem?_eq_none (by simp [ints, fillN]; omega), List.getElem?_eq_none (by simp [madeCells]; omega)]
theorem fillN_step (n k : Nat) : (natR.flat (fillN n k)).set k (.int .i64 (k : Int)) = natR.flat (fillN n (k + 1)) := by
  rw [natR_flat, natR_flat]
  apply List.ext_getElem?
  intro i
  by_cases hi : i < n
  · rw [List.getElem?_set]
    by_cases hk : k = i
    · subst hk; simp [ints, fillN, hi]
    · rw [if_neg hk]
      simp only [ints, fillN, List.getElem?_map, List.getElem?_range hi, Option.map_some]
      by_cases h : i < k
      · rw [if_pos h, if_pos (by omega)]
      · rw [if_neg h, if_neg (by omega)]
  · rw [List.getElem?_eq_none (by rw [List.length_set]; simp [ints, fillN]; omega), List.getElem?_eq_none (by simp [ints, fillN]; omega)]
theorem fillN_all (n : Nat) : fillN n n = List.range n := by
  unfold fillN
  conv => rhs; rw [← List.map_id (List.range n)]
  exact List.map_congr_left fun i hi => by rw [if_pos (List.mem_range.1 hi)]; rfl
set_option maxHeartbeats 3200000 in
set_option maxRecDepth 100000 in
theorem colall_c (ns : List Nd) (C : ColX) (B : Nat) (w : World) (hC : ColAt ns C B w) (hN : ns.length ≤ 1000) :
    Calls Try.prog 16 #[.pointer (some ⟨C.gb, 0, none⟩)] w fun e w' => ∃ a' c', e = .returned (.slice a' ns.length c') ∧ w'.ownsRow w.heap.size 3 1 (.slice a' ns.length c') ns.length (natR.flat (List.range ns.length)) ∧ Below w.heap.size w w' := by
  obtain ⟨ii, hii, hi0, hi1, hi2⟩ := info_parts infoIn
  obtain ⟨⟨x0, x1, x2⟩, -⟩ := box3n hC.box
  have hln := hC.nodes.len
  obtain ⟨na, nc, hnv⟩ := own_shape hC.nodes.row
  rw [hnv] at x0
  rw [hln] at x0
  rw [← fillN_all]
  generalize ns.length = N at *
  clear hnv hln hC
  go_enter Try.func16, Try.ntmps16
  go_wp2_with (refine wpList_make_full _ rfl _ _ 47 rfl w.heap.size 3 ii (.int .i64 0) 1 Try.underlying47 hii hi0 hi1 .i64 .i64 _ _ N rfl rfl ?c1 ?c2 ?c3 ?c4 ?c5 ?_)
  case c1 => rfl
  case c2 => rfl
  case c3 => first | omega | (rw [hi2]; omega)
  case c4 => unfold maxLen; omega
  case c5 => first | exact Nat.le_refl _ | simp
  intro wa hown hgrow
  have hO0 : Hid (wa.ownsRow w.heap.size 3 1 (.slice (some ⟨w.heap.size, 0, none⟩) N N) N (natR.flat (fillN N 0))) := hidden (by rw [fillN_zero]; exact hown)
  have hb0 : Hid (Below w.heap.size w wa) := hidden ((Below.refl _ _).grown hgrow (Nat.le_refl _) (fun j hj => by cases hj))
  clear hown hgrow x0 x1 x2
  go_wp2_with fail
  go_loopw [15] (fun i wr => ∃ k : Nat, k ≤ N ∧ i = .int .i64 k ∧ Hid (wr.ownsRow w.heap.size 3 1 (.slice (some ⟨w.heap.size, 0, none⟩) N N) N (natR.flat (fillN N k))) ∧ Hid (Below w.heap.size w wr))
    (fun i _ => N - (intOf i).toNat)
  case atStart => exact ⟨0, Nat.zero_le _, rfl, hO0, hb0⟩
  case round =>
    clear hO0 hb0
    obtain ⟨k, hk, rfl, hown, hnx⟩ := hrel
    by_cases hlt : k < N
    · have hlt' : (k : Int) < (N : Int) := by omega
      have f0 := hown.out.frozenAt k
      have e0 : ∃ u, wr.cell? ⟨w.heap.size, k, none⟩ = some u := by
        have h := hown.out
        rcases h.2 with ⟨h', _⟩ | ⟨g', cap', cur, h', hb, hg, hnc, hcm, hcs, htake⟩
        · simp at h'
        · simp only [Value.slice.injEq, Option.some.injEq, Addr.mk.injEq, and_true, true_and] at h'
          obtain ⟨rfl, rfl⟩ := h'
          have hks : k < cur.size := by omega
          exact ⟨cur[k], by simp [World.cell?, hg, hks]⟩
      obtain ⟨u0, e0⟩ := e0
      have hst := hown.out.stored k (.int .i64 (k : Int))
      rw [fillN_step] at hst
      have hO5 := hidden hst.1
      have hk5 : Hid (Below w.heap.size w (wr.setCell ⟨w.heap.size, k, none⟩ (.int .i64 (k : Int)))) := hidden (hnx.out.setCell (p := ⟨w.heap.size, k, none⟩) (Nat.le_refl _) _)
      clear hst hown hnx
      go_wp2
      go_roundw
      case rel => exact ⟨k + 1, by omega, by go_num, hO5, hk5⟩
      case measure => simp [intOf]; omega
    · have hlt' : ¬ (k : Int) < (N : Int) := by omega
      obtain rfl : k = N := by omega
      go_wp2
      go_ret
      exact ⟨_, _, rfl, hown.out, hnx.out⟩
end Go.Proofs.Ytnmjhbnadfjapaa
/-
  THE NODES OF A LABEL, AND ALL NODES, of no columns, by contract.
-/
namespace Go.Proofs.Ytnmjhbnadfjapaa
open Go.ChangeShapes Go.WideShapes Go.ChangeAt Go.RowKit Go.Maps
theorem withNil_c (s : ByteArray) (w : World) : Calls Try.prog 18 #[.pointer none, .string s] w fun e w' => e = .returned (.slice none 0 0) ∧ Below w.heap.size w w' := by
  have hB : Hid (Below w.heap.size w w) := Below.refl _ _
  go_enter Try.func18, Try.ntmps18
  go_wp2
  go_ret
  exact ⟨rfl, hB.out⟩
theorem allNil_c (w : World) : Calls Try.prog 16 #[.pointer none] w fun e w' => e = .returned (.slice none 0 0) ∧ Below w.heap.size w w' := by
  have hB : Hid (Below w.heap.size w w) := Below.refl _ _
  go_enter Try.func16, Try.ntmps16
  go_wp2
  go_ret
  exact ⟨rfl, hB.out⟩
end Go.Proofs.Ytnmjhbnadfjapaa
/-
  WHETHER A NODE MAY BE A VARIABLE's, by contract: test.Fits, and the reference's.
-/
namespace Go.Proofs.Ytnmjhbnadfjapaa
open Go.ChangeShapes Go.WideShapes Go.ChangeAt Go.RowKit Go.Maps

/-- May a node be a variable's? -/
def fitN (ns : List Nd) (qs : List Pl) (v : ByteArray) (i : Nat) : Bool := ((labelsQ qs v).all fun y => (ns.getD i Nd.none).l.toList == y.toList) && (testsQ qs v).all (sayT (ns.getD i Nd.none).ps)
theorem tx_in {w : World} {a : Option Addr} {L : List ByteArray} (h : RowAt w a (tx L)) {k : Nat} (hk : k < L.length) : ∃ b off, a = some ⟨b, off, none⟩ ∧ b < w.heap.size ∧ w.cell? ⟨b, off + k, none⟩ = some (.string (L.getD k ⟨#[]⟩)) := by
  rcases h with h0 | ⟨b, off, rfl, hb, h3⟩
  · simp [tx] at h0
    subst h0
    simp at hk
  · exact ⟨b, off, rfl, hb, h3 k _ (by simp [tx, List.getD, List.getElem?_eq_getElem hk])⟩
theorem rowT5 {w : World} {B : Nat} {a : Option Addr} {c : Nat} {L : List Tst} (h : w.ownsRow B 62 5 (.slice a L.length c) L.length (testR.flat L)) : RowAt w a (testR.flat L) := by
  obtain ⟨a9, c9, e9, hr9⟩ := holdsR_of_owns (R := testR) h
  simp only [Value.slice.injEq] at e9
  obtain ⟨rfl, -, -⟩ := e9
  exact hr9
theorem allTx_yes {l : ByteArray} {L : List ByteArray} (h : ∀ q, q < L.length → (l.toList == (L.getD q ⟨#[]⟩).toList) = true) : (L.all fun y => l.toList == y.toList) = true := by
  rw [List.all_eq_true]
  intro y hy
  obtain ⟨q, hq, rfl⟩ := List.mem_iff_getElem.1 hy
  have := h q hq
  simpa [List.getD, List.getElem?_eq_getElem hq] using this
theorem allTx_no {l : ByteArray} {L : List ByteArray} {k : Nat} (hk : k < L.length) (h : (l.toList == (L.getD k ⟨#[]⟩).toList) = false) : (L.all fun y => l.toList == y.toList) = false := by
  rw [← Bool.not_eq_true, List.all_eq_true]
  intro h2
  have h3 := h2 L[k] (List.getElem_mem hk)
  rw [List.getD, List.getElem?_eq_getElem hk, Option.getD_some] at h
  rw [h3] at h
  exact absurd h (by decide)
theorem box7u {x : World} {b : Nat} {c0 c1 c2 c3 c4 c5 c6 : Value} {t : TypeId} (h : x.heap[b]? = some (.cells #[c0, c1, c2, c3, c4, c5, c6] t)) :
    x.cell? ⟨b, 0, none⟩ = some c0 ∧ x.cell? ⟨b, 1, none⟩ = some c1 ∧ x.cell? ⟨b, 2, none⟩ = some c2 ∧ x.cell? ⟨b, 3, none⟩ = some c3 ∧ x.cell? ⟨b, 4, none⟩ = some c4 ∧ x.cell? ⟨b, 5, none⟩ = some c5 ∧ x.cell? ⟨b, 6, none⟩ = some c6 := by
  simp [World.cell?, h]
set_option maxHeartbeats 1600000 in
set_option maxRecDepth 100000 in
theorem fits_c (g : Gr) (vs : List NdV) (a : Option Addr) (n c : Nat) (b : Option Addr) (m d : Nat) (qs : List Pl) (v : ByteArray) (na : Option Addr) (N0 nc : Nat) (ea : Option Addr) (M0 ec : Nat) (ra : Option Addr) (R0 rc : Nat) (qc : Bool) (sk li : Int) (ct : Bool) (k : Nat) (w : World) (hO : OwnG g vs a n c b m d w) (hs : g.sm) (hk : k < n) (hE : HoldsP w (.slice na N0 nc) qs) (hl : qs.length ≤ 1000) (hall : ∀ j, (testsQ (qs.take j) v).length ≤ 1000) :
    Calls Try.prog 34 #[.agg #[.slice a n c, .slice b m d], .int .i64 (k : Int), .agg #[.slice na N0 nc, .slice ea M0 ec, .slice ra R0 rc, .bool qc, .int .i64 sk, .int .i64 li, .bool ct], .string v] w fun e w' => e = .returned (.bool (fitN g.ns qs v k)) ∧ Below w.heap.size w w' := by
  obtain ⟨hgn, -⟩ := hO.len
  have hk2 : k < g.ns.length := by rw [← hgn]; exact hk
  have hn0 : n ≤ 1000 := by rw [hgn]; exact hs.1
  obtain ⟨gn, off, pa, pc, rfl, hbb, d0, d1, hpr⟩ := node_in hO hk2
  have hpl : (g.ns.getD k Nd.none).ps.length ≤ 1000 := (hs.2.1 _ (getD_memG (d := Nd.none) hk2)).2.1
  have htl : (testsQ qs v).length ≤ 1000 := by have := hall qs.length; rwa [List.take_length] at this
  have hll : (labelsQ qs v).length ≤ 1000 := Nat.le_trans (labelsQ_le qs v) hl
  have hlab := hidden fun z (hz : Below w.heap.size w z) => qlabelsQ_c qs v na N0 nc ea M0 ec ra R0 rc qc sk li ct z (hE.below hz) (by omega)
  have htes := hidden fun z (hz : Below w.heap.size w z) => qtestsQ_c qs v na N0 nc ea M0 ec ra R0 rc qc sk li ct z (hE.below hz) (by omega) (fun j => by have := hall j; omega)
  have hpass := hidden fun z (hz : Below w.heap.size w z) ta tc (ht : RowAt z ta (testR.flat (testsQ qs v))) => passes_c (g.ns.getD k Nd.none).l (g.ns.getD k Nd.none).ps pa pc (testsQ qs v) ta tc z (hpr.below hz) hpl ht htl
  unfold fitN
  obtain ⟨x, hx⟩ : ∃ x, x = (w.alloc (.cells #[.slice (some ⟨gn, off, none⟩) n c, .slice b m d] 25)).alloc (.cells #[.slice na N0 nc, .slice ea M0 ec, .slice ra R0 rc, .bool qc, .int .i64 sk, .int .i64 li, .bool ct] 74) := ⟨_, rfl⟩
  have hB0 : Hid (Below w.heap.size w x) := by rw [hx]; exact ((Below.refl _ _).alloc (Nat.le_refl _) _).alloc (by simp) _
  have hX1 : Hid (x.heap[w.heap.size + 1]? = some (.cells #[.slice na N0 nc, .slice ea M0 ec, .slice ra R0 rc, .bool qc, .int .i64 sk, .int .i64 li, .bool ct] 74)) := by
    rw [hx]
    have h := heap_alloc_new (w.alloc (.cells #[.slice (some ⟨gn, off, none⟩) n c, .slice b m d] 25)) (.cells #[.slice na N0 nc, .slice ea M0 ec, .slice ra R0 rc, .bool qc, .int .i64 sk, .int .i64 li, .bool ct] 74)
    rwa [show (w.alloc (.cells #[.slice (some ⟨gn, off, none⟩) n c, .slice b m d] 25)).heap.size = w.heap.size + 1 by simp] at h
  have e0 := (hB0.out.cell (p := ⟨gn, off + k * 2, none⟩) hbb).trans d0
  have e1 := (hB0.out.cell (p := ⟨gn, off + k * 2 + 1, none⟩) hbb).trans d1
  clear hO hs hpr hk2 hgn hE hl hall
  generalize (g.ns.getD k Nd.none).l = l at *
  generalize (g.ns.getD k Nd.none).ps = ps at *
  generalize ps.length = pl at *
  have hxs : x.heap.size = w.heap.size + 2 := by rw [hx]; simp
  have hyx : ∃ y, y = x.alloc (.cells #[.string l, .slice pa pl pc] 44) := ⟨_, rfl⟩
  obtain ⟨y, hy⟩ := hyx
  have hB1 : Hid (Below w.heap.size w y) := by rw [hy]; exact hB0.out.alloc hB0.out.size _
  have hY1 : Hid (y.heap[w.heap.size + 1]? = some (.cells #[.slice na N0 nc, .slice ea M0 ec, .slice ra R0 rc, .bool qc, .int .i64 sk, .int .i64 li, .bool ct] 74)) := by rw [hy]; exact (heap_alloc_old _ _ (by omega)).trans hX1.out
  have hY2 : Hid (y.heap[w.heap.size + 2]? = some (.cells #[.string l, .slice pa pl pc] 44)) := by rw [hy, ← hxs]; exact heap_alloc_new _ _
  have hcz : Hid (∀ z, Below y.heap.size y z → z.cell? ⟨w.heap.size + 2, 0, none⟩ = some (.string l) ∧ z.cell? ⟨w.heap.size + 2, 1, none⟩ = some (.slice pa pl pc) ∧ z.cell? ⟨w.heap.size + 1, 0, none⟩ = some (.slice na N0 nc) ∧ z.cell? ⟨w.heap.size + 1, 1, none⟩ = some (.slice ea M0 ec) ∧ z.cell? ⟨w.heap.size + 1, 2, none⟩ = some (.slice ra R0 rc) ∧ z.cell? ⟨w.heap.size + 1, 3, none⟩ = some (.bool qc) ∧ z.cell? ⟨w.heap.size + 1, 4, none⟩ = some (.int .i64 sk) ∧ z.cell? ⟨w.heap.size + 1, 5, none⟩ = some (.int .i64 li) ∧ z.cell? ⟨w.heap.size + 1, 6, none⟩ = some (.bool ct)) := hidden fun z h => by
    obtain ⟨⟨q0, q1⟩, -⟩ := box2f (box_below hY2.out h)
    exact ⟨q0, q1, box7u (box_below hY1.out h)⟩
  have hyes := hidden fun h => allTx_yes (l := l) (L := labelsQ qs v) h
  have hno := hidden fun j hj h => allTx_no (l := l) (L := labelsQ qs v) (k := j) hj h
  generalize labelsQ qs v = LL at *
  generalize testsQ qs v = TT at *
  generalize TT.all (sayT ps) = tb at *
  generalize (LL.all fun y => l.toList == y.toList) = lb at *
  have hk' : (k : Int) < (n : Int) := by omega
  have hk0 : ¬ (k : Int) < 0 := by omega
  have hk1 : ¬ (n : Int) ≤ (k : Int) := by omega
  subst hx
  clear hxs
  go_enter Try.func34, Try.ntmps34
  go_wp2_with fail
  rw [← hy]
  replace hy := hidden hy
  clear d0 d1 e0 e1 hbb
  refine (hlab.out _ hB1.out).mono ?_
  rintro e y1 ⟨la, lc, rfl, hLo, hB⟩
  have k1 : Hid (Below y.heap.size y y1) := hidden (hB.mono (by exact Nat.le_refl _))
  have hLr := hidden (owns_tx hLo)
  clear hLo hB
  go_wp2_with fail
  go_loopw [30] (fun i wr => ∃ j : Nat, j ≤ LL.length ∧ i = .int .i64 j ∧ Hid (∀ q, q < j → (l.toList == (LL.getD q ⟨#[]⟩).toList) = true) ∧ Hid (Below y1.heap.size y1 wr))
    (fun i _ => LL.length - (intOf i).toNat)
  case atStart => exact ⟨0, Nat.zero_le _, rfl, hidden fun q hq => absurd hq (Nat.not_lt_zero q), hidden (Below.refl _ _)⟩
  case round =>
    obtain ⟨j, hj, rfl, hlow, hnx⟩ := hrel
    have hny : Hid (Below y.heap.size y wr) := hidden (k1.out.trans (hnx.out.mono k1.out.size))
    by_cases hlt : j < LL.length
    · have hlt' : (j : Int) < (LL.length : Int) := by omega
      obtain ⟨lb9, lo9, rfl, -, f0⟩ := tx_in (hLr.out.below hnx.out) hlt
      obtain ⟨q0, q1, -⟩ := hcz.out wr hny.out
      have hn1 := hidden (hno.out j hlt)
      have hlow2 : Hid ((l.toList == (LL.getD j ⟨#[]⟩).toList) = true → ∀ q, q < j + 1 → (l.toList == (LL.getD q ⟨#[]⟩).toList) = true) := hidden fun h q hq => by
        rcases Nat.lt_or_ge q j with h2 | h2
        · exact hlow.out q h2
        · obtain rfl : q = j := by omega
          exact h
      clear hlow
      generalize LL.getD j ⟨#[]⟩ = y9 at *
      cases hq : (l.toList == y9.toList) with
      | true =>
        have h3 := hidden (hlow2.out hq)
        clear hlow2 hn1
        go_wp2
        go_roundw
        case rel => exact ⟨j + 1, by omega, by go_num, h3, hnx⟩
        case measure => simp [intOf]; omega
      | false =>
        have h3 := hidden (hn1.out hq)
        have hfin : Hid (Below w.heap.size w wr) := hidden (hB1.out.trans (hny.out.mono hB1.out.size))
        clear hlow2 hn1
        go_wp2
        go_ret
        exact ⟨by rw [h3.out]; rfl, hfin.out⟩
    · have hlt' : ¬ (j : Int) < (LL.length : Int) := by omega
      obtain rfl : j = LL.length := by omega
      have h3 := hidden (hyes.out hlow.out)
      have hcr : Hid (∀ z, Below wr.heap.size wr z → z.cell? ⟨w.heap.size + 2, 0, none⟩ = some (.string l) ∧ z.cell? ⟨w.heap.size + 2, 1, none⟩ = some (.slice pa pl pc) ∧ z.cell? ⟨w.heap.size + 1, 0, none⟩ = some (.slice na N0 nc) ∧ z.cell? ⟨w.heap.size + 1, 1, none⟩ = some (.slice ea M0 ec) ∧ z.cell? ⟨w.heap.size + 1, 2, none⟩ = some (.slice ra R0 rc) ∧ z.cell? ⟨w.heap.size + 1, 3, none⟩ = some (.bool qc) ∧ z.cell? ⟨w.heap.size + 1, 4, none⟩ = some (.int .i64 sk) ∧ z.cell? ⟨w.heap.size + 1, 5, none⟩ = some (.int .i64 li) ∧ z.cell? ⟨w.heap.size + 1, 6, none⟩ = some (.bool ct)) := hidden fun z h => hcz.out z (hny.out.trans (h.mono hny.out.size))
      have hwz : Hid (∀ z, Below wr.heap.size wr z → Below w.heap.size w z) := hidden fun z h => hB1.out.trans ((hny.out.trans (h.mono hny.out.size)).mono hB1.out.size)
      have kk : Hid (Below wr.heap.size wr wr.drew) := hidden (Below.refl _ _).drew
      have hS := hcr.out _ kk.out
      clear hlow hyes hno
      go_wp2_with fail
      go_region_held3 (fun z => z.cell? ⟨w.heap.size + 2, 0, none⟩ = some (.string l) ∧ z.cell? ⟨w.heap.size + 2, 1, none⟩ = some (.slice pa pl pc) ∧ z.cell? ⟨w.heap.size + 1, 0, none⟩ = some (.slice na N0 nc) ∧ z.cell? ⟨w.heap.size + 1, 1, none⟩ = some (.slice ea M0 ec) ∧ z.cell? ⟨w.heap.size + 1, 2, none⟩ = some (.slice ra R0 rc) ∧ z.cell? ⟨w.heap.size + 1, 3, none⟩ = some (.bool qc) ∧ z.cell? ⟨w.heap.size + 1, 4, none⟩ = some (.int .i64 sk) ∧ z.cell? ⟨w.heap.size + 1, 5, none⟩ = some (.int .i64 li) ∧ z.cell? ⟨w.heap.size + 1, 6, none⟩ = some (.bool ct)) (first | exact hS | go_keep) (first
        | (go_at_call 59; refine (htes.out _ (hwz.out _ kk.out)).mono ?_; rintro e y9 ⟨ta, tc, rfl, hTo, hBz⟩
           have kk := hidden (kk.out.trans (hBz.mono kk.out.size))
           have hS := hcr.out y9 kk.out
           have oT := hidden (rowT5 hTo))
        | (go_at_call 55; refine (hpass.out _ (hwz.out _ kk.out) _ _ oT.out).mono ?_; rintro e y9 ⟨rfl, hBz⟩
           have kk := hidden (kk.out.trans (hBz.mono kk.out.size))
           have hS := hcr.out y9 kk.out
           skip)
        | fail)
      have hfin := hidden (hwz.out y9 kk.out)
      clear hcr hwz kk hS
      go_wp2
      go_ret
      exact ⟨by rw [h3.out]; rfl, hfin.out⟩
set_option maxHeartbeats 1600000 in
set_option maxRecDepth 100000 in
theorem rfits_c (g : Gr) (vs : List NdV) (a : Option Addr) (n c : Nat) (b : Option Addr) (m d : Nat) (qs : List Pl) (v : ByteArray) (na : Option Addr) (N0 nc : Nat) (ea : Option Addr) (M0 ec : Nat) (ra : Option Addr) (R0 rc : Nat) (qc : Bool) (sk li : Int) (ct : Bool) (k : Nat) (w : World) (hO : OwnG g vs a n c b m d w) (hs : g.sm) (hk : k < n) (hE : HoldsP w (.slice na N0 nc) qs) (hl : qs.length ≤ 1000) (hall : ∀ j, (testsQ (qs.take j) v).length ≤ 1000) :
    Calls Try.prog 35 #[.agg #[.slice a n c, .slice b m d], .int .i64 (k : Int), .agg #[.slice na N0 nc, .slice ea M0 ec, .slice ra R0 rc, .bool qc, .int .i64 sk, .int .i64 li, .bool ct], .string v] w fun e w' => e = .returned (.bool (fitN g.ns qs v k)) ∧ Below w.heap.size w w' := by
  obtain ⟨hgn, -⟩ := hO.len
  have hk2 : k < g.ns.length := by rw [← hgn]; exact hk
  have hn0 : n ≤ 1000 := by rw [hgn]; exact hs.1
  obtain ⟨gn, off, pa, pc, rfl, hbb, d0, d1, hpr⟩ := node_in hO hk2
  have hpl : (g.ns.getD k Nd.none).ps.length ≤ 1000 := (hs.2.1 _ (getD_memG (d := Nd.none) hk2)).2.1
  have htl : (testsQ qs v).length ≤ 1000 := by have := hall qs.length; rwa [List.take_length] at this
  have hll : (labelsQ qs v).length ≤ 1000 := Nat.le_trans (labelsQ_le qs v) hl
  have hlab := hidden fun z (hz : Below w.heap.size w z) => rlabelsQ_c qs v na N0 nc ea M0 ec ra R0 rc qc sk li ct z (hE.below hz) (by omega)
  have htes := hidden fun z (hz : Below w.heap.size w z) => rtestsQ_c qs v na N0 nc ea M0 ec ra R0 rc qc sk li ct z (hE.below hz) (by omega) (fun j => by have := hall j; omega)
  have hpass := hidden fun z (hz : Below w.heap.size w z) ta tc (ht : RowAt z ta (testR.flat (testsQ qs v))) => says_c (g.ns.getD k Nd.none).l (g.ns.getD k Nd.none).ps pa pc (testsQ qs v) ta tc z (hpr.below hz) hpl ht htl
  unfold fitN
  obtain ⟨x, hx⟩ : ∃ x, x = (w.alloc (.cells #[.slice (some ⟨gn, off, none⟩) n c, .slice b m d] 25)).alloc (.cells #[.slice na N0 nc, .slice ea M0 ec, .slice ra R0 rc, .bool qc, .int .i64 sk, .int .i64 li, .bool ct] 74) := ⟨_, rfl⟩
  have hB0 : Hid (Below w.heap.size w x) := by rw [hx]; exact ((Below.refl _ _).alloc (Nat.le_refl _) _).alloc (by simp) _
  have hX0 : Hid (x.heap[w.heap.size]? = some (.cells #[.slice (some ⟨gn, off, none⟩) n c, .slice b m d] 25)) := by
    rw [hx]
    exact (heap_alloc_old _ _ (by simp)).trans (heap_alloc_new w _)
  have hX1 : Hid (x.heap[w.heap.size + 1]? = some (.cells #[.slice na N0 nc, .slice ea M0 ec, .slice ra R0 rc, .bool qc, .int .i64 sk, .int .i64 li, .bool ct] 74)) := by
    rw [hx]
    have h := heap_alloc_new (w.alloc (.cells #[.slice (some ⟨gn, off, none⟩) n c, .slice b m d] 25)) (.cells #[.slice na N0 nc, .slice ea M0 ec, .slice ra R0 rc, .bool qc, .int .i64 sk, .int .i64 li, .bool ct] 74)
    rwa [show (w.alloc (.cells #[.slice (some ⟨gn, off, none⟩) n c, .slice b m d] 25)).heap.size = w.heap.size + 1 by simp] at h
  have e0 := (hB0.out.cell (p := ⟨gn, off + k * 2, none⟩) hbb).trans d0
  have e1 := (hB0.out.cell (p := ⟨gn, off + k * 2 + 1, none⟩) hbb).trans d1
  have hbx : gn < x.heap.size := Nat.lt_of_lt_of_le hbb hB0.out.size
  clear hO hs hpr hk2 hgn hE hl hall d0 d1 hbb
  generalize (g.ns.getD k Nd.none).l = l at *
  generalize (g.ns.getD k Nd.none).ps = ps at *
  generalize ps.length = pl at *
  have hcz : Hid (∀ z, Below x.heap.size x z → z.cell? ⟨w.heap.size, 0, none⟩ = some (.slice (some ⟨gn, off, none⟩) n c) ∧ z.cell? ⟨w.heap.size, 1, none⟩ = some (.slice b m d) ∧ z.cell? ⟨w.heap.size + 1, 0, none⟩ = some (.slice na N0 nc) ∧ z.cell? ⟨w.heap.size + 1, 1, none⟩ = some (.slice ea M0 ec) ∧ z.cell? ⟨w.heap.size + 1, 2, none⟩ = some (.slice ra R0 rc) ∧ z.cell? ⟨w.heap.size + 1, 3, none⟩ = some (.bool qc) ∧ z.cell? ⟨w.heap.size + 1, 4, none⟩ = some (.int .i64 sk) ∧ z.cell? ⟨w.heap.size + 1, 5, none⟩ = some (.int .i64 li) ∧ z.cell? ⟨w.heap.size + 1, 6, none⟩ = some (.bool ct) ∧ z.cell? ⟨gn, off + k * 2, none⟩ = some (.string l) ∧ z.cell? ⟨gn, off + k * 2 + 1, none⟩ = some (.slice pa pl pc)) := hidden fun z h => by
    obtain ⟨⟨q0, q1⟩, -⟩ := box2f (box_below hX0.out h)
    obtain ⟨p0, p1, p2, p3, p4, p5, p6⟩ := box7u (box_below hX1.out h)
    exact ⟨q0, q1, p0, p1, p2, p3, p4, p5, p6, (h.cell (p := ⟨gn, off + k * 2, none⟩) hbx).trans e0, (h.cell (p := ⟨gn, off + k * 2 + 1, none⟩) hbx).trans e1⟩
  have hyes := hidden fun h => allTx_yes (l := l) (L := labelsQ qs v) h
  have hno := hidden fun j hj h => allTx_no (l := l) (L := labelsQ qs v) (k := j) hj h
  generalize labelsQ qs v = LL at *
  generalize testsQ qs v = TT at *
  generalize TT.all (sayT ps) = tb at *
  generalize (LL.all fun y => l.toList == y.toList) = lb at *
  have hk' : (k : Int) < (n : Int) := by omega
  have hk0 : ¬ (k : Int) < 0 := by omega
  have hk1 : ¬ (n : Int) ≤ (k : Int) := by omega
  have hx2 := hidden hx
  clear e0 e1 hbx
  go_enter Try.func35, Try.ntmps35
  go_wp2_with fail
  rw [← hx]
  clear hx
  refine (hlab.out _ hB0.out).mono ?_
  rintro e y1 ⟨la, lc, rfl, hLo, hB⟩
  have k1 : Hid (Below x.heap.size x y1) := hidden (hB.mono (by exact Nat.le_refl _))
  have hLr := hidden (owns_tx hLo)
  clear hLo hB
  go_wp2_with fail
  go_loopw [10] (fun i wr => ∃ j : Nat, j ≤ LL.length ∧ i = .int .i64 j ∧ Hid (∀ q, q < j → (l.toList == (LL.getD q ⟨#[]⟩).toList) = true) ∧ Hid (Below y1.heap.size y1 wr))
    (fun i _ => LL.length - (intOf i).toNat)
  case atStart => exact ⟨0, Nat.zero_le _, rfl, hidden fun q hq => absurd hq (Nat.not_lt_zero q), hidden (Below.refl _ _)⟩
  case round =>
    obtain ⟨j, hj, rfl, hlow, hnx⟩ := hrel
    have hny : Hid (Below x.heap.size x wr) := hidden (k1.out.trans (hnx.out.mono k1.out.size))
    have hcr : Hid (∀ z, Below wr.heap.size wr z → z.cell? ⟨w.heap.size, 0, none⟩ = some (.slice (some ⟨gn, off, none⟩) n c) ∧ z.cell? ⟨w.heap.size, 1, none⟩ = some (.slice b m d) ∧ z.cell? ⟨w.heap.size + 1, 0, none⟩ = some (.slice na N0 nc) ∧ z.cell? ⟨w.heap.size + 1, 1, none⟩ = some (.slice ea M0 ec) ∧ z.cell? ⟨w.heap.size + 1, 2, none⟩ = some (.slice ra R0 rc) ∧ z.cell? ⟨w.heap.size + 1, 3, none⟩ = some (.bool qc) ∧ z.cell? ⟨w.heap.size + 1, 4, none⟩ = some (.int .i64 sk) ∧ z.cell? ⟨w.heap.size + 1, 5, none⟩ = some (.int .i64 li) ∧ z.cell? ⟨w.heap.size + 1, 6, none⟩ = some (.bool ct) ∧ z.cell? ⟨gn, off + k * 2, none⟩ = some (.string l) ∧ z.cell? ⟨gn, off + k * 2 + 1, none⟩ = some (.slice pa pl pc)) := hidden fun z h => hcz.out z (hny.out.trans (h.mono hny.out.size))
    by_cases hlt : j < LL.length
    · have hlt' : (j : Int) < (LL.length : Int) := by omega
      obtain ⟨lb9, lo9, rfl, hb9, f0⟩ := tx_in (hLr.out.below hnx.out) hlt
      have hSf : Hid (∀ z, Below wr.heap.size wr z → z.cell? ⟨w.heap.size, 0, none⟩ = some (.slice (some ⟨gn, off, none⟩) n c) ∧ z.cell? ⟨gn, off + k * 2, none⟩ = some (.string l) ∧ z.cell? ⟨lb9, lo9 + j, none⟩ = some (.string (LL.getD j ⟨#[]⟩))) := hidden fun z h => by
        obtain ⟨g0, -, -, -, -, -, -, -, -, g9, -⟩ := hcr.out z h
        exact ⟨g0, g9, (h.cell (p := ⟨lb9, lo9 + j, none⟩) hb9).trans f0⟩
      have hn1 := hidden (hno.out j hlt)
      have hlow2 : Hid ((l.toList == (LL.getD j ⟨#[]⟩).toList) = true → ∀ q, q < j + 1 → (l.toList == (LL.getD q ⟨#[]⟩).toList) = true) := hidden fun h q hq => by
        rcases Nat.lt_or_ge q j with h2 | h2
        · exact hlow.out q h2
        · obtain rfl : q = j := by omega
          exact h
      clear hlow f0 hb9
      generalize LL.getD j ⟨#[]⟩ = y9 at *
      have hsy : (y9.toList == l.toList) = (l.toList == y9.toList) := by
        cases h : (l.toList == y9.toList) with
        | true => rw [eq_of_beq h]; simp
        | false =>
          cases h2 : (y9.toList == l.toList) with
          | false => rfl
          | true => rw [eq_of_beq h2] at h; simp at h
      have hdw : Hid (Below wr.heap.size wr wr.drew) := hidden (Below.refl _ _).drew
      have hnx2 : Hid (Below y1.heap.size y1 wr.drew) := hidden (hnx.out.trans (hdw.out.mono hnx.out.size))
      obtain ⟨s0, s1, s2⟩ := hSf.out _ hdw.out
      obtain ⟨t0, t1, t2⟩ := hSf.out wr (Below.refl _ _)
      cases hq : (l.toList == y9.toList) with
      | true =>
        rw [hq] at hsy
        have h3 := hidden (hlow2.out hq)
        clear hlow2 hn1
        go_wp2_with fail
        go_region
        go_wp2
        go_roundw
        case rel => exact ⟨j + 1, by omega, by go_num, h3, by first | exact hnx2 | exact hnx⟩
        case measure => simp [intOf]; omega
      | false =>
        rw [hq] at hsy
        have h3 := hidden (hn1.out hq)
        have hfin : Hid (Below w.heap.size w wr.drew) := hidden (hB0.out.trans ((hny.out.trans (hdw.out.mono hny.out.size)).mono hB0.out.size))
        have hfin2 : Hid (Below w.heap.size w wr) := hidden (hB0.out.trans (hny.out.mono hB0.out.size))
        clear hlow2 hn1
        go_wp2_with fail
        go_region
        go_wp2
        go_ret
        exact ⟨by rw [h3.out]; rfl, by first | exact hfin.out | exact hfin2.out⟩
    · have hlt' : ¬ (j : Int) < (LL.length : Int) := by omega
      obtain rfl : j = LL.length := by omega
      have h3 := hidden (hyes.out hlow.out)
      have hwz : Hid (∀ z, Below wr.heap.size wr z → Below w.heap.size w z) := hidden fun z h => hB0.out.trans ((hny.out.trans (h.mono hny.out.size)).mono hB0.out.size)
      have kk : Hid (Below wr.heap.size wr wr.drew) := hidden (Below.refl _ _).drew
      have hS := hcr.out _ kk.out
      clear hlow hyes hno
      go_wp2_with fail
      go_region_held3 (fun z => z.cell? ⟨w.heap.size, 0, none⟩ = some (.slice (some ⟨gn, off, none⟩) n c) ∧ z.cell? ⟨w.heap.size, 1, none⟩ = some (.slice b m d) ∧ z.cell? ⟨w.heap.size + 1, 0, none⟩ = some (.slice na N0 nc) ∧ z.cell? ⟨w.heap.size + 1, 1, none⟩ = some (.slice ea M0 ec) ∧ z.cell? ⟨w.heap.size + 1, 2, none⟩ = some (.slice ra R0 rc) ∧ z.cell? ⟨w.heap.size + 1, 3, none⟩ = some (.bool qc) ∧ z.cell? ⟨w.heap.size + 1, 4, none⟩ = some (.int .i64 sk) ∧ z.cell? ⟨w.heap.size + 1, 5, none⟩ = some (.int .i64 li) ∧ z.cell? ⟨w.heap.size + 1, 6, none⟩ = some (.bool ct) ∧ z.cell? ⟨gn, off + k * 2, none⟩ = some (.string l) ∧ z.cell? ⟨gn, off + k * 2 + 1, none⟩ = some (.slice pa pl pc)) (first | exact hS | go_keep) (first
        | (go_at_call 61; refine (htes.out _ (hwz.out _ kk.out)).mono ?_; rintro e y9 ⟨ta, tc, rfl, hTo, hBz⟩
           have kk := hidden (kk.out.trans (hBz.mono kk.out.size))
           have hS := hcr.out y9 kk.out
           have oT := hidden (rowT5 hTo))
        | (go_at_call 28; refine (hpass.out _ (hwz.out _ kk.out) _ _ oT.out).mono ?_; rintro e y9 ⟨rfl, hBz⟩
           have kk := hidden (kk.out.trans (hBz.mono kk.out.size))
           have hS := hcr.out y9 kk.out
           skip)
        | fail)
      have hfin := hidden (hwz.out y9 kk.out)
      clear hcr hwz kk hS
      go_wp2
      go_ret
      exact ⟨by rw [h3.out]; rfl, hfin.out⟩
end Go.Proofs.Ytnmjhbnadfjapaa
/-
  THE NODES THAT MAY BE A VARIABLE's, by contract: the reference's; and no node out of bounds fits.
-/
namespace Go.Proofs.Ytnmjhbnadfjapaa
open Go.ChangeShapes Go.WideShapes Go.ChangeAt Go.RowKit Go.Maps

def nodesN (ns : List Nd) (qs : List Pl) (v : ByteArray) (k : Nat) : List Nat := (List.range k).filter fun i => fitN ns qs v i
theorem nodesN_succ (ns : List Nd) (qs : List Pl) (v : ByteArray) (k : Nat) : nodesN ns qs v (k + 1) = nodesN ns qs v k ++ (if fitN ns qs v k = true then [k] else []) := by
  unfold nodesN
  rw [List.range_succ, List.filter_append]
  congr 1
  rw [List.filter_cons, List.filter_nil]
theorem nodesN_len (ns : List Nd) (qs : List Pl) (v : ByteArray) (k : Nat) : (nodesN ns qs v k).length ≤ k := by
  unfold nodesN
  exact Nat.le_trans (List.length_filter_le _ _) (by rw [List.length_range]; exact Nat.le_refl _)
set_option maxHeartbeats 1600000 in
set_option maxRecDepth 100000 in
theorem fitsno_c (a : Option Addr) (n c : Nat) (b : Option Addr) (m d : Nat) (v : ByteArray) (na : Option Addr) (N0 nc : Nat) (ea : Option Addr) (M0 ec : Nat) (ra : Option Addr) (R0 rc : Nat) (qc : Bool) (sk li : Int) (ct : Bool) (k : Int) (w : World) (hk : k < 0 ∨ (n : Int) ≤ k) :
    Calls Try.prog 34 #[.agg #[.slice a n c, .slice b m d], .int .i64 k, .agg #[.slice na N0 nc, .slice ea M0 ec, .slice ra R0 rc, .bool qc, .int .i64 sk, .int .i64 li, .bool ct], .string v] w fun e w' => e = .returned (.bool false) ∧ Below w.heap.size w w' := by
  have hB0 : Hid (Below w.heap.size w ((w.alloc (.cells #[.slice a n c, .slice b m d] 25)).alloc (.cells #[.slice na N0 nc, .slice ea M0 ec, .slice ra R0 rc, .bool qc, .int .i64 sk, .int .i64 li, .bool ct] 74))) := ((Below.refl _ _).alloc (Nat.le_refl _) _).alloc (by simp) _
  by_cases h0 : k < 0
  · clear hk
    go_enter Try.func34, Try.ntmps34
    go_wp2
    go_ret
    exact ⟨rfl, hB0.out⟩
  · have h1 : (n : Int) ≤ k := by omega
    clear hk
    go_enter Try.func34, Try.ntmps34
    go_wp2
    go_ret
    exact ⟨rfl, hB0.out⟩
set_option maxHeartbeats 1600000 in
set_option maxRecDepth 100000 in
theorem rfitsno_c (a : Option Addr) (n c : Nat) (b : Option Addr) (m d : Nat) (v : ByteArray) (na : Option Addr) (N0 nc : Nat) (ea : Option Addr) (M0 ec : Nat) (ra : Option Addr) (R0 rc : Nat) (qc : Bool) (sk li : Int) (ct : Bool) (k : Int) (w : World) (hk : k < 0 ∨ (n : Int) ≤ k) :
    Calls Try.prog 35 #[.agg #[.slice a n c, .slice b m d], .int .i64 k, .agg #[.slice na N0 nc, .slice ea M0 ec, .slice ra R0 rc, .bool qc, .int .i64 sk, .int .i64 li, .bool ct], .string v] w fun e w' => e = .returned (.bool false) ∧ Below w.heap.size w w' := by
  have hB0 : Hid (Below w.heap.size w ((w.alloc (.cells #[.slice a n c, .slice b m d] 25)).alloc (.cells #[.slice na N0 nc, .slice ea M0 ec, .slice ra R0 rc, .bool qc, .int .i64 sk, .int .i64 li, .bool ct] 74))) := ((Below.refl _ _).alloc (Nat.le_refl _) _).alloc (by simp) _
  by_cases h0 : k < 0
  · clear hk
    go_enter Try.func35, Try.ntmps35
    go_wp2
    go_ret
    exact ⟨rfl, hB0.out⟩
  · have h1 : (n : Int) ≤ k := by omega
    clear hk
    go_enter Try.func35, Try.ntmps35
    go_wp2
    go_ret
    exact ⟨rfl, hB0.out⟩
set_option maxHeartbeats 3200000 in
set_option maxRecDepth 100000 in
theorem rnodes_c (g : Gr) (vs : List NdV) (a : Option Addr) (n c : Nat) (b : Option Addr) (m d : Nat) (qs : List Pl) (v : ByteArray) (na : Option Addr) (N0 nc : Nat) (ea : Option Addr) (M0 ec : Nat) (ra : Option Addr) (R0 rc : Nat) (qc : Bool) (sk li : Int) (ct : Bool) (w : World) (hO : OwnG g vs a n c b m d w) (hs : g.sm) (hE : HoldsP w (.slice na N0 nc) qs) (hl : qs.length ≤ 1000) (hall : ∀ j, (testsQ (qs.take j) v).length ≤ 1000) :
    Calls Try.prog 39 #[.agg #[.slice a n c, .slice b m d], .agg #[.slice na N0 nc, .slice ea M0 ec, .slice ra R0 rc, .bool qc, .int .i64 sk, .int .i64 li, .bool ct], .string v] w fun e w' => ∃ u, e = .returned u ∧ w'.ownsRow w.heap.size 3 1 u (nodesN g.ns qs v g.ns.length).length (natR.flat (nodesN g.ns qs v g.ns.length)) ∧ Below w.heap.size w w' := by
  obtain ⟨ii, hii, hi0, hi1, hi2⟩ := info_parts infoIn
  obtain ⟨hgn, -⟩ := hO.len
  have hn0 : n ≤ 1000 := by rw [hgn]; exact hs.1
  obtain ⟨x, hx⟩ : ∃ x, x = (w.alloc (.cells #[.slice a n c, .slice b m d] 25)).alloc (.cells #[.slice na N0 nc, .slice ea M0 ec, .slice ra R0 rc, .bool qc, .int .i64 sk, .int .i64 li, .bool ct] 74) := ⟨_, rfl⟩
  have hB0 : Hid (Below w.heap.size w x) := by rw [hx]; exact ((Below.refl _ _).alloc (Nat.le_refl _) _).alloc (by simp) _
  have hX0 : Hid (x.heap[w.heap.size]? = some (.cells #[.slice a n c, .slice b m d] 25)) := by
    rw [hx]
    exact (heap_alloc_old _ _ (by simp)).trans (heap_alloc_new w _)
  have hX1 : Hid (x.heap[w.heap.size + 1]? = some (.cells #[.slice na N0 nc, .slice ea M0 ec, .slice ra R0 rc, .bool qc, .int .i64 sk, .int .i64 li, .bool ct] 74)) := by
    rw [hx]
    have h := heap_alloc_new (w.alloc (.cells #[.slice a n c, .slice b m d] 25)) (.cells #[.slice na N0 nc, .slice ea M0 ec, .slice ra R0 rc, .bool qc, .int .i64 sk, .int .i64 li, .bool ct] 74)
    rwa [show (w.alloc (.cells #[.slice a n c, .slice b m d] 25)).heap.size = w.heap.size + 1 by simp] at h
  have hfit := hidden fun z (hz : Below w.heap.size w z) k hk => rfits_c g vs a n c b m d qs v na N0 nc ea M0 ec ra R0 rc qc sk li ct k z (hO.calm hz) hs hk (hE.below hz) hl hall
  generalize g.ns = ns at *
  rw [← hgn]
  clear hO hs hgn hE hl hall
  have hxs : x.heap.size = w.heap.size + 2 := by rw [hx]; simp
  have hcz : Hid (∀ z, Below x.heap.size x z → z.cell? ⟨w.heap.size, 0, none⟩ = some (.slice a n c) ∧ z.cell? ⟨w.heap.size, 1, none⟩ = some (.slice b m d) ∧ z.cell? ⟨w.heap.size + 1, 0, none⟩ = some (.slice na N0 nc) ∧ z.cell? ⟨w.heap.size + 1, 1, none⟩ = some (.slice ea M0 ec) ∧ z.cell? ⟨w.heap.size + 1, 2, none⟩ = some (.slice ra R0 rc) ∧ z.cell? ⟨w.heap.size + 1, 3, none⟩ = some (.bool qc) ∧ z.cell? ⟨w.heap.size + 1, 4, none⟩ = some (.int .i64 sk) ∧ z.cell? ⟨w.heap.size + 1, 5, none⟩ = some (.int .i64 li) ∧ z.cell? ⟨w.heap.size + 1, 6, none⟩ = some (.bool ct)) := hidden fun z h => by
    obtain ⟨⟨q0, q1⟩, -⟩ := box2f (box_below hX0.out h)
    exact ⟨q0, q1, box7u (box_below hX1.out h)⟩
  go_enter Try.func39, Try.ntmps39
  go_wp2_with fail
  rw [← hx]
  replace hx := hidden hx
  (first | rw [← hxs] | skip)
  have hO0 : Hid ((x.alloc (.cells #[] 3)).ownsRow x.heap.size 3 1 (.slice (some ⟨x.heap.size, 0, none⟩) 0 0) (nodesN ns qs v 0).length (natR.flat (nodesN ns qs v 0))) := hidden (World.ownsRow_made (base := x.heap.size) (e := 3) (size := 1) x #[] 0 (Nat.le_refl _) (by unfold maxLen; omega) rfl)
  have hk0 : Hid (Below x.heap.size x (x.alloc (.cells #[] 3))) := hidden ((Below.refl _ _).alloc (Nat.le_refl _) _)
  have hlow : Hid (w.heap.size ≤ x.heap.size) := hidden (by omega)
  clear hxs
  generalize x.alloc (.cells #[] 3) = x2 at *
  go_loopw [7, 8] (fun u i wr => ∃ k : Nat, k ≤ n ∧ i = .int .i64 k ∧ Hid (wr.ownsRow x.heap.size 3 1 u (nodesN ns qs v k).length (natR.flat (nodesN ns qs v k))) ∧ Hid (Below x.heap.size x wr))
    (fun _ i _ => n - (intOf i).toNat)
  case atStart => exact ⟨0, Nat.zero_le _, rfl, hO0, hk0⟩
  case round =>
    clear hO0 hk0
    obtain ⟨k, hk, rfl, hown, hnx⟩ := hrel
    obtain ⟨oa, oc, rfl⟩ := own_shape hown.out
    obtain ⟨b0, b1, s0, s1, s2, s3, s4, s5, s6⟩ := hcz.out wr hnx.out
    by_cases hlt : k < n
    · have hlt' : (k : Int) < (n : Int) := by omega
      have hby : Hid (Below w.heap.size w wr) := hidden (hB0.out.trans (hnx.out.mono hB0.out.size))
      have hft := hfit.out wr hby.out k hlt
      have hsu := hidden (nodesN_succ ns qs v k)
      have hln := nodesN_len ns qs v k
      generalize fitN ns qs v k = bb at *
      clear hby
      go_wp2_with fail
      refine hft.mono ?_
      rintro e q2 ⟨rfl, hBz⟩
      have hn2 : Hid (Below x.heap.size x q2) := hidden (hnx.out.trans (hBz.mono hnx.out.size))
      have ho2 := hidden (owns_keep hown.out hBz)
      have hws : x.heap.size ≤ q2.heap.size := hn2.out.size
      clear hBz hft hown hnx b0 b1 s0 s1 s2 s3 s4 s5 s6
      cases bb with
      | true =>
        have hone := hidden (SlR.oneR (R := natR) q2 k 3)
        go_wp2_with (at_builtin; go_loud (refine wpList_appT _ natR rfl _ _ 47 rfl x.heap.size 3 ii (.int .i64 0) 1 8 Try.underlying47 hii hi0 hi1 hi2 rfl rfl rfl (owns_keep ho2.out ((Below.refl _ _).alloc (Nat.le_refl _) _)) rfl (hone.out) (by show _ + 1 ≤ _; unfold maxLen; omega) (by show (_ + 1) * 8 ≤ _; omega) (by show _ ≤ (q2.heap.push _).size; simp; omega) ?_); intro v' w5 hown5 hgrow5)
        have hk5 : Hid (Below x.heap.size x w5) := hidden ((hn2.out.alloc hn2.out.size _).grown hgrow5 (hn2.out.alloc hn2.out.size (.cells #[.int .i64 (k : Int)] 3)).size (fun j hj => (ho2.out.lt j hj).1))
        have hO5 : Hid (w5.ownsRow x.heap.size 3 1 v' (nodesN ns qs v (k + 1)).length (natR.flat (nodesN ns qs v (k + 1)))) := hidden (by
          rw [hsu.out]
          simp only [if_true]
          rw [List.length_append, Rec.flat_app]
          exact hown5)
        clear hown5 hgrow5 ho2 hn2 hone
        go_wp2
        go_roundw
        case rel => exact ⟨k + 1, by omega, by go_num, hO5, hk5⟩
        case measure => simp [intOf]; omega
      | false =>
        have hO5 : Hid (q2.ownsRow x.heap.size 3 1 (.slice oa (nodesN ns qs v k).length oc) (nodesN ns qs v (k + 1)).length (natR.flat (nodesN ns qs v (k + 1)))) := hidden (by
          rw [hsu.out]
          simp only [Bool.false_eq_true, if_false, List.append_nil]
          exact ho2.out)
        clear ho2
        go_wp2
        go_roundw
        case rel => exact ⟨k + 1, by omega, by go_num, hO5, hn2⟩
        case measure => simp [intOf]; omega
    · have hlt' : ¬ (k : Int) < (n : Int) := by omega
      obtain rfl : n = k := by omega
      have hfin := hidden (own_le2 hown.out hlow.out)
      have hbf : Hid (Below w.heap.size w wr) := hidden (hB0.out.trans (hnx.out.mono hB0.out.size))
      clear hown
      go_wp2
      go_ret
      exact ⟨_, rfl, hfin.out, hbf.out⟩
end Go.Proofs.Ytnmjhbnadfjapaa
/-
  WHAT LAWS OVER A GRAPH SHARE: taken once more, checked.
-/
namespace Go.Proofs.Ytnmjhbnadfjapaa
open Go.ChangeShapes Go.WideShapes Go.ChangeAt Go.RowKit

theorem cell_str {P : Program} {w : World} {r : Reach} {base : Nat} {u : TypeId} {x : Value} (hu : P.underlying u = some .string) (h : Cell.okWide P w r base u x) : ∃ s, x = .string s := by
  unfold Cell.okWide at h
  rw [hu] at h
  unfold Cell.ok at h
  rw [hu] at h
  cases x <;> simp_all
theorem cell_bool {P : Program} {w : World} {r : Reach} {base : Nat} {u : TypeId} {x : Value} (hu : P.underlying u = some .bool) (h : Cell.okWide P w r base u x) : ∃ b, x = .bool b := by
  unfold Cell.okWide at h
  rw [hu] at h
  unfold Cell.ok at h
  rw [hu] at h
  cases x <;> simp_all
theorem OwnG.below {g : Gr} {vs : List NdV} {a : Option Addr} {n c : Nat} {b : Option Addr} {m d : Nat} {x y : World} (h : OwnG g vs a n c b m d x) (hB : Below x.heap.size x y) : OwnG g vs a n c b m d y := h.keep (.of_below hB)
theorem few_b (g : Gr) (vs : List NdV) (a : Option Addr) (n c : Nat) (b : Option Addr) (m d : Nat) (w : World) (hg : OwnG g vs a n c b m d w) (hf : g.few = g) (hs : g.sm) :
    Calls Try.prog 7 #[.agg #[.slice a n c, .slice b m d]] w fun e w' => ∃ (us : List NdV) (a' : Option Addr) (n' c' : Nat) (b' : Option Addr) (m' d' : Nat), e = .returned (.agg #[.slice a' n' c', .slice b' m' d']) ∧ OwnG g us a' n' c' b' m' d' w' ∧ Below w.heap.size w w' :=
  (gfew_c g _ _ w hg.holds (by have := hs.1; omega) (by have := hs.2.2.1; omega) (fun x hx => by have := (hs.2.1 x hx).2.1; omega)).mono fun e w' ⟨us, a', n', c', b', m', d', he, h1, h2, hB⟩ => by
    rw [hf] at h1 h2
    exact ⟨us, a', n', c', b', m', d', he, ⟨h1, h2⟩, hB⟩
theorem rggood_c (g : Gr) (vs : List NdV) (a : Option Addr) (n c : Nat) (b : Option Addr) (m d : Nat) (w : World) (hg : OwnG g vs a n c b m d w) (hs : g.sm) :
    Calls Try.prog 26 #[.agg #[.slice a n c, .slice b m d]] w fun e w' => e = .returned (.bool ((checkG g).2 == 0)) ∧ Below w.heap.size w w' := by
  have hB0 := (Below.refl w.heap.size w).alloc (Nat.le_refl _) (.cells #[.slice a n c, .slice b m d] 25)
  have hX := heap_alloc_new w (.cells #[.slice a n c, .slice b m d] 25)
  have hc := rcheck_c g vs a n c b m d _ (hg.calm hB0) hs
  obtain ⟨⟨b0, b1⟩, -⟩ := box2f hX
  replace hB0 := hidden hB0
  clear hX hg hs
  generalize (checkG g).1 = p at *
  generalize (checkG g).2 = q at *
  go_enter Try.func26, Try.ntmps26
  go_wp2_with fail
  refine hc.mono ?_
  rintro e w5 ⟨rfl, hB5⟩
  have hBL : Hid (Below w.heap.size w w5) := hB0.out.trans (hB5.mono hB0.out.size)
  clear hB5 hB0 b0 b1 hc
  go_wp2
  go_ret
  exact ⟨by first | done | rfl, hBL.out⟩
end Go.Proofs.Ytnmjhbnadfjapaa
/-
  THE ROWS OF WHICH test.Nodes TAKES WHAT ALL HAVE: mathematics, and how they lie.
-/
namespace Go.Proofs.Ytnmjhbnadfjapaa
open Go.ChangeShapes Go.WideShapes Go.ChangeAt Go.RowKit Go.Maps

theorem slX {w : World} {B : Nat} {v : Value} {X : List Nat} (h : w.ownsRow B 3 1 v X.length (natR.flat X)) : ∃ a c, v = .slice a X.length c ∧ Sl w (.slice a X.length c) (ints X) := by
  obtain ⟨a, c, h1, h2, h3, h4, h5⟩ := slR_of_owns (R := natR) h
  rw [natR_flat] at h5
  exact ⟨a, c, h1, a, c, by unfold ints; rw [List.length_map], by unfold ints; rw [List.length_map]; exact h2, h3, h4, h5⟩
theorem natI (X : List Nat) : intR.flat (X.map fun (i : Nat) => (i : Int)) = natR.flat X := by
  induction X with
  | nil => rfl
  | cons x r ih => rw [List.map_cons, Rec.flat_cons, Rec.flat_cons, ih]; rfl
/-- Numbers below n of which p holds. -/
theorem range_L (n : Nat) (p : Nat → Bool) (h : n ≤ 65536) : (List.range n).filter p = L fun k => decide (k < n) && p k := by
  unfold L
  have e : List.range 65536 = List.range n ++ (List.range (65536 - n)).map (fun i => n + i) := by
    rw [← List.range_add, show n + (65536 - n) = 65536 by omega]
  rw [e, List.filter_append]
  have h2 : ((List.range (65536 - n)).map (fun i => n + i)).filter (fun k => decide (k < n) && p k) = [] := by
    rw [List.filter_eq_nil_iff]
    intro x hx
    obtain ⟨i, _, rfl⟩ := List.mem_map.1 hx
    rw [decide_eq_false (by omega)]
    simp
  rw [h2, List.append_nil]
  refine List.filter_congr fun k hk => ?_
  rw [decide_eq_true (List.mem_range.1 hk), Bool.true_and]
def labP (ns : List Nd) (s : ByteArray) (k : Nat) : Bool := decide (k < ns.length) && ((ns.getD k Nd.none).l.toList == s.toList)
def tesP (ns : List Nd) (t : Tst) (k : Nat) : Bool := decide (k < ns.length) && [t].all (sayT (ns.getD k Nd.none).ps)
theorem labN_P (ns : List Nd) (s : ByteArray) (h : ns.length ≤ 65536) : labN ns ns.length s = L (labP ns s) := range_L _ _ h
theorem tesN_P (ns : List Nd) (t : Tst) (h : ns.length ≤ 65536) : bothN ns [t] ns.length = L (tesP ns t) := range_L _ _ h
/-- What the rows say, one after the other. -/
def predsQ (ns : List Nd) (qs : List Pl) (v : ByteArray) : List (Nat → Bool) := (labelsQ qs v).map (labP ns) ++ (testsQ qs v).map (tesP ns)
theorem predsQ_len (ns : List Nd) (qs : List Pl) (v : ByteArray) : (predsQ ns qs v).length = (labelsQ qs v).length + (testsQ qs v).length := by
  unfold predsQ
  rw [List.length_append, List.length_map, List.length_map]
theorem nodes_none (ns : List Nd) (qs : List Pl) (v : ByteArray) (h : (predsQ ns qs v).length = 0) : nodesN ns qs v ns.length = List.range ns.length := by
  rw [predsQ_len] at h
  have h1 : labelsQ qs v = [] := List.eq_nil_of_length_eq_zero (by omega)
  have h2 : testsQ qs v = [] := List.eq_nil_of_length_eq_zero (by omega)
  unfold nodesN
  rw [List.filter_eq_self]
  intro k _
  unfold fitN
  rw [h1, h2]
  rfl
theorem preds_fit (ns : List Nd) (qs : List Pl) (v : ByteArray) (h : predsQ ns qs v ≠ []) (k : Nat) : (predsQ ns qs v).all (fun p => p k) = (decide (k < ns.length) && fitN ns qs v k) := by
  by_cases hk : k < ns.length
  · rw [decide_eq_true hk, Bool.true_and]
    unfold predsQ fitN
    rw [List.all_append, List.all_map, List.all_map]
    congr 1
    · congr 1
      funext s
      simp [labP, hk]
    · congr 1
      funext t
      simp [tesP, hk]
  · rw [decide_eq_false hk, Bool.false_and]
    have key : ∀ p ∈ predsQ ns qs v, p k = false := by
      intro p hp
      unfold predsQ at hp
      rcases List.mem_append.1 hp with hp | hp
      · obtain ⟨s, _, rfl⟩ := List.mem_map.1 hp
        simp [labP, hk]
      · obtain ⟨t, _, rfl⟩ := List.mem_map.1 hp
        simp [tesP, hk]
    match e : predsQ ns qs v, h with
    | p :: r, _ =>
      rw [e] at key
      rw [List.all_cons, key p (List.mem_cons_self ..), Bool.false_and]
theorem nodes_L (ns : List Nd) (qs : List Pl) (v : ByteArray) (hn : ns.length ≤ 65536) (h : predsQ ns qs v ≠ []) : nodesN ns qs v ns.length = L fun k => (predsQ ns qs v).all fun p => p k := by
  unfold nodesN
  rw [range_L _ _ hn]
  congr 1
  funext k
  exact (preds_fit ns qs v h k).symm
def noP : Nat → Bool := fun _ => false
theorem join_L (p : Nat → Bool) (r : List (Nat → Bool)) : (L p).filter (rowF (fun i => r.getD i noP) r.length) = L fun k => (p :: r).all fun p => p k := by
  unfold L
  rw [List.filter_filter]
  refine List.filter_congr fun k _ => ?_
  rw [List.all_cons, Bool.and_comm]
  congr 1
  unfold rowF
  rw [Bool.eq_iff_iff, List.all_eq_true, List.all_eq_true]
  constructor
  · intro h x hx
    obtain ⟨i, hi, rfl⟩ := List.mem_iff_getElem.1 hx
    have := h i (List.mem_range.2 hi)
    simpa [List.getD, List.getElem?_eq_getElem hi] using this
  · intro h i hi
    have hi := List.mem_range.1 hi
    have := h r[i] (List.getElem_mem hi)
    simpa [List.getD, List.getElem?_eq_getElem hi] using this
/-- Rows of numbers, each in memory of its own. -/
structure RowsI (B : Nat) (w : World) (xs : List Value) (P : List (Nat → Bool)) : Prop where
  len : xs.length = P.length
  each : ∀ i v, xs[i]? = some v → w.ownsRow B 3 1 v (L (P.getD i noP)).length (natR.flat (L (P.getD i noP)))
theorem RowsI.below {B : Nat} {w z : World} {xs : List Value} {P : List (Nat → Bool)} (h : RowsI B w xs P) (hB : Below w.heap.size w z) : RowsI B z xs P := ⟨h.len, fun i v hi => owns_keep (h.each i v hi) hB⟩
theorem own_oth2 {x z : World} {B B' t t' s s' n n' : Nat} {u v : Value} {xs ys : List Value} (h : x.ownsRow B t s v n xs) (ho : x.ownsRow B' t' s' u n' ys) (hne : t' ≠ t) (hg : x.grownBy z u.ownBlock) : z.ownsRow B t s v n xs := by
  obtain ⟨hl, h3⟩ := h
  refine ⟨hl, ?_⟩
  rcases h3 with h3 | ⟨g, cap, cur, e1, e2, e3, e4⟩
  · exact .inl h3
  · exact .inr ⟨g, cap, cur, e1, e2, box_grown e3 ho hne hg, e4⟩
theorem RowsI.grown {B : Nat} {x z : World} {xs : List Value} {P : List (Nat → Bool)} (h : RowsI B x xs P) {B' t' s' n' : Nat} {u : Value} {ys : List Value} (ho : x.ownsRow B' t' s' u n' ys) (hne : t' ≠ 3) (hg : x.grownBy z u.ownBlock) : RowsI B z xs P :=
  ⟨h.len, fun i v hi => own_oth2 (h.each i v hi) ho hne hg⟩
theorem RowsI.snoc {B : Nat} {w : World} {xs : List Value} {P : List (Nat → Bool)} (h : RowsI B w xs P) {v : Value} {p : Nat → Bool} (hv : w.ownsRow B 3 1 v (L p).length (natR.flat (L p))) : RowsI B w (xs ++ [v]) (P ++ [p]) := by
  refine ⟨by rw [List.length_append, List.length_append, h.len]; rfl, fun i u hi => ?_⟩
  by_cases hlt : i < xs.length
  · rw [List.getElem?_append_left hlt] at hi
    rw [List.getD_eq_getElem?_getD, List.getElem?_append_left (by rw [← h.len]; exact hlt), ← List.getD_eq_getElem?_getD]
    exact h.each i u hi
  · rw [List.getElem?_append_right (by omega)] at hi
    by_cases h0 : i - xs.length = 0
    · rw [h0] at hi
      cases hi
      rw [List.getD_eq_getElem?_getD, List.getElem?_append_right (by rw [← h.len]; omega), ← h.len, h0]
      exact hv
    · rw [List.getElem?_eq_none (by simp; omega)] at hi
      cases hi
theorem RowsI.nil {B : Nat} {w : World} : RowsI B w [] [] := ⟨rfl, fun i v hi => by simp at hi⟩
theorem RowsI.cells {B : Nat} {w : World} {xs : List Value} {P : List (Nat → Bool)} (h : RowsI B w xs P) : ∀ u ∈ xs, u.oneCell' = true := by
  intro u hu
  obtain ⟨i, hi, rfl⟩ := List.mem_iff_getElem.1 hu
  obtain ⟨a, c, e, _⟩ := slX (h.each i _ (List.getElem?_eq_getElem hi))
  rw [e]; rfl
/-- What all rows have in common. -/
theorem commonR_c {B : Nat} (g cap : Nat) (v0 : Value) (xs : List Value) (p : Nat → Bool) (P : List (Nat → Bool)) (n : Nat) (hn : n = (v0 :: xs).length) (w : World) (h : Sl w (.slice (some ⟨g, 0, none⟩) n cap) (v0 :: xs)) (hR : RowsI B w (v0 :: xs) (p :: P)) (hl : xs.length ≤ 1000) :
    Calls Try.prog 32 #[.slice (some ⟨g, 0, none⟩) n cap] w fun e w' => ∃ v', e = .returned v' ∧ Holds w' v' (ints (L fun k => (p :: P).all fun p => p k)) ∧ Below w.heap.size w w' := by
  subst hn
  obtain ⟨a0, c0, rfl, h0⟩ := slX (hR.each 0 v0 rfl)
  have hlen : xs.length = P.length := by have := hR.len; simpa using this
  have hX : L p = L ((p :: P).getD 0 noP) := rfl
  have hcom := com_of p (fun i => P.getD i noP) P.length
  rw [← hlen] at hcom
  have hj := join_L p P
  rw [← hlen] at hj
  rw [← hj]
  refine (common_c g 0 cap a0 c0 xs (L p) (fun i => L (P.getD i noP)) _ (fun i => P.getD i noP) w h (fun u hu => hR.cells u (List.mem_cons_of_mem _ hu)) hl h0 (fun i v hi => ?_) (hidden hcom)).mono ?_
  · obtain ⟨a, c, rfl, h2⟩ := slX (hR.each (i + 1) v hi)
    exact h2
  · rintro e w' ⟨v', rfl, h1, h2⟩
    exact ⟨v', rfl, h1, h2⟩
end Go.Proofs.Ytnmjhbnadfjapaa
/-
  THE NODES THAT A VARIABLE MAY HAVE, by contract: the program's, out of columns or out of none.
-/
namespace Go.Proofs.Ytnmjhbnadfjapaa
open Go.ChangeShapes Go.WideShapes Go.ChangeAt Go.RowKit Go.Maps

def resN (A : List Nat) : List (Nat → Bool) → List Nat
  | [] => A
  | p :: r => L fun k => (p :: r).all fun q => q k
set_option maxHeartbeats 1600000 in
set_option maxRecDepth 100000 in
theorem nodesG_c (cv : Value) (pl : ByteArray → Nat → Bool) (pt : Tst → Nat → Bool) (A : List Nat) (qs : List Pl) (v : ByteArray) (na : Option Addr) (N0 nc : Nat) (ea : Option Addr) (M0 ec : Nat) (ra : Option Addr) (R0 rc : Nat) (qc : Bool) (sk li : Int) (ct : Bool) (w : World) (hE : HoldsP w (.slice na N0 nc) qs) (hl : qs.length ≤ 400) (hall : ∀ j, (testsQ (qs.take j) v).length ≤ 400)
    (hW : ∀ z, Below w.heap.size w z → ∀ s, s ∈ labelsQ qs v → Calls Try.prog 18 #[cv, .string s] z fun e w' => ∃ u, e = .returned u ∧ w'.ownsRow z.heap.size 3 1 u (L (pl s)).length (natR.flat (L (pl s))) ∧ Below z.heap.size z w')
    (hT : ∀ z, Below w.heap.size w z → ∀ t, t ∈ testsQ qs v → Calls Try.prog 30 #[cv, .agg #[.string t.s, .int .i64 t.o, .int .i64 t.k, .int .i64 t.n, .string t.t]] z fun e w' => ∃ u, e = .returned u ∧ w'.ownsRow z.heap.size 3 1 u (L (pt t)).length (natR.flat (L (pt t))) ∧ Below z.heap.size z w')
    (hA : ∀ z, Below w.heap.size w z → Calls Try.prog 16 #[cv] z fun e w' => ∃ u, e = .returned u ∧ Holds w' u (ints A) ∧ Below z.heap.size z w') :
    Calls Try.prog 36 #[cv, .agg #[.slice na N0 nc, .slice ea M0 ec, .slice ra R0 rc, .bool qc, .int .i64 sk, .int .i64 li, .bool ct], .string v] w fun e w' => ∃ u, e = .returned u ∧ Holds w' u (ints (resN A ((labelsQ qs v).map pl ++ (testsQ qs v).map pt))) ∧ Below w.heap.size w w' := by
  obtain ⟨iw, hiw, hw0, hw1, hw2⟩ := info_parts infoRow
  have htl : (testsQ qs v).length ≤ 400 := by have := hall qs.length; rwa [List.take_length] at this
  have hll : (labelsQ qs v).length ≤ 400 := Nat.le_trans (labelsQ_le qs v) hl
  have hlab := hidden fun z (hz : Below w.heap.size w z) => qlabelsQ_c qs v na N0 nc ea M0 ec ra R0 rc qc sk li ct z (hE.below hz) (by omega)
  have htes := hidden fun z (hz : Below w.heap.size w z) => qtestsQ_c qs v na N0 nc ea M0 ec ra R0 rc qc sk li ct z (hE.below hz) (by omega) (fun j => by have := hall j; omega)
  obtain ⟨x, hx⟩ : ∃ x, x = w.alloc (.cells #[.slice na N0 nc, .slice ea M0 ec, .slice ra R0 rc, .bool qc, .int .i64 sk, .int .i64 li, .bool ct] 74) := ⟨_, rfl⟩
  have hB0 : Hid (Below w.heap.size w x) := by rw [hx]; exact (Below.refl _ _).alloc (Nat.le_refl _) _
  have hX0 : Hid (x.heap[w.heap.size]? = some (.cells #[.slice na N0 nc, .slice ea M0 ec, .slice ra R0 rc, .bool qc, .int .i64 sk, .int .i64 li, .bool ct] 74)) := by rw [hx]; exact heap_alloc_new w _
  replace hW := hidden hW
  replace hT := hidden hT
  replace hA := hidden hA
  clear hE hl hall
  generalize labelsQ qs v = LL at *
  generalize testsQ qs v = TT at *
  obtain ⟨q0, q1, q2, q3, q4, q5, q6⟩ := box7u hX0.out
  subst hx
  go_enter Try.func36, Try.ntmps36
  go_wp2_with fail
  generalize w.alloc (.cells #[.slice na N0 nc, .slice ea M0 ec, .slice ra R0 rc, .bool qc, .int .i64 sk, .int .i64 li, .bool ct] 74) = x at *
  clear q0 q1 q2 q3 q4 q5 q6
  refine (hlab.out _ hB0.out).mono ?_
  rintro e y1 ⟨la, lc, rfl, hLo, hB⟩
  have k1 : Hid (Below x.heap.size x y1) := hidden hB
  have hLr := hidden (owns_tx hLo)
  have hB1 : Hid (Below w.heap.size w y1) := hidden (hB0.out.trans (hB.mono hB0.out.size))
  have hX1 := hidden (box_below hX0.out hB)
  clear hLo hB k1 hX0 hB0
  go_wp2_with fail
  go_loopw [7, 16] (fun u i wr => ∃ (j : Nat) (xs : List Value), j ≤ LL.length ∧ i = .int .i64 j ∧ Hid (wr.ownsRow y1.heap.size 47 1 u xs.length xs) ∧ Hid (RowsI y1.heap.size wr xs ((LL.take j).map pl)) ∧ Hid (Below y1.heap.size y1 wr))
    (fun _ i _ => LL.length - (intOf i).toNat)
  case atStart => exact ⟨0, [], Nat.zero_le _, rfl, hidden (World.ownsRow_nil ..), hidden RowsI.nil, hidden (Below.refl _ _)⟩
  case round =>
    obtain ⟨j, xs, hj, rfl, hown, hrow, hnx⟩ := hrel
    obtain ⟨oa, oc, rfl⟩ := own_shape hown.out
    have hxl : Hid (xs.length = j) := hidden (by rw [hrow.out.len, List.length_map, List.length_take]; omega)
    have hny : Hid (Below w.heap.size w wr) := hidden (hB1.out.trans (hnx.out.mono hB1.out.size))
    by_cases hlt : j < LL.length
    · have hlt' : (j : Int) < (LL.length : Int) := by omega
      obtain ⟨lb9, lo9, rfl, -, f0⟩ := tx_in (hLr.out.below hnx.out) hlt
      have hsn := hidden (take_snocR LL ⟨#[]⟩ j hlt)
      have hws := hidden (hW.out wr hny.out (LL.getD j ⟨#[]⟩) (getD_memG hlt))
      generalize LL.getD j ⟨#[]⟩ = s at *
      go_wp2_with fail
      refine hws.out.mono ?_
      rintro e z ⟨u2, rfl, hown2, hBz⟩
      have hn2 : Hid (Below y1.heap.size y1 z) := hidden (hnx.out.trans (hBz.mono hnx.out.size))
      have hO2 := hidden (owns_keep hown.out hBz)
      have hR2 := hidden ((hrow.out.below hBz).snoc (own_le2 hown2 hnx.out.size))
      obtain ⟨ua, uc, rfl⟩ := own_shape hown2
      have hxb : xs.length ≤ 400 := by rw [hxl.out]; omega
      have hzs : Hid (y1.heap.size ≤ z.heap.size) := hidden hn2.out.size
      clear hown2 hBz hown hrow hnx hny f0 hws
      go_wp2_with (at_builtin; go_loud (refine wpList_append_own _ rfl _ _ 106 rfl y1.heap.size 47 iw (.slice none 0 0) 1 24 Try.underlying106 hiw hw0 hw1 hw2 rfl (by decide) (.slice oa xs.length oc) _ _ rfl (hO2.out.alloc _) ⟨_, 0, none⟩ 1 1 [.slice ua (L (pl s)).length uc] rfl rfl (cells_new _ [_] _) (by simp [Value.oneCell']) (by unfold maxLen; omega) (by omega) (by have := hzs.out; simp; omega) ?_); intro v' w6 hown6 hgrow6 _)
      have hk6 : Hid (Below y1.heap.size y1 w6) := hidden ((hn2.out.alloc hn2.out.size _).grown hgrow6 (hn2.out.alloc hn2.out.size (.cells #[.slice ua (L (pl s)).length uc] 47)).size (fun j hj => (hO2.out.lt j hj).1))
      have hR6 := hidden ((hR2.out.below ((Below.refl _ _).alloc (Nat.le_refl _) (.cells #[.slice ua (L (pl s)).length uc] 47))).grown (hO2.out.alloc _) (by decide) hgrow6)
      have hR7 : Hid (RowsI y1.heap.size w6 (xs ++ [.slice ua (L (pl s)).length uc]) ((LL.take (j + 1)).map pl)) := hidden (by rw [hsn.out, List.map_append]; exact hR6.out)
      have hO7 : Hid (w6.ownsRow y1.heap.size 47 1 v' (xs ++ [Value.slice ua (L (pl s)).length uc]).length (xs ++ [Value.slice ua (L (pl s)).length uc])) := hidden (by rw [List.length_append]; exact hown6)
      clear hown6 hgrow6 hR6 hR2 hO2 hn2 hzs hxb
      go_wp2
      go_roundw
      case rel => exact ⟨j + 1, _, by omega, by go_num, hO7, hR7, hk6⟩
      case measure => simp [intOf]; omega
    · have hlt' : ¬ (j : Int) < (LL.length : Int) := by omega
      obtain rfl : j = LL.length := by omega
      rw [List.take_length] at hrow
      have hxw := box7u (box_below hX1.out hnx.out)
      obtain ⟨q0, q1, q2, q3, q4, q5, q6⟩ := hxw
      have hte := hidden (htes.out wr hny.out)
      go_wp2_with fail
      clear q0 q1 q2 q3 q4 q5 q6
      refine hte.out.mono ?_
      rintro e y3 ⟨ta, tc, rfl, hTo, hB3⟩
      have hn3 : Hid (Below y1.heap.size y1 y3) := hidden (hnx.out.trans (hB3.mono hnx.out.size))
      have hO3 := hidden (owns_keep hown.out hB3)
      have hR3 := hidden (hrow.out.below hB3)
      obtain ⟨tb, htb⟩ : ∃ tb, tb = wr.heap.size + 1 := ⟨_, rfl⟩
      rw [← htb] at hTo
      replace hTo := hidden hTo
      have hxb0 : Hid (xs.length = LL.length) := hxl
      clear hB3 htb hown hrow hnx hny hte hlab htes hxl
      go_wp2_with fail
      go_loopw [7, 31] (fun u i wr => ∃ (j : Nat) (xs : List Value), j ≤ TT.length ∧ i = .int .i64 j ∧ Hid (wr.ownsRow y1.heap.size 47 1 u xs.length xs) ∧ Hid (RowsI y1.heap.size wr xs (LL.map pl ++ (TT.take j).map pt)) ∧ Hid (wr.ownsRow tb 62 5 (.slice ta TT.length tc) TT.length (testR.flat TT)) ∧ Hid (Below y1.heap.size y1 wr))
        (fun _ i _ => TT.length - (intOf i).toNat)
      case atStart => exact ⟨0, xs, Nat.zero_le _, rfl, hO3, hidden (by rw [List.take_zero, List.map_nil, List.append_nil]; exact hR3.out), hTo, hn3⟩
      case round =>
        clear hO3 hR3 hTo hn3
        obtain ⟨j, xs, hj, rfl, hown, hrow, hTo, hnx⟩ := hrel
        obtain ⟨oa, oc, rfl⟩ := own_shape hown.out
        have hxl : Hid (xs.length = LL.length + j) := hidden (by rw [hrow.out.len, List.length_append, List.length_map, List.length_map, List.length_take]; omega)
        by_cases hlt : j < TT.length
        · have hlt' : (j : Int) < (TT.length : Int) := by omega
          obtain ⟨gb, off, rfl, hbb, d0, d1, d2, d3, d4⟩ := testQ_at (rowT5 hTo.out) hlt
          have hsn := hidden (take_snocR TT Tst.none j hlt)
          have hmem := hidden (getD_memG (d := Tst.none) hlt)
          generalize TT.getD j Tst.none = t at *
          have hT4 := hidden fun z hz => hT.out z hz t hmem.out
          generalize hXp : L (pt t) = Xp at *
          replace hXp := hidden hXp
          obtain ⟨qs, qo, qk, qn, qt⟩ := t
          simp only at d0 d1 d2 d3 d4 hT4
          have hTb := hidden (heap_alloc_new wr (.cells #[.string qs, .int .i64 qo, .int .i64 qk, .int .i64 qn, .string qt] 62))
          have hn1x : Hid (Below wr.heap.size wr (wr.alloc (.cells #[.string qs, .int .i64 qo, .int .i64 qk, .int .i64 qn, .string qt] 62))) := hidden ((Below.refl _ _).alloc (Nat.le_refl _) _)
          obtain ⟨s0, s1, s2, s3, s4⟩ := box5t hTb.out
          go_wp2_with fail
          generalize wr.alloc (.cells #[.string qs, .int .i64 qo, .int .i64 qk, .int .i64 qn, .string qt] 62) = y at *
          clear d0 d1 d2 d3 d4 s0 s1 s2 s3 s4 hbb hTb
          have hny : Hid (Below w.heap.size w y) := hidden (hB1.out.trans ((hnx.out.trans (hn1x.out.mono hnx.out.size)).mono hB1.out.size))
          refine (hT4.out y hny.out).mono ?_
          rintro e z ⟨u2, rfl, hown2, hBz⟩
          have hBw : Hid (Below wr.heap.size wr z) := hidden (hn1x.out.trans (hBz.mono hn1x.out.size))
          have hn2 : Hid (Below y1.heap.size y1 z) := hidden (hnx.out.trans (hBw.out.mono hnx.out.size))
          have hO2 := hidden (owns_keep hown.out hBw.out)
          have hT2 := hidden (owns_keep hTo.out hBw.out)
          have hs1 : y1.heap.size ≤ y.heap.size := Nat.le_trans hnx.out.size hn1x.out.size
          have hR2 := hidden ((hrow.out.below hBw.out).snoc (p := pt ⟨qs, qo, qk, qn, qt⟩) (by rw [hXp.out]; exact own_le2 hown2 hs1))
          obtain ⟨ua, uc, rfl⟩ := own_shape hown2
          have hxb : xs.length ≤ 800 := by rw [hxl.out]; omega
          have hzs : Hid (y1.heap.size ≤ z.heap.size) := hidden hn2.out.size
          clear hown2 hBz hBw hown hrow hnx hny hT4 hTo hn1x hs1
          go_wp2_with (at_builtin; go_loud (refine wpList_append_own _ rfl _ _ 106 rfl y1.heap.size 47 iw (.slice none 0 0) 1 24 Try.underlying106 hiw hw0 hw1 hw2 rfl (by decide) (.slice oa xs.length oc) _ _ rfl (hO2.out.alloc _) ⟨_, 0, none⟩ 1 1 [.slice ua Xp.length uc] rfl rfl (cells_new _ [_] _) (by simp [Value.oneCell']) (by unfold maxLen; omega) (by omega) (by have := hzs.out; simp; omega) ?_); intro v' w6 hown6 hgrow6 _)
          have hk6 : Hid (Below y1.heap.size y1 w6) := hidden ((hn2.out.alloc hn2.out.size _).grown hgrow6 (hn2.out.alloc hn2.out.size (.cells #[.slice ua Xp.length uc] 47)).size (fun j hj => (hO2.out.lt j hj).1))
          have hR6 := hidden ((hR2.out.below ((Below.refl _ _).alloc (Nat.le_refl _) (.cells #[.slice ua Xp.length uc] 47))).grown (hO2.out.alloc _) (by decide) hgrow6)
          have hT6 := hidden (own_oth2 (hT2.out.alloc _) (hO2.out.alloc _) (by decide) hgrow6)
          have hR7 : Hid (RowsI y1.heap.size w6 (xs ++ [.slice ua Xp.length uc]) (LL.map pl ++ (TT.take (j + 1)).map pt)) := hidden (by rw [hsn.out, List.map_append, ← List.append_assoc]; exact hR6.out)
          have hO7 : Hid (w6.ownsRow y1.heap.size 47 1 v' (xs ++ [Value.slice ua Xp.length uc]).length (xs ++ [Value.slice ua Xp.length uc])) := hidden (by rw [List.length_append]; exact hown6)
          clear hown6 hgrow6 hR6 hR2 hO2 hn2 hzs hxb
          go_wp2
          go_roundw
          case rel => exact ⟨j + 1, _, by omega, by go_num, hO7, hR7, hT6, hk6⟩
          case measure => simp [intOf]; omega
        · have hlt' : ¬ (j : Int) < (TT.length : Int) := by omega
          obtain rfl : j = TT.length := by omega
          rw [List.take_length] at hrow
          have hny : Hid (Below w.heap.size w wr) := hidden (hB1.out.trans (hnx.out.mono hB1.out.size))
          have hAz := hidden (hA.out wr hny.out)
          have hxb : Hid (xs.length ≤ 800) := hidden (by rw [hxl.out]; omega)
          clear hxl hxb0 hTo
          obtain ⟨PP, hPe⟩ : ∃ PP, PP = LL.map pl ++ TT.map pt := ⟨_, rfl⟩
          rw [← hPe] at hrow
          replace hPe := hidden hPe
          have hlx := hrow.out.len
          by_cases h0 : xs.length = 0
          · have h0' : ((xs.length : Nat) : Int) = 0 := by omega
            have hP0 : Hid (PP = []) := hidden (List.eq_nil_of_length_eq_zero (by omega))
            clear hrow hown hlx hxb
            go_wp2_with fail
            refine hAz.out.mono ?_
            rintro e z ⟨u, rfl, hu, hBz⟩
            have hu := hidden hu
            have hfin := hidden (hny.out.trans (hBz.mono hny.out.size))
            obtain ⟨ua, uc, rfl, -⟩ := id hu.out
            clear hBz hAz
            go_wp2
            go_ret
            exact ⟨_, rfl, by rw [← hPe.out, hP0.out]; exact hu.out, hfin.out⟩
          · have h0' : ¬ ((xs.length : Nat) : Int) = 0 := by omega
            have hsl := sl_of_owns hown.out
            obtain ⟨g9, cap9, e9⟩ : ∃ (g cap : Nat), (Value.slice oa xs.length oc) = .slice (some ⟨g, 0, none⟩) xs.length cap := by
              rcases hown.out.2 with ⟨e1, e2⟩ | ⟨g, cap, cur, e1, _⟩
              · exact absurd e2 h0
              · exact ⟨g, cap, e1⟩
            rw [e9] at hsl
            simp only [Value.slice.injEq] at e9
            obtain ⟨rfl, -, rfl⟩ := e9
            obtain ⟨x0, xr, hxe⟩ : ∃ x0 xr, xs = x0 :: xr := by
              cases xs with
              | nil => exact absurd rfl h0
              | cons x0 xr => exact ⟨x0, xr, rfl⟩
            obtain ⟨p, r, hpe⟩ : ∃ p r, PP = p :: r := by
              cases PP with
              | nil => exact absurd hlx h0
              | cons p r => exact ⟨p, r, rfl⟩
            have hcc : Hid (Calls Try.prog 32 #[.slice (some ⟨g9, 0, none⟩) xs.length oc] wr fun e w' => ∃ v', e = .returned v' ∧ Holds w' v' (ints (resN A PP)) ∧ Below wr.heap.size wr w') := hidden (by
              rw [hpe]
              refine commonR_c (B := y1.heap.size) g9 oc x0 xr p r _ (by rw [hxe]) wr ?_ ?_ ?_
              · rw [← hxe]; exact hsl
              · rw [← hxe, ← hpe]; exact hrow.out
              · have := hxb.out; rw [hxe] at this; simp at this; omega)
            clear hsl hAz hown hrow hxe hpe hlx hxb
            go_wp2_with fail
            refine hcc.out.mono ?_
            rintro e z ⟨u, rfl, hu, hBz⟩
            have hu := hidden hu
            have hfin := hidden (hny.out.trans (hBz.mono hny.out.size))
            obtain ⟨ua, uc, rfl, -⟩ := id hu.out
            clear hBz hcc
            go_wp2
            go_ret
            exact ⟨_, rfl, by rw [← hPe.out]; exact hu.out, hfin.out⟩
end Go.Proofs.Ytnmjhbnadfjapaa
/-
  THE FIRST VARIABLE THAT MAY HAVE THE FEWEST NODES, by contract: the program's.
-/
namespace Go.Proofs.Ytnmjhbnadfjapaa
open Go.ChangeShapes Go.WideShapes Go.ChangeAt Go.RowKit Go.Maps

/-- The place of the first least of the first k. -/
def bestI (f : Nat → Nat) : Nat → Nat
  | 0 => 0
  | k + 1 => if f k < f (bestI f k) then k else bestI f k
theorem bestI_le (f : Nat → Nat) : ∀ k, bestI f k ≤ k
  | 0 => Nat.le_refl _
  | k + 1 => by unfold bestI; have := bestI_le f k; split <;> omega
theorem bestI_lt (f : Nat → Nat) : ∀ k, 0 < k → bestI f k < k
  | 0, h => absurd h (Nat.lt_irrefl 0)
  | 1, _ => by unfold bestI bestI; split <;> omega
  | k + 2, _ => by unfold bestI; have := bestI_lt f (k + 1) (by omega); split <;> omega
theorem txV_at {w : World} {B n c m : Nat} {a : Option Addr} {V : List ByteArray} (h : w.ownsRow B 9 1 (.slice a n c) m (tx V)) {k : Nat} (hk : k < V.length) : ∃ b off, a = some ⟨b, off, none⟩ ∧ b < w.heap.size ∧ w.cell? ⟨b, off + k, none⟩ = some (.string (V.getD k ⟨#[]⟩)) := tx_in (owns_tx h) hk
set_option maxHeartbeats 1600000 in
set_option maxRecDepth 100000 in
theorem least_c (cv : Value) (X : ByteArray → List Nat) (qs : List Pl) (na : Option Addr) (N0 nc : Nat) (ea : Option Addr) (M0 ec : Nat) (ra : Option Addr) (R0 rc : Nat) (qc : Bool) (sk li : Int) (ct : Bool) (w : World) (hE : HoldsP w (.slice na N0 nc) qs) (hl : qs.length ≤ 400) (hsz : ∀ p ∈ qs, p.v.size ≤ 1000) (hX : ∀ v, (X v).length ≤ 1000)
    (hN : ∀ z, Below w.heap.size w z → ∀ v, v ∈ varsQ qs → Calls Try.prog 36 #[cv, .agg #[.slice na N0 nc, .slice ea M0 ec, .slice ra R0 rc, .bool qc, .int .i64 sk, .int .i64 li, .bool ct], .string v] z fun e w' => ∃ u, e = .returned u ∧ Holds w' u (ints (X v)) ∧ Below z.heap.size z w') :
    Calls Try.prog 38 #[cv, .agg #[.slice na N0 nc, .slice ea M0 ec, .slice ra R0 rc, .bool qc, .int .i64 sk, .int .i64 li, .bool ct]] w fun e w' => e = .returned (.tuple #[.string ((varsQ qs).getD (bestI (fun i => (X ((varsQ qs).getD i ⟨#[]⟩)).length) (varsQ qs).length) ⟨#[]⟩), .bool (decide (0 < (varsQ qs).length))]) ∧ Below w.heap.size w w' := by
  have hvl : (varsQ qs).length ≤ 400 := Nat.le_trans (varsQ_le qs) hl
  have hvars := hidden fun z (hz : Below w.heap.size w z) => qvarsQ_c qs na N0 nc ea M0 ec ra R0 rc qc sk li ct z (hE.below hz) (by omega) hsz
  obtain ⟨x, hx⟩ : ∃ x, x = w.alloc (.cells #[.slice na N0 nc, .slice ea M0 ec, .slice ra R0 rc, .bool qc, .int .i64 sk, .int .i64 li, .bool ct] 74) := ⟨_, rfl⟩
  have hB0 : Hid (Below w.heap.size w x) := by rw [hx]; exact (Below.refl _ _).alloc (Nat.le_refl _) _
  have hX0 : Hid (x.heap[w.heap.size]? = some (.cells #[.slice na N0 nc, .slice ea M0 ec, .slice ra R0 rc, .bool qc, .int .i64 sk, .int .i64 li, .bool ct] 74)) := by rw [hx]; exact heap_alloc_new w _
  replace hN := hidden hN
  clear hE hl hsz
  generalize varsQ qs = VV at *
  obtain ⟨f, hf⟩ : ∃ f : Nat → Nat, f = fun i => (X (VV.getD i ⟨#[]⟩)).length := ⟨_, rfl⟩
  rw [← hf]
  have hf1 : Hid (∀ i, f i = (X (VV.getD i ⟨#[]⟩)).length) := hidden fun i => by rw [hf]
  have hfb : Hid (∀ i, f i ≤ 1000) := hidden fun i => by rw [hf]; exact hX _
  clear hf hX
  obtain ⟨q0, q1, q2, q3, q4, q5, q6⟩ := box7u hX0.out
  subst hx
  go_enter Try.func38, Try.ntmps38
  go_wp2_with fail
  generalize w.alloc (.cells #[.slice na N0 nc, .slice ea M0 ec, .slice ra R0 rc, .bool qc, .int .i64 sk, .int .i64 li, .bool ct] 74) = x at *
  clear q0 q1 q2 q3 q4 q5 q6
  refine (hvars.out _ hB0.out).mono ?_
  rintro e y1 ⟨la, lc, rfl, hLo, hB⟩
  have hB1 : Hid (Below w.heap.size w y1) := hidden (hB0.out.trans (hB.mono hB0.out.size))
  have hX1 := hidden (box_below hX0.out hB)
  replace hLo := hidden (owns_tx hLo)
  clear hB hX0 hB0 hvars
  go_wp2_with fail
  go_loopw [6, 7, 14] (fun lv fv i wr => ∃ k : Nat, k ≤ VV.length ∧ i = .int .i64 k ∧ Hid (Below y1.heap.size y1 wr) ∧ lv = .string (if k = 0 then ⟨#[]⟩ else VV.getD (bestI f k) ⟨#[]⟩) ∧ fv = .int .i64 (if k = 0 then -1 else (f (bestI f k) : Int)))
    (fun _ _ i _ => VV.length - (intOf i).toNat)
  case atStart => exact ⟨0, Nat.zero_le _, rfl, hidden (Below.refl _ _), by rw [if_pos rfl], by rw [if_pos rfl]⟩
  case round =>
    obtain ⟨k, hk, rfl, hnx, hlv, hfv⟩ := hrel
    have hny : Hid (Below w.heap.size w wr) := hidden (hB1.out.trans (hnx.out.mono hB1.out.size))
    by_cases hlt : k < VV.length
    · have hlt' : (k : Int) < (VV.length : Int) := by omega
      obtain ⟨lb9, lo9, rfl, -, f0⟩ := tx_in (hLo.out.below hnx.out) hlt
      have hv := hidden (hN.out wr hny.out (VV.getD k ⟨#[]⟩) (getD_memG hlt))
      have hfk := hidden (hf1.out k)
      obtain ⟨q0, q1, q2, q3, q4, q5, q6⟩ := box7u (box_below hX1.out hnx.out)
      have hstep : Hid (bestI f (k + 1) = if f k < f (bestI f k) then k else bestI f k) := hidden rfl
      have hgs : Hid (bestI f (k + 1) = k → VV.getD (bestI f (k + 1)) ⟨#[]⟩ = VV.getD k ⟨#[]⟩ ∧ f (bestI f (k + 1)) = f k) := hidden fun h => by rw [h]; exact ⟨rfl, rfl⟩
      have hgb : Hid (bestI f (k + 1) = bestI f k → VV.getD (bestI f (k + 1)) ⟨#[]⟩ = VV.getD (bestI f k) ⟨#[]⟩ ∧ f (bestI f (k + 1)) = f (bestI f k)) := hidden fun h => by rw [h]; exact ⟨rfl, rfl⟩
      have hz0 : Hid (k = 0 → bestI f (k + 1) = k) := hidden fun h => by subst h; unfold bestI bestI; split <;> rfl
      have hb1 := hfb.out k
      have hb2 := hfb.out (bestI f k)
      have hne : ¬ k + 1 = 0 := by omega
      generalize VV.getD (bestI f k) ⟨#[]⟩ = s2 at *
      generalize VV.getD k ⟨#[]⟩ = s at *
      generalize X s = Xs at *
      by_cases h0 : k = 0
      · rw [if_pos h0] at hlv hfv
        subst hlv hfv
        have hs := hgs.out (hz0.out h0)
        have hs3 := hidden hs.1
        have hn3 := hidden hs.2
        replace h0 := hidden h0
        clear hs hgs hgb hstep hz0
        go_wp2_with fail
        refine hv.out.mono ?_
        rintro e z ⟨u, rfl, hu, hBz⟩
        obtain ⟨ua, uc, rfl, -⟩ := hu
        have hil : (ints Xs).length = f k := by rw [hfk.out]; unfold ints; rw [List.length_map]
        have hn2 : Hid (Below y1.heap.size y1 z) := hidden (hnx.out.trans (hBz.mono hnx.out.size))
        rw [hil]
        clear hBz hnx hny f0 hv q0 q1 q2 q3 q4 q5 q6 hil hfk
        generalize f (bestI f k) = n2 at *
        generalize f k = n1 at *
        go_wp2
        go_roundw
        case rel => exact ⟨k + 1, by omega, by go_num, hn2, by rw [if_neg hne, hs3.out], by rw [if_neg hne, hn3.out]⟩
        case measure => simp [intOf]; omega
      · rw [if_neg h0] at hlv hfv
        subst hlv hfv
        go_wp2_with fail
        refine hv.out.mono ?_
        rintro e z ⟨u, rfl, hu, hBz⟩
        obtain ⟨ua, uc, rfl, -⟩ := hu
        have hil : (ints Xs).length = f k := by rw [hfk.out]; unfold ints; rw [List.length_map]
        have hn2 : Hid (Below y1.heap.size y1 z) := hidden (hnx.out.trans (hBz.mono hnx.out.size))
        rw [hil]
        clear hBz hnx hny f0 hv q0 q1 q2 q3 q4 q5 q6 hil hfk
        by_cases h1 : f k < f (bestI f k)
        · have hs := hgs.out (by rw [hstep.out, if_pos h1])
          have hs3 := hidden hs.1
          have hn3 := hidden hs.2
          clear hs hgs hgb hstep hz0
          generalize f (bestI f k) = n2 at *
          generalize f k = n1 at *
          have h2 : (n1 : Int) < (n2 : Int) := by omega
          have h3 : ¬ (n2 : Int) < 0 := by omega
          go_wp2
          go_roundw
          case rel => exact ⟨k + 1, by omega, by go_num, hn2, by rw [if_neg hne, hs3.out], by rw [if_neg hne, hn3.out]⟩
          case measure => simp [intOf]; omega
        · have hs := hgb.out (by rw [hstep.out, if_neg h1])
          have hs3 := hidden hs.1
          have hn3 := hidden hs.2
          clear hs hgs hgb hstep hz0
          generalize f (bestI f k) = n2 at *
          generalize f k = n1 at *
          have h2 : ¬ (n1 : Int) < (n2 : Int) := by omega
          have h3 : ¬ (n2 : Int) < 0 := by omega
          go_wp2
          go_roundw
          case rel => exact ⟨k + 1, by omega, by go_num, hn2, by rw [if_neg hne, hs3.out], by rw [if_neg hne, hn3.out]⟩
          case measure => simp [intOf]; omega
    · have hlt' : ¬ (k : Int) < (VV.length : Int) := by omega
      obtain rfl : k = VV.length := by omega
      by_cases h0 : VV.length = 0
      · rw [if_pos h0] at hlv hfv
        subst hlv hfv
        have he : Hid (VV.getD (bestI f VV.length) ⟨#[]⟩ = ⟨#[]⟩) := hidden (by rw [List.eq_nil_of_length_eq_zero h0]; rfl)
        have hd : Hid (decide (0 < VV.length) = false) := hidden (decide_eq_false (by omega))
        go_wp2
        go_ret2
        exact ⟨by first | rfl | (rw [he.out, hd.out]; first | done | rfl), hny.out⟩
      · rw [if_neg h0] at hlv hfv
        subst hlv hfv
        have hd : Hid (decide (0 < VV.length) = true) := hidden (decide_eq_true (by omega))
        have hb2 := hfb.out (bestI f VV.length)
        generalize f (bestI f VV.length) = n3 at *
        have h3 : (0 : Int) ≤ (n3 : Int) := by omega
        go_wp2
        go_ret2
        exact ⟨by first | rfl | (rw [hd.out]; first | done | rfl), hny.out⟩
end Go.Proofs.Ytnmjhbnadfjapaa
/-
  QUERIES CUT SHORT, and what test.Nodes and test.Least answer of them.
-/
namespace Go.Proofs.Ytnmjhbnadfjapaa
open Go.ChangeShapes Go.WideShapes Go.ChangeAt Go.RowKit Go.Maps

theorem cutB_twice (s : ByteArray) (m : Nat) : cutB (cutB s m) m = cutB s m := by
  have h := cutB_size s m
  generalize cutB s m = t at *
  simp [cutB, show ¬ m < t.size by omega]
theorem few_few : ∀ (d : Nat) (r : Rx), Rx.few d (Rx.few d r) = Rx.few d r
  | 0, r => by
    show Rx.mk r.k (cutB (cutB r.s 32) 32) r.b [] = Rx.mk r.k (cutB r.s 32) r.b []
    rw [cutB_twice]
  | d + 1, r => by
    show Rx.mk r.k (cutB (cutB r.s 32) 32) r.b ((((r.ps.take 3).map (Rx.few d)).take 3).map (Rx.few d)) = Rx.mk r.k (cutB r.s 32) r.b ((r.ps.take 3).map (Rx.few d))
    rw [cutB_twice, List.take_of_length_le (by simp; omega), List.map_map]
    congr 1
    refine List.map_congr_left fun x _ => ?_
    exact few_few d x
theorem tst_twice (x : Tst) : x.few.few = x.few := by simp [Tst.few, cutB_twice]
theorem take_map_twice {α : Type} (f : α → α) (hf : ∀ x, f (f x) = f x) (n : Nat) (l : List α) : (((l.take n).map f).take n).map f = (l.take n).map f := by
  rw [List.take_of_length_le (by simp; omega), List.map_map]
  exact List.map_congr_left fun x _ => hf x
theorem pl_twice (x : Pl) : x.few.few = x.few := by
  simp only [Pl.few, cutB_twice, Pl.mk.injEq, true_and]
  exact take_map_twice _ tst_twice 9 x.ts
theorem pth_twice (x : Pth) : x.few.few = x.few := by simp [Pth.few, cutB_twice, few_few]
theorem ps_twice (l : List Pl) : (((l.take 17).map Pl.few).take 17).map Pl.few = (l.take 17).map Pl.few := take_map_twice _ pl_twice 17 l
theorem es_twice (l : List Pth) : (((l.take 17).map Pth.few).take 17).map Pth.few = (l.take 17).map Pth.few := take_map_twice _ pth_twice 17 l
theorem rs_twice (l : List ByteArray) : (((l.take 33).map fun s => cutB s 32).take 33).map (fun s => cutB s 32) = (l.take 33).map fun s => cutB s 32 := take_map_twice _ (fun s => cutB_twice s 32) 33 l
theorem PlacesAt.holds {B : Nat} {u : Value} {vs : List PlV} {ps : List Pl} {x : World} (h : PlacesAt B u vs ps x) : HoldsP x u ps :=
  ⟨vs, holdsR_of_owns (R := placeR) h.row, h.len, fun i hi => ⟨(h.each i hi).1, (h.each i hi).2.1, holdsR_of_owns (R := testR) (h.each i hi).2.2⟩⟩
theorem PathsAt.holds {B : Nat} {u av : Value} {us : List PthV} {es : List Pth} {x : World} (h : PathsAt B u av us es x) : HoldsE x u es :=
  ⟨us, holdsR_of_owns (R := pathR) h.row, h.len, fun i hi => ⟨(h.each i hi).1, 4, (h.each i hi).2.weak fun _ _ _ => trivial⟩⟩
theorem tx_holds {w : World} {B n : Nat} {v : Value} {L : List ByteArray} (h : w.ownsRow B 9 1 v n (tx L)) : Holds w v (tx L) := holds_of_owns h
/-- A query in a box. -/
structure QT (b : Nat) (cs : Array Value) (pu : Value) (ps : List Pl) (eu : Value) (es : List Pth) (ru : Value) (rs : List ByteArray) (x : World) : Prop where
  box : x.heap[b]? = some (.cells cs 74)
  hp : HoldsP x pu ps
  he : HoldsE x eu es
  hr : Holds x ru (tx rs)
theorem QT.step {b : Nat} {cs : Array Value} {pu : Value} {ps : List Pl} {eu : Value} {es : List Pth} {ru : Value} {rs : List ByteArray} {x z : World} (h : QT b cs pu ps eu es ru rs x) (hB : Below x.heap.size x z) : QT b cs pu ps eu es ru rs z :=
  ⟨box_below h.box hB, h.hp.below hB, h.he.below hB, h.hr.below hB⟩
theorem testsQ_len (ps : List Pl) (v : ByteArray) (hs : ∀ p ∈ ps, p.ts.length ≤ 9) : (testsQ ps v).length ≤ ps.length * 9 := by
  unfold testsQ
  induction ps with
  | nil => simp
  | cons p r ih =>
    have h1 := hs p List.mem_cons_self
    have h2 := ih fun q hq => hs q (List.mem_cons_of_mem _ hq)
    by_cases hv : p.v = v
    · simp only [List.filter_cons, hv, decide_true, if_true, List.flatMap_cons, List.length_append, List.length_cons, Nat.add_mul] at *
      omega
    · simp only [List.filter_cons, hv, decide_false, Bool.false_eq_true, if_false, List.length_cons, Nat.add_mul] at *
      omega
/-- A query that was cut short. -/
structure PlOk (qs : List Pl) : Prop where
  len : qs.length ≤ 17
  each : ∀ p ∈ qs, p.v.size ≤ 1000 ∧ p.l.size ≤ 1000 ∧ p.ts.length ≤ 9 ∧ ∀ t ∈ p.ts, t.s.size ≤ 1000
theorem plok_few (ps : List Pl) : PlOk ((ps.take 17).map Pl.few) := by
  refine ⟨by simp; omega, fun p hp => ?_⟩
  obtain ⟨q, _, rfl⟩ := List.mem_map.1 hp
  refine ⟨Nat.le_trans (cutB_size q.v 32) (by decide), Nat.le_trans (cutB_size q.l 32) (by decide), by simp [Pl.few]; omega, fun t ht => ?_⟩
  obtain ⟨x, _, rfl⟩ := List.mem_map.1 ht
  exact Nat.le_trans (cutB_size x.s 32) (by decide)
theorem PlOk.tests {qs : List Pl} (h : PlOk qs) (v : ByteArray) (j : Nat) : (testsQ (qs.take j) v).length ≤ 400 := by
  have h1 := testsQ_len (qs.take j) v fun p hp => (h.each p (List.mem_of_mem_take hp)).2.2.1
  have h2 : (qs.take j).length ≤ 17 := by rw [List.length_take]; have := h.len; omega
  omega
theorem PlOk.lab {qs : List Pl} (h : PlOk qs) {v s : ByteArray} (hs : s ∈ labelsQ qs v) : s.size ≤ maxLen := by
  unfold labelsQ at hs
  obtain ⟨p, hp, rfl⟩ := List.mem_map.1 hs
  have := (h.each p (List.mem_filter.1 hp).1).2.1
  unfold maxLen
  omega
theorem PlOk.tes {qs : List Pl} (h : PlOk qs) {v : ByteArray} {t : Tst} (hs : t ∈ testsQ qs v) : t.s.size ≤ maxLen := by
  unfold testsQ at hs
  obtain ⟨p, hp, ht⟩ := List.mem_flatMap.1 hs
  have := (h.each p (List.mem_filter.1 hp).1).2.2.2 t ht
  unfold maxLen
  omega
theorem resN_preds (ns : List Nd) (qs : List Pl) (v : ByteArray) (hn : ns.length ≤ 65536) : resN (List.range ns.length) (predsQ ns qs v) = nodesN ns qs v ns.length := by
  match e : predsQ ns qs v with
  | [] => exact (nodes_none ns qs v (by rw [e]; rfl)).symm
  | p :: r =>
    have h := nodes_L ns qs v hn (by rw [e]; simp)
    rw [e] at h
    exact h.symm
theorem resN_no (P : List (Nat → Bool)) (h : ∀ p ∈ P, p = noP) : resN [] P = [] := by
  match P, h with
  | [], _ => rfl
  | p :: r, h =>
    have h0 := h p (List.mem_cons_self ..)
    subst h0
    unfold resN L
    rw [List.filter_eq_nil_iff]
    intro k _
    simp [noP]
theorem L_no : L noP = [] := by
  unfold L
  rw [List.filter_eq_nil_iff]
  intro k _
  simp [noP]
theorem range_holds {w : World} {B n c : Nat} {a : Option Addr} {N : Nat} (h : w.ownsRow B 3 1 (.slice a n c) N (natR.flat (List.range N))) : Holds w (.slice a n c) (ints (List.range N)) := by
  have h2 := h
  rw [show N = (List.range N).length by rw [List.length_range]] at h
  rw [List.length_range (n := N)] at h
  obtain ⟨a', c', e, hs⟩ := slX (X := List.range N) (by rw [List.length_range]; exact h2)
  rw [e]
  exact hs.holds
theorem nodesC_c (g : Gr) (hok : (checkG g).2 = 0) (hsm : g.sm) (C : ColX) (B : Nat) (qs : List Pl) (v : ByteArray) (na : Option Addr) (N0 nc : Nat) (ea : Option Addr) (M0 ec : Nat) (ra : Option Addr) (R0 rc : Nat) (qc : Bool) (sk li : Int) (ct : Bool) (w : World) (hC : ColAt g.ns C B w) (hE : HoldsP w (.slice na N0 nc) qs) (hq : PlOk qs) :
    Calls Try.prog 36 #[.pointer (some ⟨C.gb, 0, none⟩), .agg #[.slice na N0 nc, .slice ea M0 ec, .slice ra R0 rc, .bool qc, .int .i64 sk, .int .i64 li, .bool ct], .string v] w fun e w' => ∃ u, e = .returned u ∧ Holds w' u (ints (nodesN g.ns qs v g.ns.length)) ∧ Below w.heap.size w w' := by
  have hn : g.ns.length ≤ 1000 := hsm.1
  have hps : ∀ i, (g.ns.getD i Nd.none).ps.length ≤ 1000 := fun i => by
    by_cases hi : i < g.ns.length
    · exact (hsm.2.1 _ (getD_memG (d := Nd.none) hi)).2.1
    · simp [List.getD, List.getElem?_eq_none (Nat.le_of_not_lt hi), Nd.none]
  have h := nodesG_c (.pointer (some ⟨C.gb, 0, none⟩)) (labP g.ns) (tesP g.ns) (List.range g.ns.length) qs v na N0 nc ea M0 ec ra R0 rc qc sk li ct w hE (by have := hq.len; omega) (hq.tests v)
    (fun z hz s hs => (colwith_c g.ns C B s z (hC.step hz) (hq.lab hs) hn).mono ?_) (fun z hz t ht => (each_c g.ns C B t z (hC.step hz) (hq.tes ht) hn hps).mono ?_) (fun z hz => (colall_c g.ns C B z (hC.step hz) hn).mono ?_)
  · rw [← resN_preds g.ns qs v (by omega)]
    exact h
  · rintro e w' ⟨a', c', rfl, h1, h2⟩
    refine ⟨_, rfl, ?_, h2⟩
    rw [← labN_P g.ns s (by omega)]
    rw [← labN_F, natI, List.length_map] at h1
    rw [← labN_F, List.length_map]
    exact h1
  · rintro e w' ⟨u, rfl, h1, h2⟩
    refine ⟨_, rfl, ?_, h2⟩
    rw [← tesN_P g.ns t (by omega)]
    rw [colT_is hok t, natI, List.length_map] at h1
    exact h1
  · rintro e w' ⟨a', c', rfl, h1, h2⟩
    exact ⟨_, rfl, range_holds h1, h2⟩
theorem nodesNil_c (qs : List Pl) (v : ByteArray) (na : Option Addr) (N0 nc : Nat) (ea : Option Addr) (M0 ec : Nat) (ra : Option Addr) (R0 rc : Nat) (qc : Bool) (sk li : Int) (ct : Bool) (w : World) (hE : HoldsP w (.slice na N0 nc) qs) (hq : PlOk qs) :
    Calls Try.prog 36 #[.pointer none, .agg #[.slice na N0 nc, .slice ea M0 ec, .slice ra R0 rc, .bool qc, .int .i64 sk, .int .i64 li, .bool ct], .string v] w fun e w' => ∃ a c, e = .returned (.slice a 0 c) ∧ Below w.heap.size w w' := by
  have h := nodesG_c (.pointer none) (fun _ => noP) (fun _ => noP) [] qs v na N0 nc ea M0 ec ra R0 rc qc sk li ct w hE (by have := hq.len; omega) (hq.tests v)
    (fun z hz s hs => (withNil_c s z).mono ?_) (fun z hz t ht => (eachNil_c t z).mono ?_) (fun z hz => (allNil_c z).mono ?_)
  · refine h.mono ?_
    rintro e w' ⟨u, rfl, ⟨a, c, rfl, _⟩, h2⟩
    rw [resN_no _ fun p hp => by
      rcases List.mem_append.1 hp with hp | hp <;> obtain ⟨_, _, rfl⟩ := List.mem_map.1 hp <;> rfl]
    exact ⟨_, _, rfl, h2⟩
  · rintro e w' ⟨rfl, h2⟩
    exact ⟨_, rfl, by rw [L_no]; exact World.ownsRow_nil .., h2⟩
  · rintro e w' ⟨rfl, h2⟩
    exact ⟨_, rfl, by rw [L_no]; exact World.ownsRow_nil .., h2⟩
  · rintro e w' ⟨rfl, h2⟩
    exact ⟨_, rfl, ⟨_, _, rfl, .inl rfl⟩, h2⟩
theorem natL {w : World} {v : Value} {X : List Nat} (h : Holds w v (ints X)) : Holds w v ((X.map fun (i : Nat) => (i : Int)).map (Value.int .i64)) := by
  have e : ((X.map fun (i : Nat) => (i : Int)).map (Value.int .i64)) = ints X := by unfold ints; rw [List.map_map]; rfl
  rw [e]; exact h
theorem same_self (va vb : Value) (xs : List Int) (w : World) (hva : Holds w va (xs.map (Value.int .i64))) (hvb : Holds w vb (xs.map (Value.int .i64))) (hx : xs.length ≤ 17592186044416) : Calls Try.prog 17 #[va, vb] w fun e w' => e = .returned (.bool true) ∧ Below w.heap.size w w' := by
  have h := same_c va vb xs xs w hva hvb hx hx
  rw [decide_eq_true rfl] at h
  exact h
/-- Both boxes, written. -/
theorem places_set {B : Nat} {u : Value} {vs : List PlV} {ps : List Pl} {x : World} {b : Nat} {cs : Array Value} {tb : TypeId} (h : PlacesAt B u vs ps x) (hb : x.heap[b]? = some (.cells cs tb)) (h1 : 105 ≠ tb) (h2 : 62 ≠ tb) (j : Nat) (v : Value) : PlacesAt B u vs ps (x.setCell ⟨b, j, none⟩ v) :=
  ⟨own_set h.row hb h1 _ _, h.len, fun i hi => ⟨(h.each i hi).1, (h.each i hi).2.1, own_set (h.each i hi).2.2 hb h2 _ _⟩⟩
theorem ownG_set {g : Gr} {vs : List NdV} {a : Option Addr} {n c : Nat} {b : Option Addr} {m d : Nat} {x : World} {B : Nat} {cs : Array Value} (h : OwnG g vs a n c b m d x) (hb : x.heap[B]? = some (.cells cs 74)) (j : Nat) (v : Value) : OwnG g vs a n c b m d (x.setCell ⟨B, j, none⟩ v) :=
  ⟨⟨own_set h.nodes.row hb (by decide) _ _, h.nodes.len, fun i hi => ⟨(h.nodes.each i hi).1, own_set (h.nodes.each i hi).2 hb (by decide) _ _⟩⟩, own_set h.edges hb (by decide) _ _⟩
/-- What the law keeps of its two boxes. -/
structure TwoB (g : Gr) (vs : List NdV) (a : Option Addr) (n c : Nat) (b : Option Addr) (m d : Nat) (B G Q : Nat) (gs qs : Array Value) (pu : Value) (us : List PlV) (ps : List Pl) (es : List Pth) (eu ru : Value) (fs : List PthV) (rs : List ByteArray) (w x : World) : Prop where
  own : OwnG g vs a n c b m d x
  places : PlacesAt B pu us ps x
  paths : PathsAt B eu ru fs es x
  rets : x.ownsRow B 9 1 ru rs.length (tx rs)
  gbox : x.heap[G]? = some (.cells gs 25)
  qbox : x.heap[Q]? = some (.cells qs 74)
  below : Below w.heap.size w x
  sep : G ≠ Q ∧ G < B ∧ Q < B ∧ w.heap.size ≤ G ∧ w.heap.size ≤ Q
theorem paths_set {B : Nat} {u av : Value} {us : List PthV} {es : List Pth} {x : World} {b : Nat} {cs : Array Value} {tb : TypeId} (h : PathsAt B u av us es x) (hb : x.heap[b]? = some (.cells cs tb)) (h1 : 114 ≠ tb) (hbB : b < B) (j : Nat) (v : Value) : PathsAt B u av us es (x.setCell ⟨b, j, none⟩ v) :=
  ⟨own_set h.row hb h1 _ _, h.len, fun i hi => ⟨(h.each i hi).1, (h.each i hi).2.kept fun k hk hlt => ⟨hk, by simpa [World.setCell] using hlt, by
    have : b ≠ k := by have := hk.1; omega
    simp [World.setCell, Array.getElem?_modify, this]⟩⟩⟩
theorem TwoB.setG {g : Gr} {vs : List NdV} {a : Option Addr} {n c : Nat} {b : Option Addr} {m d : Nat} {B G Q : Nat} {gs qs : Array Value} {pu : Value} {us : List PlV} {ps : List Pl} {es : List Pth} {eu ru : Value} {fs : List PthV} {rs : List ByteArray} {w x : World} (h : TwoB g vs a n c b m d B G Q gs qs pu us ps es eu ru fs rs w x) (j : Nat) (v : Value) : TwoB g vs a n c b m d B G Q (gs.setIfInBounds j v) qs pu us ps es eu ru fs rs w (x.setCell ⟨G, j, none⟩ v) :=
  ⟨h.own.set h.gbox j v, places_set h.places h.gbox (by decide) (by decide) j v, paths_set h.paths h.gbox (by decide) h.sep.2.1 j v, own_set h.rets h.gbox (by decide) _ _, set_heap h.gbox j v, set_oth h.qbox h.sep.1 j v, h.below.setCell (p := ⟨G, j, none⟩) h.sep.2.2.2.1 v, h.sep⟩
theorem TwoB.setQ {g : Gr} {vs : List NdV} {a : Option Addr} {n c : Nat} {b : Option Addr} {m d : Nat} {B G Q : Nat} {gs qs : Array Value} {pu : Value} {us : List PlV} {ps : List Pl} {es : List Pth} {eu ru : Value} {fs : List PthV} {rs : List ByteArray} {w x : World} (h : TwoB g vs a n c b m d B G Q gs qs pu us ps es eu ru fs rs w x) (j : Nat) (v : Value) : TwoB g vs a n c b m d B G Q gs (qs.setIfInBounds j v) pu us ps es eu ru fs rs w (x.setCell ⟨Q, j, none⟩ v) :=
  ⟨ownG_set h.own h.qbox j v, places_set h.places h.qbox (by decide) (by decide) j v, paths_set h.paths h.qbox (by decide) h.sep.2.2.1 j v, own_set h.rets h.qbox (by decide) _ _, set_oth h.gbox (Ne.symm h.sep.1) j v, set_heap h.qbox j v, h.below.setCell (p := ⟨Q, j, none⟩) h.sep.2.2.2.2 v, h.sep⟩
theorem cell_calm {x y : World} (h : GoX.Calm x y) {p : Addr} {v : Value} (hc : x.cell? p = some v) : y.cell? p = some v := by
  have hb := World.block_lt_of_cell? _ _ hc
  simp only [World.cell?, h.block p.block hb]
  exact hc
theorem frz2 {x : World} {b : Nat} {c0 c1 : Value} {t : TypeId} (h : x.heap[b]? = some (.cells #[c0, c1] t)) : x.frozen? ⟨b, 0, none⟩ = false ∧ x.frozen? ⟨b, 1, none⟩ = false := by
  simp [World.frozen?, h]
theorem frz7 {x : World} {b : Nat} {c0 c1 c2 c3 c4 c5 c6 : Value} {t : TypeId} (h : x.heap[b]? = some (.cells #[c0, c1, c2, c3, c4, c5, c6] t)) : x.frozen? ⟨b, 0, none⟩ = false ∧ x.frozen? ⟨b, 1, none⟩ = false ∧ x.frozen? ⟨b, 2, none⟩ = false ∧ x.frozen? ⟨b, 3, none⟩ = false ∧ x.frozen? ⟨b, 4, none⟩ = false ∧ x.frozen? ⟨b, 5, none⟩ = false ∧ x.frozen? ⟨b, 6, none⟩ = false := by
  simp [World.frozen?, h]
end Go.Proofs.Ytnmjhbnadfjapaa
