/-
  A MARK OUT OF BYTES: cursor.Get, by contract.
-/
import Derived.Test.YtcdkpeikjnpmhaaGreatMkRPutM
import Derived.BigGuard
import Derived.Deep.RegionHeld3
namespace Go.Proofs.YtcdkpeikjnpmhaaGreat
open Go.ChangeShapes Go.WideShapes Go.ChangeAt Go.RowKit

theorem results_row_tmp {P : Program} {fn : Func} {p u : Tmp} {ty : TypeId} (h : fn.results = #[.cell p ty, .tmp u]) (tmps : Array Value) (w : World) (g : Nat) (t : TypeId) (cs : Array Value) (fr : Nat × Nat) (d : TypeDesc)
    (hp : tmps.getD p undef = .pointer (some ⟨g, 0, none⟩)) (hg : w.heap[g]? = some (.cells cs t fr))
    (hu : P.underlying ty = some d) (hd : (match d with | .struct _ | .array _ _ => true | _ => false) = true) (hi : (P.info? ty).map (·.size) = some cs.size) :
    (results fn tmps).run P w = .ok (.tuple #[.agg cs, tmps.getD u undef]) w := by
  have hp' : tmps[p]?.getD undef = .pointer (some ⟨g, 0, none⟩) := by simpa using hp
  simp [results, h, hp', asAddr, run_loadVar_row w g t ty cs fr d hg hu hd hi]
theorem set5 {x : World} {b : Nat} {a0 a1 a2 a3 a4 : Value} {t : TypeId} (h : x.heap[b]? = some (.cells #[a0, a1, a2, a3, a4] t)) (c0 c1 c2 c3 c4 : Value) :
    (((((x.setCell ⟨b, 0, none⟩ c0).setCell ⟨b, 1, none⟩ c1).setCell ⟨b, 2, none⟩ c2).setCell ⟨b, 3, none⟩ c3).setCell ⟨b, 4, none⟩ c4).heap[b]? = some (.cells #[c0, c1, c2, c3, c4] t) := by
  have h3 := set_heap (set_heap (set_heap (set_heap (set_heap h 0 c0) 1 c1) 2 c2) 3 c3) 4 c4
  simpa using h3
theorem below_set5 {w x : World} (h : Below w.heap.size w x) {b : Nat} (hb : w.heap.size ≤ b) (c0 c1 c2 c3 c4 : Value) :
    Below w.heap.size w (((((x.setCell ⟨b, 0, none⟩ c0).setCell ⟨b, 1, none⟩ c1).setCell ⟨b, 2, none⟩ c2).setCell ⟨b, 3, none⟩ c3).setCell ⟨b, 4, none⟩ c4) :=
  ((((h.setCell (by exact hb) _).setCell (by exact hb) _).setCell (by exact hb) _).setCell (by exact hb) _).setCell (by exact hb) _
def noM : Mk := ⟨0, false, [], 0, []⟩
/-- Whether numbers may be a mark's; and which one's. -/
def okG (us : List Nat) : Bool := decide (4 < us.length ∧ us.getD 0 0 = 1 ∧ us.getD 1 0 ≤ 9007199254740992 ∧ us.getD 2 0 ≤ 1 ∧ us.getD 3 0 + 5 = us.length)
def nodeG (n : Nat) : Int := ((min n 10000 : Nat) : Int)
def rowG (us : List Nat) (k : Nat) : List Int := ((us.drop 4).take k).map nodeG
def mkG (us : List Nat) : Mk := ⟨(us.getD 1 0 : Nat), us.getD 2 0 == 1, rowG us (us.length - 5), (us.getD (us.length - 1) 0 : Nat), []⟩
def getG (us : List Nat) (ec : Nat) : Option Mk := if ec = 0 ∧ okG us = true ∧ goodM (mkG us) = true then some (mkG us) else none
theorem rowG_next (us : List Nat) (k : Nat) (hk : k + 5 < us.length) : rowG us (k + 1) = rowG us k ++ [nodeG (us.getD (k + 4) 0)] := by
  unfold rowG
  have e : (us.drop 4)[k]? = some (us.getD (k + 4) 0) := by
    rw [List.getElem?_drop, show 4 + k = k + 4 by omega, List.getElem?_eq_getElem (by omega)]
    simp [List.getD, show k + 4 < us.length by omega]
  rw [List.take_add_one, e, Option.toList_some, List.map_append]
  rfl
theorem rowG_len (us : List Nat) (k : Nat) (hk : k + 4 ≤ us.length) : (rowG us k).length = k := by
  simp [rowG, List.length_take]; omega
theorem u_cell {w : World} {B n b : Nat} {c : Nat} {us : List Nat} (h : w.ownsRow B 23 1 (.slice (some ⟨b, 0, none⟩) n c) us.length (us.map u64v)) {j : Nat} (hj : j < us.length) : w.cell? ⟨b, j, none⟩ = some (.int .u64 ((us.getD j 0 : Nat) : Int)) := by
  obtain ⟨a, cap, e, hr⟩ := holds_of_owns h
  injection e with e1 _ _
  rcases hr with h0 | ⟨b', o, rfl, _, hc⟩
  · simp only [List.map_eq_nil_iff] at h0; subst h0; simp at hj
  · injection e1 with e1
    injection e1 with e2 e3 _
    subst e2
    subst e3
    have := hc j (.int .u64 ((us.getD j 0 : Nat) : Int)) (by simp [u64v, List.getD, hj])
    simpa using this
/-- What lies in every round: the result's box, the mark's box, the numbers, the mark's row. -/
structure G1 (w : World) (us : List Nat) (u1 u2 ul b n vc O k : Nat) (nv : Value) (x : World) : Prop where
  below : Below w.heap.size w x
  res : x.heap[w.heap.size]? = some (.cells #[.int .i64 0, .bool false, .slice none 0 0, .int .u64 0, .slice none 0 0] 26)
  box : x.heap[O]? = some (.cells #[.int .i64 (u1 : Int), .bool ((u2 : Int) == 1), nv, .int .u64 (ul : Int), .slice none 0 0] 26)
  nums : ∃ B, x.ownsRow B 23 1 (.slice (some ⟨b, 0, none⟩) n vc) n (us.map u64v)
  le : w.heap.size ≤ O
  row : x.ownsRow w.heap.size 3 1 nv k ((rowG us k).map (Value.int .i64))
theorem G1.step {w : World} {us : List Nat} {u1 u2 ul b n vc O k : Nat} {nv : Value} {x y : World} (h : G1 w us u1 u2 ul b n vc O k nv x) (hB : Below x.heap.size x y) : G1 w us u1 u2 ul b n vc O k nv y :=
  ⟨h.below.trans (hB.mono h.below.size), (hB.block _ (Array.getElem?_eq_some_iff.1 h.res).1).trans h.res, (hB.block _ (Array.getElem?_eq_some_iff.1 h.box).1).trans h.box, h.nums.imp fun _ h => owns_below h hB, h.le, owns_below h.row hB⟩
theorem G1.next {w : World} {us : List Nat} {u1 u2 ul b n vc O k : Nat} {nv v' : Value} {x x2 : World} {o : Obj} {z : Int} (h : G1 w us u1 u2 ul b n vc O k nv x) (hO : O ≠ w.heap.size) (hz : rowG us (k + 1) = rowG us k ++ [z])
    (hown : x2.ownsRow w.heap.size 3 1 v' (k + 1) ((rowG us k).map (Value.int .i64) ++ [.int .i64 z])) (hg : (x.alloc o).grownBy x2 nv.ownBlock) : G1 w us u1 u2 ul b n vc O (k + 1) v' (x2.setCell ⟨O, 2, none⟩ v') := by
  have hA := h.step (y := x.alloc o) ((Below.refl _ _).alloc (Nat.le_refl _) _)
  have hB := hA.below.grown hg hA.below.size (fun j hj => (hA.row.lt j hj).1)
  have hbr := grown_box hg hA.res hA.row (by decide)
  have hbo := grown_box hg hA.box hA.row (by decide)
  obtain ⟨B, hn⟩ := hA.nums
  refine ⟨hB.setCell (by exact h.le) _, set_oth hbr hO _ _, by simpa using set_heap hbo 2 v', ⟨B, own_set (row_grown hn hA.row (by decide) hg) hbo (by decide) _ _⟩, h.le, ?_⟩
  rw [hz, List.map_append]
  exact own_set hown hbo (by decide) _ _
theorem G1.after {w : World} {us : List Nat} {u1 u2 ul b n vc O k : Nat} {nv : Value} {x y : World} {o : Obj} (h : G1 w us u1 u2 ul b n vc O k nv x) (hg : (x.alloc o).grownBy y nv.ownBlock) : y.cell? ⟨O, 2, none⟩ = some nv ∧ y.frozen? ⟨O, 2, none⟩ = false := by
  have hA := h.step (y := x.alloc o) ((Below.refl _ _).alloc (Nat.le_refl _) _)
  have hb := box5f (grown_box hg hA.box hA.row (by decide))
  exact ⟨hb.1.2.2.1, hb.2.2.2.1⟩
theorem u_cell2 {w : World} {B n b : Nat} {c : Nat} {us : List Nat} (h : w.ownsRow B 23 1 (.slice (some ⟨b, 0, none⟩) n c) n (us.map u64v)) {j : Nat} (hj : j < n) : w.cell? ⟨b, j, none⟩ = some (.int .u64 ((us.getD j 0 : Nat) : Int)) := by
  have hl : us.length = n := by have := h.1; simpa using this
  subst hl
  exact u_cell h hj
set_option maxHeartbeats 6400000 in
set_option maxRecDepth 100000 in
theorem cget_c (L : List UInt8) (w : World) (hL : L.length ≤ 1000) :
    Calls Tryz.prog 11 #[.string (bytesOf L)] w fun e w' =>
      (getG (allS L).1 (allS L).2 = none ∧ e = .returned (.tuple #[mkS noM none 0 none 0, .int .i64 12]) ∧ Below w.heap.size w w') ∨
      (∃ m na nc, getG (allS L).1 (allS L).2 = some m ∧ e = .returned (.tuple #[mkS m na nc none 0, .int .i64 0]) ∧ Holds w' (.slice na m.nodes.length nc) (m.nodes.map (Value.int .i64)) ∧ Below w.heap.size w w') := by
  have hall := fun x => all_g L x hL
  have hlen := hidden (fa_len L (L.length + 1) [] 0 (Nat.le_refl _) (Nat.zero_le _))
  have hlt := hidden (fa_num L (L.length + 1) [] 0 (fun u hu => by cases hu))
  have hus : Hid ((allS L).1.length ≤ 1000) := by
    show _ ≤ _
    have h := hlen.out
    unfold allS; omega
  replace hlt : Hid (∀ u ∈ (allS L).1, u < 18446744073709551616) := hlt
  clear hlen
  have hsize : Hid ((bytesOf L).size ≤ 1000) := by show _ ≤ _; rw [bytesOf_size]; exact hL
  generalize bytesOf L = s at *
  generalize (allS L).1 = us at *
  generalize (allS L).2 = ec at *
  have hs : ((s.size : Nat) : Int) ≤ 65536 := by have := hsize.out; omega
  have hR0 := hidden (heap_alloc_new w (.cells #[.int .i64 0, .bool false, .slice none 0 0, .int .u64 0, .slice none 0 0] 26))
  have hB0 : Hid (Below w.heap.size w (w.alloc (.cells #[.int .i64 0, .bool false, .slice none 0 0, .int .u64 0, .slice none 0 0] 26))) := (Below.refl _ _).alloc (Nat.le_refl _) _
  go_enter Tryz.func11, Tryz.ntmps11
  go_wp2_with fail
  refine (hall _).mono ?_
  rintro e w1 ⟨v, rfl, hown, hB1⟩
  replace hown := hidden hown
  have hB := hidden (hB0.out.trans (hB1.mono hB0.out.size))
  have hR1 := hidden ((hB1.block _ (Array.getElem?_eq_some_iff.1 hR0.out).1).trans hR0.out)
  clear hB1 hall hR0 hB0
  obtain ⟨⟨r0, r1, r2, r3, r4⟩, s0, s1, s2, s3, s4⟩ := box5f hR1.out
  have hRf := hidden (set5 hR1.out (.int .i64 0) (.bool false) (.slice none 0 0) (.int .u64 0) (.slice none 0 0))
  have hBf := hidden (below_set5 hB.out (Nat.le_refl _) (.int .i64 0) (.bool false) (.slice none 0 0) (.int .u64 0) (.slice none 0 0))
  obtain ⟨va, vc, rfl⟩ := own_shape hown.out
  by_cases h0 : ec = 0
  case neg =>
    have hn : Hid (getG us ec = none) := if_neg fun h => h0 h.1
    have g0 : ((ec : Int) != 0) = true := bne_iff_ne.2 (by omega)
    replace h0 := hidden h0
    go_wp2
    exact bodyPost_ret (results_row_tmp rfl _ _ w.heap.size _ _ _ _ rfl hRf.out Tryz.underlying26 rfl (by kernel_rfl)) rfl (.inl ⟨hn.out, rfl, hBf.out⟩)
  have hn1 : Hid (okG us = false → getG us ec = none) := fun h => if_neg fun h' => by rw [h] at h'; cases h'.2.1
  subst h0
  by_cases h1 : 4 < us.length
  case neg =>
    have hn : Hid (getG us 0 = none) := hn1.out (decide_eq_false fun h => h1 h.1)
    have g1 : (us.length : Int) ≤ 4 := by omega
    go_wp2
    exact bodyPost_ret (results_row_tmp rfl _ _ w.heap.size _ _ _ _ rfl hRf.out Tryz.underlying26 rfl (by kernel_rfl)) rfl (.inl ⟨hn.out, rfl, hBf.out⟩)
  have g1 : (4 : Int) < (us.length : Int) := by omega
  obtain ⟨b, rfl⟩ : ∃ b, va = some ⟨b, 0, none⟩ := by
    rcases hown.out.2 with ⟨h, h2⟩ | ⟨g, cap, cur, h, _⟩
    · omega
    · injection h with h _ _
      exact ⟨g, h⟩
  obtain ⟨N, hM⟩ : ∃ N, N + 5 = us.length := ⟨us.length - 5, by omega⟩
  have q0 := u_cell hown.out (show 0 < us.length by omega)
  have q1 := u_cell hown.out (show 1 < us.length by omega)
  have q2 := u_cell hown.out (show 2 < us.length by omega)
  have q3 := u_cell hown.out (show 3 < us.length by omega)
  have q4 := u_cell hown.out (show N + 4 < us.length by omega)
  have hcap : (us.length : Int) ≤ (vc : Int) := by
    rcases hown.out.2 with ⟨h, h2⟩ | ⟨g, cap, cur, h, _, _, h4, _⟩
    · omega
    · injection h with _ _ h
      omega
  by_cases hok : okG us = true
  case neg =>
    have hn : Hid (getG us 0 = none) := hn1.out (by simpa using hok)
    have hk3 : us.getD 0 0 = 1 → us.getD 1 0 ≤ 9007199254740992 → us.getD 2 0 ≤ 1 → us.getD 3 0 + 5 ≠ us.length := fun k0 k1 k2 k3 => hok (decide_eq_true ⟨h1, k0, k1, k2, k3⟩)
    have g5 : (us.length : Int) ≤ 1000 := by have := hus.out; omega
    clear q4 hcap hn1 hok hlt hus hown hR1 hB hs
    replace h1 := hidden h1
    replace hM := hidden hM
    generalize us.getD 0 0 = u0 at *
    generalize us.getD 1 0 = u1 at *
    generalize us.getD 2 0 = u2 at *
    generalize us.getD 3 0 = u3 at *
    by_cases k0 : u0 = 1
    case neg =>
      have g2 : ((u0 : Int) != 1) = true := bne_iff_ne.2 (by omega)
      replace k0 := hidden k0
      clear hk3 q1 q2 q3
      go_wp2
      exact bodyPost_ret (results_row_tmp rfl _ _ w.heap.size _ _ _ _ rfl hRf.out Tryz.underlying26 rfl (by kernel_rfl)) rfl (.inl ⟨hn.out, rfl, hBf.out⟩)
    have g2 : ((u0 : Int) != 1) = false := by subst k0; rfl
    by_cases k1 : u1 ≤ 9007199254740992
    case neg =>
      have g3 : (9007199254740992 : Int) < (u1 : Int) := by omega
      replace k0 := hidden k0
      replace k1 := hidden k1
      clear hk3 q2 q3
      go_wp2
      exact bodyPost_ret (results_row_tmp rfl _ _ w.heap.size _ _ _ _ rfl hRf.out Tryz.underlying26 rfl (by kernel_rfl)) rfl (.inl ⟨hn.out, rfl, hBf.out⟩)
    have g3 : (u1 : Int) ≤ 9007199254740992 := by omega
    by_cases k2 : u2 ≤ 1
    case neg =>
      have g4 : (1 : Int) < (u2 : Int) := by omega
      replace k0 := hidden k0
      replace k1 := hidden k1
      replace k2 := hidden k2
      clear hk3 q3
      go_wp2
      exact bodyPost_ret (results_row_tmp rfl _ _ w.heap.size _ _ _ _ rfl hRf.out Tryz.underlying26 rfl (by kernel_rfl)) rfl (.inl ⟨hn.out, rfl, hBf.out⟩)
    have g4 : (u2 : Int) ≤ 1 := by omega
    have g6 : ((u3 : Int) != (us.length : Int) - 4 - 1) = true := bne_iff_ne.2 (by have := hk3 k0 k1 k2; omega)
    clear hk3
    replace k0 := hidden k0
    replace k1 := hidden k1
    replace k2 := hidden k2
    go_wp2
    exact bodyPost_ret (results_row_tmp rfl _ _ w.heap.size _ _ _ _ rfl hRf.out Tryz.underlying26 rfl (by kernel_rfl)) rfl (.inl ⟨hn.out, rfl, hBf.out⟩)
  obtain ⟨-, k0, k1, k2, k3⟩ : 4 < us.length ∧ us.getD 0 0 = 1 ∧ us.getD 1 0 ≤ 9007199254740992 ∧ us.getD 2 0 ≤ 1 ∧ us.getD 3 0 + 5 = us.length := of_decide_eq_true hok
  have hmk : Hid (mkG us = ⟨(us.getD 1 0 : Nat), us.getD 2 0 == 1, rowG us N, (us.getD (N + 4) 0 : Nat), []⟩) := by
    show _ = _
    unfold mkG
    rw [← hM]
    rfl
  have hx4 : Hid (us.getD (N + 4) 0 < 18446744073709551616) := by
    have e : us.getD (N + 4) 0 = us[N + 4] := by simp [List.getD, show N + 4 < us.length by omega]
    show _ < _
    rw [e]; exact hlt.out _ (List.getElem_mem _)
  have hcells : Hid (∀ j, j < N → w1.cell? ⟨b, 4 + j, none⟩ = some (.int .u64 ((us.getD (j + 4) 0 : Nat) : Int))) := fun j hj => by
    rw [Nat.add_comm 4 j]; exact u_cell hown.out (show j + 4 < us.length by omega)
  have hnext : Hid (∀ k, k < N → rowG us (k + 1) = rowG us k ++ [nodeG (us.getD (k + 4) 0)]) := fun k hk => rowG_next us k (by omega)
  have hrlen : Hid (∀ k, k ≤ N → (rowG us k).length = k) := fun k hk => rowG_len us k (by omega)
  have hn3 : Hid (goodM (mkG us) = false → getG us 0 = none) := fun h => if_neg fun h' => by rw [h] at h'; cases h'.2.2
  have hn4 : Hid (goodM (mkG us) = true → getG us 0 = some (mkG us)) := fun h' => if_pos ⟨rfl, hok, h'⟩
  have g5 : (us.length : Int) ≤ 1000 := by have := hus.out; omega
  generalize us.getD 0 0 = u0 at *
  generalize us.getD 1 0 = u1 at *
  generalize us.getD 2 0 = u2 at *
  generalize us.getD 3 0 = u3 at *
  generalize us.getD (N + 4) 0 = ul at *
  have g2 : ((u0 : Int) != 1) = false := by subst k0; rfl
  have g3 : (u1 : Int) ≤ 9007199254740992 := by omega
  have g4 : (u2 : Int) ≤ 1 := by omega
  have g6 : (u3 : Int) = (us.length : Int) - 4 - 1 := by omega
  have g7 : ((us.length : Int) - 4 - 1 != (us.length : Int) - 4 - 1) = false := by simp
  rw [g6] at q3
  have i1 : IntKind.i64.wrap ((us.length : Int) - 1) = (N : Int) + 4 := by
    rw [IntKind.wrap_i64]; omega
  have iw : IntKind.i64.wrap (u1 : Int) = (u1 : Int) := by rw [IntKind.wrap_i64]; omega
  have i2 : (N : Int) + 4 < (us.length : Int) := by omega
  have i3 : (0 : Int) ≤ (N : Int) + 4 := by omega
  have i5 : (N : Int) + 4 ≤ (vc : Int) := by omega
  have i6 : ((N : Int) + 4).toNat = N + 4 := by omega
  have i7 : ¬ vc = 4 := by omega
  have hN5 : Hid (N ≤ 995) := by show _ ≤ _; have := hus.out; omega
  clear r0 r1 r2 r3 r4 s0 s1 s2 s3 s4 hBf hRf k0 k1 k2 k3 g6 hn1 h1 hs hok hcap
  replace hM := hidden hM
  have hOlt : Hid (w1.heap.size ≠ w.heap.size) := by have := (Array.getElem?_eq_some_iff.1 hR1.out).1; show _ ≠ _; omega
  generalize us.length = n at *
  go_wp2_with fail
  go_region_held3 (fun x => x.cell? ⟨b, 1, none⟩ = some (.int .u64 (u1 : Int)) ∧ x.cell? ⟨b, 2, none⟩ = some (.int .u64 (u2 : Int)) ∧ x.cell? ⟨b, N + 4, none⟩ = some (.int .u64 (ul : Int))) (go_keep) (fail)
  have hG1 : Hid (G1 w us u1 u2 ul b n vc w1.heap.size 0 (.slice none 0 0) (w1.alloc (.cells #[.int .i64 (u1 : Int), .bool ((u2 : Int) == 1), .slice none 0 0, .int .u64 (ul : Int), .slice none 0 0] 26)).drew) := by
    refine ⟨(hB.out.alloc hB.out.size _).drew, ?_, ?_, ⟨_, owns_below hown.out (((Below.refl _ _).alloc (Nat.le_refl _) _).drew)⟩, hB.out.size, ?_⟩
    · exact (heap_alloc_old _ _ (Array.getElem?_eq_some_iff.1 hR1.out).1).trans hR1.out
    · exact heap_alloc_new _ _
    · exact World.ownsRow_nil ..
  generalize hwz : (w1.alloc (.cells #[.int .i64 (u1 : Int), .bool ((u2 : Int) == 1), .slice none 0 0, .int .u64 (ul : Int), .slice none 0 0] 26)).drew = wz at *
  replace hwz := hidden hwz
  clear hB hR1 hcells q0 q1 q2 q3 q4 g2 g3 g4 hown
  go_wp2_with fail
  go_loopw [8, 76] (fun _ i wr => ∃ (k : Nat) (nv : Value), k ≤ N ∧ i = .int .i64 k ∧ Hid (G1 w us u1 u2 ul b n vc w1.heap.size k nv wr)) (fun _ i _ => N - (intOf i).toNat)
  case atStart => exact ⟨0, _, Nat.zero_le _, rfl, hG1⟩
  case round =>
    obtain ⟨k, nv, hk, rfl, hg⟩ := hrel
    have hgc := hg.out.nums
    obtain ⟨B, hnm⟩ := hgc
    replace hnm := hidden hnm
    obtain ⟨⟨p0, p1, p2, p3, p4⟩, f0, f1, f2, f3, f4⟩ := box5f hg.out.box
    by_cases hlt2 : k < N
    · have hj1 : (k : Int) < (N : Int) := by omega
      have hc : wr.cell? ⟨b, 4 + k, none⟩ = some (.int .u64 ((us.getD (k + 4) 0 : Nat) : Int)) := by
        rw [Nat.add_comm 4 k]
        exact u_cell2 hnm.out (by have := hM.out; omega)
      have hnx := hidden (hnext.out k hlt2)
      generalize us.getD (k + 4) 0 = uk at *
      obtain ⟨i0, hi0, hz0, hz1, hz2⟩ := info_parts infoInt
      have hkk : Hid (k + 1 ≤ 1000) := by show _ ≤ _; have := hN5.out; omega
      by_cases hu : uk ≤ 10000
      · have j1 : (uk : Int) ≤ 10000 := by omega
        have j2 : ¬ (10000 : Int) < (uk : Int) := by omega
        have j3 : min (uk : Int) 10000 = (uk : Int) := by omega
        replace hu := hidden hu
        have hnode : Hid (nodeG uk = (uk : Int)) := by show _ = _; unfold nodeG; rw [Nat.min_eq_left hu.out]
        rw [hnode.out] at hnx
        go_wp2_with (at_builtin; go_loud (refine wpList_append_own _ rfl _ _ 22 rfl w.heap.size 3 i0 (.int .i64 0) 1 8 Tryz.underlying22 hi0 hz0 hz1 hz2 rfl (by decide) nv _ _ rfl (hg.out.row.alloc _) ⟨wr.heap.size, 0, none⟩ 1 1 [.int .i64 ((uk : Int))] rfl rfl (cell_one_new _ _ _) (fun u hu => by simp at hu; subst hu; rfl) (by have := hkk.out; unfold maxLen; omega) (by have := hkk.out; omega) (by have := hg.out.below.size; simp; omega) ?_); intro v' w3 hown3 hgrow _; obtain ⟨a9, c9, rfl⟩ := own_shape hown3; obtain ⟨y0, y1⟩ := hg.out.after hgrow)
        have hg2 := hidden (hg.out.next hOlt.out hnx.out hown3 hgrow)
        clear hg hown3 hgrow y0 y1 p0 p1 p2 p3 p4 f0 f1 f2 f3 f4 hc hnm
        go_wp2
        go_roundw
        case rel => exact ⟨k + 1, _, by omega, by go_num, hg2⟩
        case measure => simp [intOf]; omega
      · have j1 : (10000 : Int) < (uk : Int) := by omega
        have j3 : min (uk : Int) 10000 = 10000 := by omega
        replace hu := hidden hu
        have hnode : Hid (nodeG uk = 10000) := by show _ = _; unfold nodeG; rw [Nat.min_eq_right (Nat.le_of_lt (Nat.lt_of_not_le hu.out))]; rfl
        rw [hnode.out] at hnx
        go_wp2_with (at_builtin; go_loud (refine wpList_append_own _ rfl _ _ 22 rfl w.heap.size 3 i0 (.int .i64 0) 1 8 Tryz.underlying22 hi0 hz0 hz1 hz2 rfl (by decide) nv _ _ rfl (hg.out.row.alloc _) ⟨wr.heap.size, 0, none⟩ 1 1 [.int .i64 (10000)] rfl rfl (cell_one_new _ _ _) (fun u hu => by simp at hu; subst hu; rfl) (by have := hkk.out; unfold maxLen; omega) (by have := hkk.out; omega) (by have := hg.out.below.size; simp; omega) ?_); intro v' w3 hown3 hgrow _; obtain ⟨a9, c9, rfl⟩ := own_shape hown3; obtain ⟨y0, y1⟩ := hg.out.after hgrow)
        have hg2 := hidden (hg.out.next hOlt.out hnx.out hown3 hgrow)
        clear hg hown3 hgrow y0 y1 p0 p1 p2 p3 p4 f0 f1 f2 f3 f4 hc hnm
        go_wp2
        go_roundw
        case rel => exact ⟨k + 1, _, by omega, by go_num, hg2⟩
        case measure => simp [intOf]; omega
    · obtain rfl : k = N := by omega
      have hj1 : ¬ (k : Int) < (k : Int) := by omega
      obtain ⟨na, nc, rfl⟩ := own_shape hg.out.row
      have hrow := hidden (holds_of_owns hg.out.row)
      have hrowO := hidden hg.out.row
      have hl5 := hrlen.out k (Nat.le_refl _)
      have hov : ((u2 : Int) == 1) = (u2 == 1) := by
        by_cases h : u2 = 1
        · subst h; rfl
        · rw [beq_eq_false_iff_ne.2 h, beq_eq_false_iff_ne.2 (show (u2 : Int) ≠ 1 by omega)]
      have hgood : ∀ x, GoX.Calm wr x → Calls Tryz.prog 6 #[.agg #[.int .i64 (u1 : Int), .bool ((u2 : Int) == 1), .slice na k nc, .int .u64 (ul : Int), .slice none 0 0]] x fun e w' => e = .returned (.bool (goodM (mkG us))) ∧ Below x.heap.size x w' := fun x hx => by
        have h := cgood_c (mkG us) na nc none 0 x (by rw [hmk.out]; show (rowG us k).length ≤ _; rw [hl5]; have := hN5.out; omega) (by rw [hmk.out]; show Holds x (.slice na (rowG us k).length nc) _; rw [hl5]; exact hrow.out.calm hx)
        rw [hov]
        unfold mkS at h
        rw [hmk.out] at h ⊢
        simp only [List.length_nil] at h
        rw [hl5] at h
        exact h
      have hfinal : ∀ x, GoX.Calm wr x → Holds x (.slice na (mkG us).nodes.length nc) ((mkG us).nodes.map (Value.int .i64)) := fun x hx => by
        rw [hmk.out]; show Holds x (.slice na (rowG us k).length nc) _; rw [hl5]; exact hrow.out.calm hx
      have hval : (.agg #[.int .i64 (u1 : Int), .bool ((u2 : Int) == 1), .slice na k nc, .int .u64 (ul : Int), .slice none 0 0] : Value) = mkS (mkG us) na nc none 0 := by
        rw [hov, hmk.out]
        unfold mkS
        simp only [List.length_nil]
        rw [hl5]
      replace hval := hidden hval
      replace hov := hidden hov
      replace hl5 := hidden hl5
      generalize goodM (mkG us) = G at *
      have hbw := hidden hg.out.below
      have hrs := hidden hg.out.res
      have hbx := hidden hg.out.box
      clear hnm hlt2 hg
      go_wp2_with fail
      refine (hgood _ (GoX.Calm.refl _)).mono ?_
      rintro e w4 ⟨rfl, hB4⟩
      have hb4 := hidden (hbw.out.trans (hB4.mono hbw.out.size))
      have hr4 := hidden ((hB4.block _ (Array.getElem?_eq_some_iff.1 hrs.out).1).trans hrs.out)
      have hx4' := hidden ((hB4.block _ (Array.getElem?_eq_some_iff.1 hbx.out).1).trans hbx.out)
      have hrow4 := hidden (owns_below hrowO.out hB4)
      clear hB4 p0 p1 p2 p3 p4 f0 f1 f2 f3 f4 hgood
      obtain ⟨⟨r0, r1, r2, r3, r4⟩, s0, s1, s2, s3, s4⟩ := box5f hr4.out
      obtain ⟨⟨p0, p1, p2, p3, p4⟩, -⟩ := box5f hx4'.out
      cases G with
      | false =>
        have hn := hidden (hn3.out rfl)
        have hRf := hidden (set5 hr4.out (.int .i64 0) (.bool false) (.slice none 0 0) (.int .u64 0) (.slice none 0 0))
        have hBf := hidden (below_set5 hb4.out (Nat.le_refl _) (.int .i64 0) (.bool false) (.slice none 0 0) (.int .u64 0) (.slice none 0 0))
        clear hn3 hn4
        go_wp2
        exact bodyPost_ret (results_row_tmp rfl _ _ w.heap.size _ _ _ _ rfl hRf.out Tryz.underlying26 rfl (by kernel_rfl)) rfl (.inl ⟨hn.out, rfl, hBf.out⟩)
      | true =>
        have hn := hidden (hn4.out rfl)
        have hRf := hidden (set5 hr4.out (.int .i64 (u1 : Int)) (.bool ((u2 : Int) == 1)) (.slice na k nc) (.int .u64 (ul : Int)) (.slice none 0 0))
        have hBf := hidden (below_set5 hb4.out (Nat.le_refl _) (.int .i64 (u1 : Int)) (.bool ((u2 : Int) == 1)) (.slice na k nc) (.int .u64 (ul : Int)) (.slice none 0 0))
        have hCf : Hid (Holds (((((w4.setCell ⟨w.heap.size, 0, none⟩ (.int .i64 (u1 : Int))).setCell ⟨w.heap.size, 1, none⟩ (.bool ((u2 : Int) == 1))).setCell ⟨w.heap.size, 2, none⟩ (.slice na k nc)).setCell ⟨w.heap.size, 3, none⟩ (.int .u64 (ul : Int))).setCell ⟨w.heap.size, 4, none⟩ (.slice none 0 0)) (.slice na (mkG us).nodes.length nc) ((mkG us).nodes.map (Value.int .i64))) := by
          show Holds _ _ _
          rw [hmk.out]
          show Holds _ (.slice na (rowG us k).length nc) ((rowG us k).map (Value.int .i64))
          rw [hl5.out]
          have b1 := set_heap hr4.out 0 (.int .i64 (u1 : Int))
          have b2 := set_heap b1 1 (.bool ((u2 : Int) == 1))
          have b3 := set_heap b2 2 (.slice na k nc)
          have b4 := set_heap b3 3 (.int .u64 (ul : Int))
          exact holds_of_owns (own_set (own_set (own_set (own_set (own_set hrow4.out hr4.out (by decide) _ _) b1 (by decide) _ _) b2 (by decide) _ _) b3 (by decide) _ _) b4 (by decide) _ _)
        clear hn3 hn4
        go_wp2
        refine bodyPost_ret (results_row_tmp rfl _ _ w.heap.size _ _ _ _ rfl hRf.out Tryz.underlying26 rfl (by kernel_rfl)) rfl (.inr ⟨mkG us, na, nc, hn.out, ?_, hCf.out, hBf.out⟩)
        rw [← hval.out]
        rfl
end Go.Proofs.YtcdkpeikjnpmhaaGreat
