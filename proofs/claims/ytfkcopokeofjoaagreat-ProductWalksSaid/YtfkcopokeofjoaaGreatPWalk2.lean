/-
  TWO LISTS HELD AGAINST EACH OTHER, element by element. Mathematics alone.
-/
import Derived.Test.YtfkcopokeofjoaaGreatRec
import Derived.WalkSmall
import Derived.Test.YtfkcopokeofjoaaGreatGRel
import Derived.Laws.StructEq
import Derived.Test.YtfkcopokeofjoaaGreatCsStep
import Derived.Test.YtfkcopokeofjoaaGreatCsMath
namespace Go.Proofs.YtfkcopokeofjoaaGreat
open Go.ChangeShapes Go.WideShapes Go.ChangeAt Go.RowKit

def gcmp {α : Type} (f : α → α → Int) : List α → List α → Int
  | [], [] => 0
  | [], _ :: _ => -1
  | _ :: _, [] => 1
  | x :: xs, y :: ys => if f x y = 0 then gcmp f xs ys else f x y
theorem gcmp_ne {α : Type} {f : α → α → Int} (d : α) : ∀ {xs ys : List α} (k : Nat), k < xs.length → k < ys.length → (∀ j, j < k → f (xs.getD j d) (ys.getD j d) = 0) → f (xs.getD k d) (ys.getD k d) ≠ 0 → gcmp f xs ys = f (xs.getD k d) (ys.getD k d)
  | x :: xs, y :: ys, 0, _, _, _, hn => by
    have hn' : ¬ f x y = 0 := hn
    simp [gcmp, hn']
  | x :: xs, y :: ys, k + 1, h1, h2, ha, hn => by
    have h0 : f x y = 0 := ha 0 (by omega)
    have ih := gcmp_ne d (xs := xs) (ys := ys) k (by simpa using h1) (by simpa using h2) (fun j hj => by simpa using ha (j + 1) (by omega)) (by simpa using hn)
    simp only [gcmp, h0, if_true]
    simpa using ih
theorem gcmp_long {α : Type} {f : α → α → Int} (d : α) : ∀ {xs ys : List α}, ys.length < xs.length → (∀ j, j < ys.length → f (xs.getD j d) (ys.getD j d) = 0) → gcmp f xs ys = 1
  | x :: xs, [], _, _ => rfl
  | x :: xs, y :: ys, h1, ha => by
    have h0 : f x y = 0 := ha 0 (by simp)
    have ih := gcmp_long d (xs := xs) (ys := ys) (by simpa using h1) (fun j hj => by simpa using ha (j + 1) (by simpa using hj))
    simp only [gcmp, h0, if_true]
    exact ih
theorem gcmp_short {α : Type} {f : α → α → Int} (d : α) : ∀ {xs ys : List α}, xs.length < ys.length → (∀ j, j < xs.length → f (xs.getD j d) (ys.getD j d) = 0) → gcmp f xs ys = -1
  | [], y :: ys, _, _ => rfl
  | x :: xs, y :: ys, h1, ha => by
    have h0 : f x y = 0 := ha 0 (by simp)
    have ih := gcmp_short d (xs := xs) (ys := ys) (by simpa using h1) (fun j hj => by simpa using ha (j + 1) (by simpa using hj))
    simp only [gcmp, h0, if_true]
    exact ih
theorem gcmp_eq {α : Type} {f : α → α → Int} (d : α) : ∀ {xs ys : List α}, xs.length = ys.length → (∀ j, j < xs.length → f (xs.getD j d) (ys.getD j d) = 0) → gcmp f xs ys = 0
  | [], [], _, _ => rfl
  | x :: xs, y :: ys, h1, ha => by
    have h0 : f x y = 0 := ha 0 (by simp)
    have ih := gcmp_eq d (xs := xs) (ys := ys) (by simpa using h1) (fun j hj => by simpa using ha (j + 1) (by simpa using hj))
    simp only [gcmp, h0, if_true]
    exact ih
theorem all_next {α : Type} {f : α → α → Int} {d : α} {xs ys : List α} {k : Nat} (h : ∀ j, j < k → f (xs.getD j d) (ys.getD j d) = 0) (hk : f (xs.getD k d) (ys.getD k d) = 0) : ∀ j, j < k + 1 → f (xs.getD j d) (ys.getD j d) = 0 := fun j hj => by
  rcases Nat.lt_or_ge j k with h2 | h2
  · exact h j h2
  · obtain rfl : j = k := by omega
    exact hk
end Go.Proofs.YtfkcopokeofjoaaGreat
/-
  HOPS IN MEMORY OF THEIR OWN, by contract: which ones.
-/
namespace Go.Proofs.YtfkcopokeofjoaaGreat
open Go.ChangeShapes Go.WideShapes Go.ChangeAt Go.RowKit

abbrev Hop := Int × Bool
def hopR : Rec Hop := ⟨fun p => [.int .i64 p.1, .bool p.2], 2, by decide, fun _ => rfl, fun p u hu => by simp at hu; rcases hu with rfl | rfl <;> rfl, (0, false)⟩
def Hop.wf (p : Hop) : Prop := (Lit.int .i64 p.1).wf = true
theorem open_hopsR {H : Type} {enc : TypeId × Value → H} {P : Program} {w : World} {sp : Nat → Bool} {held : Bool} {t e : TypeId} {f0 f1 : Field} {v : Value} {d : DataW H} {qs : List MemPlace} {r : Reach} {b0 : Nat}
    (ht : P.underlying t = some (.slice e)) (he : P.underlying e = some (.struct #[f0, f1])) (h0 : P.underlying f0.type = some (.int .i64)) (h1 : P.underlying f1.type = some .bool) (hc : P.cellsOf e = 2)
    (o0 : f0.offset = 0) (o1 : f1.offset = 1) (c0 : P.cellsOf f0.type = 1) (c1 : P.cellsOf f1.type = 1)
    (hval : Value.okWide P w r b0 t v) (h : DataW.Trod enc P w 0 sp held t v d qs) : ∃ ps : List Hop, ps.length ≤ maxLen ∧ HoldsR hopR w v ps ∧ ∀ p ∈ ps, p.wf :=
  open_recs (R := hopR) ht hc (fun fuel cs x hl hx => by
    match cs, hl with
    | [u0, u1], _ =>
      obtain ⟨y0, y1, m, _, _, g0, g1⟩ := trod_struct2 he hx
      rw [o0, c0] at g0
      rw [o1, c1] at g1
      obtain ⟨a, e0, _, w0⟩ := DataW.trod_int h0 g0
      obtain ⟨b, e1, _⟩ := DataW.trod_bool h1 g1
      have e0 : u0 = .int .i64 a := by simpa using e0
      have e1 : u1 = .bool b := by simpa using e1
      exact ⟨(a, b), by rw [e0, e1]; rfl, w0⟩) hval h
theorem infoH : (Tryz.prog.info? 45).map (fun i => (i.zero, i.size, i.bytes)) = some (some (.agg #[.int .i64 0, .bool false]), 2, 16) := by kernel_rfl
theorem hop_at {w : World} {a : Option Addr} {ps : List Hop} (h : RowAt w a (hopR.flat ps)) {k : Nat} (hk : k < ps.length) :
    ∃ b off, a = some ⟨b, off, none⟩ ∧ b < w.heap.size ∧ w.cell? ⟨b, off + k * 2, none⟩ = some (.int .i64 (ps.getD k (0, false)).1) ∧ w.cell? ⟨b, off + k * 2 + 1, none⟩ = some (.bool (ps.getD k (0, false)).2) := by
  obtain ⟨b, off, h1, h2, h3⟩ := rec_at h hk
  exact ⟨b, off, h1, h2, h3 0 _ rfl, h3 1 _ rfl⟩
set_option maxRecDepth 100000 in
set_option maxHeartbeats 800000 in
theorem hfew_c (v : Value) (ps : List Hop) (w : World) (hv : HoldsR hopR w v ps) (_hz : ps.length ≤ 9223372036854775807) :
    Calls Tryz.prog 5 #[v] w fun e w' => ∃ a n c, e = .returned (.slice a n c) ∧ SlR hopR w' (.slice a n c) (ps.take 8) ∧ Below w.heap.size w w' := by
  obtain ⟨a, cap, rfl, hrow⟩ := hv
  obtain ⟨i0, hi, hz0, hz1, hz2⟩ := info_parts infoH
  replace hrow := hidden hrow
  go_enter Tryz.func5, Tryz.ntmps5
  go_wp2
  go_loopw [3, 4] (fun u i wr => ∃ k : Nat, k ≤ ps.length ∧ k ≤ 8 ∧ i = .int .i64 k ∧ Hid (wr.ownsRow w.heap.size 45 2 u k (hopR.flat (ps.take k))) ∧ u.oneCell' = true ∧ Hid (Below w.heap.size w wr))
    (fun _ i _ => ps.length - (intOf i).toNat)
  case atStart => exact ⟨0, Nat.zero_le _, Nat.zero_le _, rfl, World.ownsRow_made w #[] 0 (Nat.le_refl _) (by unfold maxLen; omega) rfl, rfl, (Below.refl _ _).alloc (Nat.le_refl _) _⟩
  case round =>
    obtain ⟨k, hk, hkm, rfl, hown, hone, hnx⟩ := hrel
    by_cases hlt : k < ps.length ∧ k < 8
    · obtain ⟨hk1, hk2⟩ := hlt
      obtain ⟨b, off, rfl, hb, hc1, hc2⟩ := hop_at hrow.out hk1
      have hx1 : wr.cell? ⟨b, off + k * 2, none⟩ = some (.int .i64 (ps.getD k (0, false)).1) := (hnx.out.cell (by exact hb)).trans hc1
      have hx2 : wr.cell? ⟨b, off + k * 2 + 1, none⟩ = some (.bool (ps.getD k (0, false)).2) := (hnx.out.cell (by exact hb)).trans hc2
      have hsz := hnx.out.size
      have htk := hidden (take_snocR ps (0, false) k hk1)
      clear hc1 hc2
      generalize ps.getD k (0, false) = p at *
      obtain ⟨x, y⟩ := p
      simp only at hx1 hx2
      go_wp2_with (at_builtin; refine wpList_append_own _ rfl _ _ 26 rfl w.heap.size 45 i0 (.agg #[.int .i64 0, .bool false]) 2 16 Tryz.underlying26 hi hz0 hz1 hz2 rfl (by decide) _ _ _ rfl (hown.out.alloc _) ⟨wr.heap.size, 0, none⟩ 1 1 [.int .i64 x, .bool y] rfl rfl (cells_new _ [_, _] _) ?c2 ?c3 ?c4 ?c5 ?_)
      case c2 => intro u hu; simp at hu; rcases hu with rfl | rfl <;> rfl
      case c3 => unfold maxLen; omega
      case c4 => omega
      case c5 => simp; omega
      · intro v' w1 hown' hgrow _
        have hB : Hid (Below w.heap.size w w1) := (hnx.out.alloc (by omega) _).grown hgrow (by simp; omega) (fun j hj => by have := (hown.out.lt j hj).1; omega)
        have hown2 : Hid (w1.ownsRow w.heap.size 45 2 v' (k + 1) (hopR.flat (ps.take (k + 1)))) := by
          show World.ownsRow _ _ _ _ _ _ _
          rw [htk.out, Rec.flat_app, Rec.flat_one]
          exact hown'
        clear hgrow hown hx1 hx2 hnx
        have hone' : v'.oneCell' = true := by
          rcases hown'.2 with ⟨rfl, _⟩ | ⟨_, _, _, rfl, _⟩ <;> rfl
        clear hown'
        go_wp2
        go_roundw
        case rel => exact ⟨k + 1, by omega, by omega, by go_num, hown2, hone', hB⟩
        case measure => simp [intOf]; omega
    · have hlen : (ps.take k).length = k := by rw [List.length_take]; omega
      have hfin : Hid (SlR hopR wr u3 (ps.take 8)) := by
        have e : ps.take 8 = ps.take k := by
          by_cases hk1 : k < ps.length
          · rw [show k = 8 by omega]
          · rw [List.take_of_length_le (by omega), List.take_of_length_le (by omega)]
        show SlR _ _ _ _
        rw [e]
        refine slR_of_owns (base := w.heap.size) (e := 45) ?_
        rw [hlen]; exact hown.out
      obtain ⟨a1, n1, c1, rfl⟩ : ∃ a n c, u3 = .slice a n c := by
        obtain ⟨a, c, h, _⟩ := hfin.out
        exact ⟨a, _, c, h⟩
      clear hown hlen
      by_cases hk1 : k < ps.length
      · have hk2 : ¬ k < 8 := fun h => hlt ⟨hk1, h⟩
        clear hlt
        go_wp2
        go_ret
        exact ⟨_, _, _, rfl, hfin.out, hnx.out⟩
      · clear hlt
        go_wp2
        go_ret
        exact ⟨_, _, _, rfl, hfin.out, hnx.out⟩
end Go.Proofs.YtfkcopokeofjoaaGreat
/-
  WALKS OVER EDGES: whence and whither a hop leads, where hops lead, at which cost. No function is named here.
-/
namespace Go.Proofs.YtfkcopokeofjoaaGreat
open Go.ChangeShapes Go.WideShapes Go.ChangeAt Go.RowKit

/-- Is there such an edge? -/
def isH (es : List Eg) (h : Hop) : Bool := decide (0 ≤ h.1 ∧ h.1 < es.length)
def edH (es : List Eg) (h : Hop) : Eg := es.getD h.1.toNat Eg.none
/-- Whence, and whither. -/
def begH (es : List Eg) (h : Hop) : Int := if isH es h then (if h.2 then (edH es h).t else (edH es h).f) else 0
def endH (es : List Eg) (h : Hop) : Int := if isH es h then (if h.2 then (edH es h).f else (edH es h).t) else 0
/-- What hops cost. -/
def costH (es : List Eg) (ls : List Hop) : Int := ls.foldl (fun n h => if isH es h then wrap64 (n + (edH es h).w) else n) 0
/-- Where hops end that begin at a. -/
def lastH (es : List Eg) (a : Int) (ls : List Hop) : Int := ls.foldl (fun _ h => endH es h) a
/-- Is it a walk from a on? -/
def okH (es : List Eg) : Int → List Hop → Bool
  | _, [] => true
  | a, h :: r => isH es h && (begH es h == a) && okH es (endH es h) r
/-- The nodes of a walk from a on. -/
def pathH (es : List Eg) (a : Int) (ls : List Hop) : List Int := a :: ls.map (endH es)
theorem costH_snoc (es : List Eg) (ls : List Hop) (h : Hop) : costH es (ls ++ [h]) = if isH es h then wrap64 (costH es ls + (edH es h).w) else costH es ls := by
  unfold costH
  rw [List.foldl_append]
  rfl
theorem lastH_snoc (es : List Eg) (a : Int) (ls : List Hop) (h : Hop) : lastH es a (ls ++ [h]) = endH es h := by
  unfold lastH
  rw [List.foldl_append]
  rfl
theorem okH_app (es : List Eg) : ∀ (ls ms : List Hop) (a : Int), okH es a (ls ++ ms) = (okH es a ls && okH es (lastH es a ls) ms)
  | [], ms, a => by simp [okH, lastH]
  | h :: r, ms, a => by
    rw [List.cons_append, okH, okH, okH_app es r ms (endH es h), show lastH es a (h :: r) = lastH es (endH es h) r from rfl, Bool.and_assoc, Bool.and_assoc, Bool.and_assoc]
theorem okH_snoc (es : List Eg) (a : Int) (ls : List Hop) (h : Hop) : okH es a (ls ++ [h]) = (okH es a ls && (isH es h && (begH es h == lastH es a ls))) := by
  rw [okH_app]
  simp [okH]
theorem pathH_snoc (es : List Eg) (a : Int) (ls : List Hop) (h : Hop) : pathH es a (ls ++ [h]) = pathH es a ls ++ [endH es h] := by
  simp [pathH]
theorem pathH_len (es : List Eg) (a : Int) (ls : List Hop) : (pathH es a ls).length = ls.length + 1 := by simp [pathH]
theorem pathH_last (es : List Eg) (a : Int) (ls : List Hop) : (pathH es a ls).getD ls.length 0 = lastH es a ls := by
  rcases List.eq_nil_or_concat ls with rfl | ⟨l, x, rfl⟩
  · rfl
  · rw [List.concat_eq_append, pathH_snoc, lastH_snoc, List.length_append]
    simp only [List.getD_eq_getElem?_getD]
    rw [List.getElem?_append_right (by rw [pathH_len]; simp)]
    simp [pathH_len]
/-- What fails early fails. -/
theorem okH_take (es : List Eg) (a : Int) (ls : List Hop) (k : Nat) (h : okH es a (ls.take k) = false) : okH es a ls = false := by
  rw [← List.take_append_drop k ls, okH_app, h]
  rfl
/-- What a walk answers: whither, and by which nodes. -/
def walkN (es : List Eg) (N : Nat) (a : Int) (ls : List Hop) : Bool := decide (0 ≤ a ∧ a < N) && okH es a ls
/-- A node's hops of a step. -/
def hopsH (es : List Eg) (n : Int) (s : ByteArray) (back : Bool) : List Hop := ((List.range es.length).filter fun (i : Nat) => decide ((es.getD i Eg.none).l.toList = s.toList) && (begH es ((i : Int), back) == n)).map fun (i : Nat) => ((i : Int), back)
def hopsTo (es : List Eg) (n : Int) (s : ByteArray) (back : Bool) (k : Nat) : List Hop := ((List.range k).filter fun (i : Nat) => decide ((es.getD i Eg.none).l.toList = s.toList) && (begH es ((i : Int), back) == n)).map fun (i : Nat) => ((i : Int), back)
theorem hopsTo_succ (es : List Eg) (n : Int) (s : ByteArray) (back : Bool) (k : Nat) : hopsTo es n s back (k + 1) = hopsTo es n s back k ++ (if (es.getD k Eg.none).l.toList = s.toList ∧ begH es ((k : Int), back) = n then [((k : Int), back)] else []) := by
  unfold hopsTo
  rw [List.range_succ, List.filter_append, List.map_append]
  congr 1
  by_cases h : (es.getD k Eg.none).l.toList = s.toList ∧ begH es ((k : Int), back) = n
  · rw [if_pos h, List.filter_cons, List.filter_nil, if_pos (by rw [Bool.and_eq_true]; exact ⟨decide_eq_true h.1, by rw [h.2]; exact beq_self_eq_true _⟩)]
    rfl
  · rw [if_neg h]
    simp only [List.filter_cons, List.filter_nil]
    rw [if_neg]
    · rfl
    · simpa using h
theorem hopsTo_len (es : List Eg) (n : Int) (s : ByteArray) (back : Bool) (k : Nat) : (hopsTo es n s back k).length ≤ k := by
  unfold hopsTo
  rw [List.length_map]
  exact Nat.le_trans (List.length_filter_le _ _) (by rw [List.length_range]; exact Nat.le_refl _)
end Go.Proofs.YtfkcopokeofjoaaGreat
/-
  HOPS: whence and whither, and at which cost, by contract: the reference's ends; both costs; rows of hops held against each other (where they are the same).
-/
namespace Go.Proofs.YtfkcopokeofjoaaGreat
open Go.ChangeShapes Go.WideShapes Go.ChangeAt Go.RowKit

theorem box2w {x : World} {b : Nat} {c0 c1 : Value} {t : TypeId} (h : x.heap[b]? = some (.cells #[c0, c1] t)) : (x.cell? ⟨b, 0, none⟩ = some c0 ∧ x.cell? ⟨b, 1, none⟩ = some c1) ∧ x.frozen? ⟨b, 0, none⟩ = false ∧ x.frozen? ⟨b, 1, none⟩ = false := by
  simp [World.cell?, World.frozen?, h]
theorem heap_new4 (w : World) (o1 o2 : Obj) : ((w.alloc o1).alloc o2).heap[w.heap.size + 1]? = some o2 := by
  have h := heap_alloc_new (w.alloc o1) o2
  rwa [show (w.alloc o1).heap.size = w.heap.size + 1 by show (w.heap.push o1).size = _; simp] at h
theorem isH_nat {es : List Eg} {k : Nat} {b : Bool} : isH es ((k : Int), b) = decide (k < es.length) := by
  unfold isH
  simp
theorem isH_neg {es : List Eg} {n : Int} {b : Bool} (h : n < 0) : isH es (n, b) = false := by
  unfold isH
  simp
  omega
theorem no_beg {es : List Eg} {h : Hop} (e : isH es h = false) : begH es h = 0 ∧ endH es h = 0 := by simp [begH, endH, e]
set_option maxHeartbeats 1600000 in
set_option maxRecDepth 100000 in
theorem rends_c (es : List Eg) (a : Option Addr) (N c : Nat) (b : Option Addr) (d : Nat) (h : Hop) (w : World) (hrow : RowAt w b (edgeR.flat es)) (_hm : es.length ≤ 1000) :
    Calls Tryz.prog 15 #[.agg #[.slice a N c, .slice b es.length d], .agg #[.int .i64 h.1, .bool h.2]] w fun e w' => e = .returned (.tuple #[.int .i64 (begH es h), .int .i64 (endH es h), .bool (isH es h)]) ∧ Below w.heap.size w w' := by
  obtain ⟨he, hb⟩ := h
  obtain ⟨wb, hwb⟩ : ∃ wb, wb = (w.alloc (.cells #[.slice a N c, .slice b es.length d] 25)).alloc (.cells #[.int .i64 he, .bool hb] 45) := ⟨_, rfl⟩
  have hB0 : Hid (Below w.heap.size w wb) := by rw [hwb]; exact ((Below.refl _ _).alloc (Nat.le_refl _) _).alloc (by simp) _
  have hX0 : wb.heap[w.heap.size]? = some (.cells #[.slice a N c, .slice b es.length d] 25) := by
    rw [hwb]
    exact heap_alloc_old (w.alloc (.cells #[.slice a N c, .slice b es.length d] 25)) _ (by simp) |>.trans (heap_alloc_new w _)
  have hX1 : wb.heap[w.heap.size + 1]? = some (.cells #[.int .i64 he, .bool hb] 45) := by
    rw [hwb]; exact heap_new4 w _ _
  obtain ⟨⟨b0, b1⟩, -⟩ := box2w hX0
  obtain ⟨⟨c0, c1⟩, -⟩ := box2w hX1
  clear hX0 hX1
  by_cases h0 : he < 0
  · have e0 := isH_neg (es := es) (b := hb) h0
    obtain ⟨e1, e2⟩ := no_beg e0
    rw [e0, e1, e2]
    clear e0 e1 e2
    go_enter Tryz.func15, Tryz.ntmps15
    go_wp2_with fail
    rw [← hwb]
    replace hwb := hidden hwb
    go_wp2
    go_ret3
    exact ⟨rfl, hB0.out⟩
  · obtain ⟨k, rfl⟩ : ∃ k : Nat, he = k := ⟨he.toNat, by omega⟩
    have h0' : ¬ (k : Int) < 0 := h0
    by_cases h1 : k < es.length
    · have h1' : (k : Int) < (es.length : Int) := by omega
      have e0 : isH es ((k : Int), hb) = true := by rw [isH_nat]; exact decide_eq_true h1
      have e3 : edH es ((k : Int), hb) = es.getD k Eg.none := by simp [edH]
      obtain ⟨eb, off, rfl, hbb, d0, d1, d2, d3⟩ := edge_at hrow h1
      have x0 := (hB0.out.cell (p := ⟨eb, off + k * 4, none⟩) hbb).trans d0
      have x1 := (hB0.out.cell (p := ⟨eb, off + k * 4 + 1, none⟩) hbb).trans d1
      have x2 := (hB0.out.cell (p := ⟨eb, off + k * 4 + 2, none⟩) hbb).trans d2
      have x3 := (hB0.out.cell (p := ⟨eb, off + k * 4 + 3, none⟩) hbb).trans d3
      rw [show begH es ((k : Int), hb) = if hb then (es.getD k Eg.none).t else (es.getD k Eg.none).f by simp [begH, e0, e3], show endH es ((k : Int), hb) = if hb then (es.getD k Eg.none).f else (es.getD k Eg.none).t by simp [endH, e0, e3], e0]
      clear e0 e3 hrow
      generalize es.getD k Eg.none = p at *
      obtain ⟨pf, pt, pl, pw⟩ := p
      simp only at d0 d1 d2 d3 x0 x1 x2 x3
      have hX := hidden (heap_alloc_new wb (.cells #[.int .i64 pf, .int .i64 pt, .string pl, .int .i64 pw] 63))
      have hB1 : Hid (Below w.heap.size w (wb.alloc (.cells #[.int .i64 pf, .int .i64 pt, .string pl, .int .i64 pw] 63))) := hB0.out.alloc hB0.out.size _
      subst hwb
      cases hb
      all_goals
        go_enter Tryz.func15, Tryz.ntmps15
        go_wp2
        go_quiet (fail)
        go_wp2
        go_ret3
        exact ⟨rfl, by first | exact hB1.out.drew | exact below_drewN hB1.out _ | exact hB1.out⟩
    · have h1' : ¬ (k : Int) < (es.length : Int) := by omega
      have e0 : isH es ((k : Int), hb) = false := by rw [isH_nat]; exact decide_eq_false h1
      obtain ⟨e1, e2⟩ := no_beg e0
      rw [e0, e1, e2]
      clear e0 e1 e2
      go_enter Tryz.func15, Tryz.ntmps15
      go_wp2_with fail
      rw [← hwb]
      replace hwb := hidden hwb
      go_wp2
      go_ret3
      exact ⟨rfl, hB0.out⟩
set_option maxHeartbeats 3200000 in
set_option maxRecDepth 100000 in
theorem pcost_c (es : List Eg) (hs : List Hop) (a : Option Addr) (N c : Nat) (b : Option Addr) (d : Nat) (ha : Option Addr) (hc : Nat) (w : World) (hrow : RowAt w b (edgeR.flat es)) (hv : RowAt w ha (hopR.flat hs)) (_hm : es.length ≤ 1000) (hn : hs.length ≤ 1000) :
    Calls Tryz.prog 7 #[.agg #[.slice a N c, .slice b es.length d], .slice ha hs.length hc] w fun e w' => e = .returned (.int .i64 (costH es hs)) ∧ Below w.heap.size w w' := by
  have hX0 := hidden (heap_alloc_new w (.cells #[.slice a N c, .slice b es.length d] 25))
  have hB0 : Hid (Below w.heap.size w (w.alloc (.cells #[.slice a N c, .slice b es.length d] 25))) := (Below.refl _ _).alloc (Nat.le_refl _) _
  replace hrow := hidden hrow
  replace hv := hidden hv
  go_enter Tryz.func7, Tryz.ntmps7
  go_wp2_with fail
  generalize w.alloc (.cells #[.slice a N c, .slice b es.length d] 25) = x at *
  go_loopw [5, 10] (fun u i wr => ∃ k : Nat, k ≤ hs.length ∧ i = .int .i64 k ∧ u = .int .i64 (costH es (hs.take k)) ∧ Hid (Below x.heap.size x wr))
    (fun _ i _ => hs.length - (intOf i).toNat)
  case atStart => exact ⟨0, Nat.zero_le _, rfl, rfl, Below.refl _ _⟩
  case round =>
    obtain ⟨k, hk, rfl, rfl, hnx⟩ := hrel
    have hby : Hid (Below w.heap.size w wr) := hB0.out.trans (hnx.out.mono hB0.out.size)
    obtain ⟨⟨b0, b1⟩, -⟩ := box2w (box_below hX0.out hnx.out)
    by_cases hlt : k < hs.length
    · have hlt' : (k : Int) < (hs.length : Int) := by omega
      obtain ⟨hb, ho, rfl, hhb, f0, f1⟩ := hop_at (hv.out.below hby.out) hlt
      have htk := hidden (costH_snoc es (hs.take k) (hs.getD k (0, false)))
      rw [← take_snocR hs (0, false) k hlt] at htk
      generalize hs.getD k (0, false) = p at *
      obtain ⟨pe, pb⟩ := p
      simp only at f0 f1
      have hX := hidden (heap_alloc_new wr (.cells #[.int .i64 pe, .bool pb] 45))
      obtain ⟨⟨q0, q1⟩, -⟩ := box2w hX.out
      have hn1 : Hid (Below x.heap.size x (wr.alloc (.cells #[.int .i64 pe, .bool pb] 45))) := hnx.out.alloc hnx.out.size _
      have hby1 : Hid (Below w.heap.size w (wr.alloc (.cells #[.int .i64 pe, .bool pb] 45))) := hB0.out.trans (hn1.out.mono hB0.out.size)
      have hb1 := (hidden (box_below hX0.out hn1.out))
      generalize costH es (hs.take k) = S at *
      by_cases h0 : pe < 0
      · have h0' : ¬ 0 ≤ pe := by omega
        rw [isH_neg h0] at htk
        go_wp2
        go_roundw
        case rel => exact ⟨k + 1, by omega, by go_num, by rw [htk.out]; rfl, hn1⟩
        case measure => simp [intOf]; omega
      · obtain ⟨j, rfl⟩ : ∃ j : Nat, pe = j := ⟨pe.toNat, by omega⟩
        have h0' : (0 : Int) ≤ (j : Int) := by omega
        rw [isH_nat] at htk
        obtain ⟨⟨g0, g1⟩, -⟩ := box2w hb1.out
        by_cases hj : j < es.length
        · have hj' : (j : Int) < (es.length : Int) := by omega
          obtain ⟨eb, off, rfl, hbb, d0, d1, d2, d3⟩ := edge_at (hrow.out.below hby1.out) hj
          rw [decide_eq_true hj, if_pos rfl, show edH es ((j : Int), pb) = es.getD j Eg.none by simp [edH]] at htk
          generalize es.getD j Eg.none = p at *
          obtain ⟨pf, pt, pl, pw⟩ := p
          simp only at d0 d1 d2 d3 htk
          go_wp2
          go_roundw
          case rel => exact ⟨k + 1, by omega, by go_num, by rw [htk.out], hn1⟩
          case measure => simp [intOf]; omega
        · have hj' : ¬ (j : Int) < (es.length : Int) := by omega
          rw [decide_eq_false hj] at htk
          go_wp2
          go_roundw
          case rel => exact ⟨k + 1, by omega, by go_num, by rw [htk.out]; rfl, hn1⟩
          case measure => simp [intOf]; omega
    · have hlt' : ¬ (k : Int) < (hs.length : Int) := by omega
      obtain rfl : k = hs.length := by omega
      rw [List.take_length]
      clear b0 b1
      go_wp2
      go_ret
      exact ⟨rfl, hby.out⟩
set_option maxHeartbeats 3200000 in
set_option maxRecDepth 100000 in
theorem rcost_c (es : List Eg) (hs : List Hop) (a : Option Addr) (N c : Nat) (b : Option Addr) (d : Nat) (ha : Option Addr) (hc : Nat) (w : World) (hrow : RowAt w b (edgeR.flat es)) (hv : RowAt w ha (hopR.flat hs)) (_hm : es.length ≤ 1000) (hn : hs.length ≤ 1000) :
    Calls Tryz.prog 8 #[.agg #[.slice a N c, .slice b es.length d], .slice ha hs.length hc] w fun e w' => e = .returned (.int .i64 (costH es hs)) ∧ Below w.heap.size w w' := by
  have hX0 := hidden (heap_alloc_new w (.cells #[.slice a N c, .slice b es.length d] 25))
  have hB0 : Hid (Below w.heap.size w (w.alloc (.cells #[.slice a N c, .slice b es.length d] 25))) := (Below.refl _ _).alloc (Nat.le_refl _) _
  replace hrow := hidden hrow
  replace hv := hidden hv
  go_enter Tryz.func8, Tryz.ntmps8
  go_wp2_with fail
  generalize w.alloc (.cells #[.slice a N c, .slice b es.length d] 25) = x at *
  go_loopw [5, 6] (fun u i wr => ∃ k : Nat, k ≤ hs.length ∧ i = .int .i64 k ∧ u = .int .i64 (costH es (hs.take k)) ∧ Hid (Below x.heap.size x wr))
    (fun _ i _ => hs.length - (intOf i).toNat)
  case atStart => exact ⟨0, Nat.zero_le _, rfl, rfl, Below.refl _ _⟩
  case round =>
    obtain ⟨k, hk, rfl, rfl, hnx⟩ := hrel
    have hby : Hid (Below w.heap.size w wr) := hB0.out.trans (hnx.out.mono hB0.out.size)
    obtain ⟨⟨b0, b1⟩, -⟩ := box2w (box_below hX0.out hnx.out)
    by_cases hlt : k < hs.length
    · have hlt' : (k : Int) < (hs.length : Int) := by omega
      obtain ⟨hb, ho, rfl, hhb, f0, f1⟩ := hop_at (hv.out.below hby.out) hlt
      have htk := hidden (costH_snoc es (hs.take k) (hs.getD k (0, false)))
      rw [← take_snocR hs (0, false) k hlt] at htk
      generalize hs.getD k (0, false) = p at *
      obtain ⟨pe, pb⟩ := p
      simp only at f0 f1
      generalize costH es (hs.take k) = S at *
      by_cases h0 : pe < 0
      · have h0' : ¬ 0 ≤ pe := by omega
        have hd : decide (0 ≤ pe) = false := decide_eq_false h0'
        rw [isH_neg h0] at htk
        go_wp2
        go_quiet (fail)
        go_wp2
        go_roundw
        case rel => exact ⟨k + 1, by omega, by go_num, by rw [htk.out]; rfl, by first | exact hnx.out.drew | exact below_drewN hnx.out _ | exact hnx⟩
        case measure => simp [intOf]; omega
      · obtain ⟨j, rfl⟩ : ∃ j : Nat, pe = j := ⟨pe.toNat, by omega⟩
        have h0' : (0 : Int) ≤ (j : Int) := by omega
        rw [isH_nat] at htk
        by_cases hj : j < es.length
        · have hj' : (j : Int) < (es.length : Int) := by omega
          obtain ⟨eb, off, rfl, hbb, d0, d1, d2, d3⟩ := edge_at (hrow.out.below hby.out) hj
          rw [decide_eq_true hj, if_pos rfl, show edH es ((j : Int), pb) = es.getD j Eg.none by simp [edH]] at htk
          generalize es.getD j Eg.none = p at *
          obtain ⟨pf, pt, pl, pw⟩ := p
          simp only at d0 d1 d2 d3 htk
          go_wp2
          go_quiet (fail)
          go_wp2
          go_quiet (fail)
          go_wp2
          go_roundw
          case rel => exact ⟨k + 1, by omega, by go_num, by rw [htk.out], by first | exact hnx.out.drew | exact hnx.out.drew.drew | exact below_drewN hnx.out _ | exact hnx⟩
          case measure => simp [intOf]; omega
        · have hj' : ¬ (j : Int) < (es.length : Int) := by omega
          rw [decide_eq_false hj] at htk
          go_wp2
          go_quiet (fail)
          go_wp2
          go_roundw
          case rel => exact ⟨k + 1, by omega, by go_num, by rw [htk.out]; rfl, by first | exact hnx.out.drew | exact below_drewN hnx.out _ | exact hnx⟩
          case measure => simp [intOf]; omega
    · have hlt' : ¬ (k : Int) < (hs.length : Int) := by omega
      obtain rfl : k = hs.length := by omega
      rw [List.take_length]
      clear b0 b1
      go_wp2
      go_ret
      exact ⟨rfl, hby.out⟩
set_option maxHeartbeats 3200000 in
set_option maxRecDepth 100000 in
theorem hsame_c (va vb : Value) (ps : List Hop) (w : World) (hva : HoldsR hopR w va ps) (hvb : HoldsR hopR w vb ps) (hx : ps.length ≤ 2000000) :
    Calls Tryz.prog 16 #[va, vb] w fun e w' => e = .returned (.bool true) ∧ Below w.heap.size w w' := by
  obtain ⟨a, cap, rfl, hra⟩ := hva
  obtain ⟨b, cap', rfl, hrb⟩ := hvb
  replace hra := hidden hra
  replace hrb := hidden hrb
  go_enter Tryz.func16, Tryz.ntmps16
  go_wp2
  go_loopw [5] (fun i wr => ∃ k : Nat, k ≤ ps.length ∧ i = .int .i64 k ∧ Hid (Below w.heap.size w wr))
    (fun i _ => ps.length - (intOf i).toNat)
  case atStart => exact ⟨0, Nat.zero_le _, rfl, Below.refl _ _⟩
  case round =>
    obtain ⟨k, hk, rfl, hnx⟩ := hrel
    by_cases hlt : k < ps.length
    · obtain ⟨b1, o1, rfl, hb1, c1, c2⟩ := hop_at (hra.out.below hnx.out) hlt
      obtain ⟨b2, o2, rfl, hb2, d1, d2⟩ := hop_at (hrb.out.below hnx.out) hlt
      have hj1 : (k : Int) < (ps.length : Int) := by omega
      generalize ps.getD k (0, false) = p at *
      obtain ⟨pa, pb⟩ := p
      simp only at c1 c2 d1 d2
      go_wp2
      go_quiet (fail)
      go_wp2
      go_roundw
      case rel => exact ⟨k + 1, by omega, by go_num, by first | exact hnx.out.drew | exact below_drewN hnx.out _ | exact hnx⟩
      case measure => simp [intOf]; omega
    · go_wp2
      go_ret
      exact ⟨rfl, hnx.out⟩
end Go.Proofs.YtfkcopokeofjoaaGreat
/-
  WALKS: where hops lead, by which nodes, by contract: the reference's and the program's (what csr tells is premised); the reference's hops of a step.
-/
namespace Go.Proofs.YtfkcopokeofjoaaGreat
open Go.ChangeShapes Go.WideShapes Go.ChangeAt Go.RowKit

theorem wpList_appH {P : Program} (w : World) {ops : Array Oper} {rest : List Oper} {o : Oper} {a : Act} {Q : Exit → Act → World → Prop} {α : Type} (R : Rec α)
    (hg : o.guard = none) (s x : Operand) (t : TypeId) (hop : o.op = Op.call { callee := Callee.builtin Builtin.append, args := #[s, x], argTypes := #[t, t] })
    (base : Nat) (e : TypeId) (i : TypeInfo) (z : Value) (size bytes : Nat) (h1 : P.underlying t = some (.slice e)) (h2 : P.info? e = some i) (h3 : i.zero = some z) (h4 : i.size = size) (h5 : i.bytes = bytes) (h6 : z.cells.size = size) (hR : R.n = size)
    {v : Value} {n : Nat} {xs : List Value} (hs : a.eval s = v) (hown : w.ownsRow base e size v n xs) {vx : Value} {qs : List α} (hx : a.eval x = vx) (hsl : SlR R w vx qs)
    (b1 : n + qs.length ≤ maxLen) (b2 : (n + qs.length) * bytes ≤ 140737488355328) (hbase : base ≤ w.heap.size)
    (hK : ∀ v' w', w'.ownsRow base e size v' (n + qs.length) (xs ++ R.flat qs) → w.grownBy w' v.ownBlock → wpList P ops Q rest (a.put o.dst v') w') : wpList P ops Q (o :: rest) a w := by
  refine wpList_plain hg fun K hK' => ?_
  obtain ⟨v', w', hr, r2, r3, r4⟩ := run_appR (P := P) (R := R) w base t o.type e i z size bytes h1 h2 h3 h4 h5 h6 hR hown hsl b1 b2 hbase
  unfold Oper.wp execOp
  simp only [hop, resolve, invoke, builtin, Sem.run_bind, Sem.run_pure, Result.andThen_ok, List.map_toArray, List.map_cons, List.map_nil, hs, hx, hr]
  exact hK' _ _ (hK v' w' r2 r3)
def intR : Rec Int := ⟨fun x => [.int .i64 x], 1, by decide, fun _ => rfl, fun p u hu => by simp at hu; rw [hu]; rfl, 0⟩
theorem intR_flat (l : List Int) : intR.flat l = l.map (Value.int .i64) := by
  induction l with
  | nil => rfl
  | cons x r ih => rw [Rec.flat_cons, ih]; rfl
theorem intR_holds {w : World} {v : Value} {l : List Int} (h : HoldsR intR w v l) : Holds w v (l.map (Value.int .i64)) := by
  obtain ⟨a, c, h1, h2⟩ := h
  rw [intR_flat] at h2
  exact ⟨a, c, by rw [List.length_map]; exact h1, h2⟩
/-- A number's cell in an own row. -/
theorem int_at {w : World} {B e n : Nat} {v : Value} {l : List Int} (h : w.ownsRow B e 1 v n (intR.flat l)) (hn : n = l.length) {k : Nat} (hk : k < l.length) :
    ∃ b off c, v = .slice (some ⟨b, off, none⟩) n c ∧ w.cell? ⟨b, off + k, none⟩ = some (.int .i64 (l.getD k 0)) := by
  subst hn
  obtain ⟨a, c, h1, h2⟩ := holdsR_of_owns (R := intR) h
  obtain ⟨b, off, rfl, _, h3⟩ := rec_at h2 hk
  have h4 := h3 0 _ rfl
  exact ⟨b, off, c, h1, by rw [show off + k * intR.n + 0 = off + k from by show off + k * 1 + 0 = _; omega] at h4; exact h4⟩
theorem walkN_no {es : List Eg} {N : Nat} {a : Int} {ls : List Hop} (h : okH es a ls = false) : walkN es N a ls = false := by simp [walkN, h]
theorem walkN_out {es : List Eg} {N : Nat} {a : Int} {ls : List Hop} (h : ¬ (0 ≤ a ∧ a < N)) : walkN es N a ls = false := by simp [walkN]; omega
theorem walkN_yes {es : List Eg} {N : Nat} {a : Int} {ls : List Hop} (h : 0 ≤ a ∧ a < N) (h2 : okH es a ls = true) : walkN es N a ls = true := by simp [walkN, h2]; omega
/-- What a walk answers. -/
def WalkA (es : List Eg) (N : Nat) (a : Int) (ls : List Hop) (z : World) (e : Ending) (w' : World) : Prop :=
  ∃ v, e = .returned (.tuple #[.int .i64 (if walkN es N a ls then lastH es a ls else 0), v, .bool (walkN es N a ls)]) ∧ Holds w' v ((if walkN es N a ls then pathH es a ls else []).map (Value.int .i64)) ∧ Below z.heap.size z w'
theorem walkA_no {es : List Eg} {N : Nat} {a : Int} {ls : List Hop} {z w' : World} (h : walkN es N a ls = false) (hB : Below z.heap.size z w') : WalkA es N a ls z (.returned (.tuple #[.int .i64 0, .slice none 0 0, .bool false])) w' :=
  ⟨.slice none 0 0, by rw [h]; rfl, by rw [h]; exact ⟨none, 0, rfl, .inl rfl⟩, hB⟩
set_option maxHeartbeats 3200000 in
set_option maxRecDepth 100000 in
theorem rwalk_c (es : List Eg) (hs : List Hop) (a : Option Addr) (N c : Nat) (b : Option Addr) (d : Nat) (fr : Int) (ha : Option Addr) (hc : Nat) (w : World) (_hN : N ≤ 1000) (hrow : RowAt w b (edgeR.flat es)) (hv : RowAt w ha (hopR.flat hs)) (hm : es.length ≤ 1000) (hn : hs.length ≤ 1000) :
    Calls Tryz.prog 12 #[.agg #[.slice a N c, .slice b es.length d], .int .i64 fr, .slice ha hs.length hc] w fun e w' => WalkA es N fr hs w e w' := by
  obtain ⟨i0, hi, hz0, hz1, hz2⟩ := info_parts infoInt
  obtain ⟨x, hx⟩ : ∃ x, x = w.alloc (.cells #[.slice a N c, .slice b es.length d] 25) := ⟨_, rfl⟩
  have hX0 : Hid (x.heap[w.heap.size]? = some (.cells #[.slice a N c, .slice b es.length d] 25)) := by rw [hx]; exact heap_alloc_new w _
  have hB0 : Hid (Below w.heap.size w x) := by rw [hx]; exact (Below.refl _ _).alloc (Nat.le_refl _) _
  have hends := hidden fun z (hz : Below w.heap.size w z) h => rends_c es a N c b d h z (hrow.below hz) hm
  replace hv := hidden hv
  clear hrow hm
  by_cases hf : 0 ≤ fr ∧ fr < N
  · obtain ⟨hf0, hf1⟩ := id hf
    have hf0' : ¬ fr < 0 := by omega
    have hf1' : ¬ (N : Int) ≤ fr := by omega
    have hwx : x.heap.size = w.heap.size + 1 := by rw [hx]; simp
    have hO0 : Hid ((x.alloc (.cells #[.int .i64 fr] 3)).ownsRow x.heap.size 3 1 (.slice (some ⟨w.heap.size + 1, 0, none⟩) 1 1) 1 (intR.flat (pathH es fr (hs.take 0)))) := hidden (by
      rw [← hwx]
      exact ⟨rfl, .inr ⟨x.heap.size, 1, #[.int .i64 fr], rfl, Nat.le_refl _, heap_alloc_new x _, Nat.le_refl _, by unfold maxLen; omega, rfl, rfl⟩⟩)
    have hk0 : Hid (Below x.heap.size x (x.alloc (.cells #[.int .i64 fr] 3))) := hidden ((Below.refl _ _).alloc (Nat.le_refl _) _)
    replace hf := hidden hf
    subst hx
    go_enter Tryz.func12, Tryz.ntmps12
    go_wp2_with fail
    generalize (w.alloc (.cells #[.slice a N c, .slice b es.length d] 25)).alloc (.cells #[.int .i64 fr] 3) = x1 at *
    generalize w.alloc (.cells #[.slice a N c, .slice b es.length d] 25) = x at *
    replace hwx := hidden hwx
    go_loopw [9, 10] (fun u i wr => ∃ k : Nat, k ≤ hs.length ∧ i = .int .i64 k ∧ Hid (okH es fr (hs.take k) = true) ∧ Hid (wr.ownsRow x.heap.size 3 1 u (k + 1) (intR.flat (pathH es fr (hs.take k)))) ∧ Hid (Below x.heap.size x wr))
      (fun _ i _ => hs.length - (intOf i).toNat)
    case atStart => exact ⟨0, Nat.zero_le _, rfl, rfl, hO0, hk0⟩
    case round =>
      clear hO0 hk0
      obtain ⟨k, hk, rfl, hok, hown, hnx⟩ := hrel
      have hby : Hid (Below w.heap.size w wr) := hB0.out.trans (hnx.out.mono hB0.out.size)
      by_cases hlt : k < hs.length
      · have hlt' : (k : Int) < (hs.length : Int) := by omega
        have hlt2 : (k : Int) < ((k + 1 : Nat) : Int) := by omega
        obtain ⟨⟨b0, b1⟩, -⟩ := box2w (box_below hX0.out hnx.out)
        obtain ⟨hb, ho, rfl, hhb, f0, f1⟩ := hop_at (hv.out.below hby.out) hlt
        have hpl : (hs.take k).length = k := by rw [List.length_take]; omega
        obtain ⟨ob, oo, oc, rfl, hoc⟩ := int_at hown.out (by rw [pathH_len, hpl]) (k := k) (by rw [pathH_len, hpl]; omega)
        have hpk := pathH_last es fr (hs.take k)
        rw [hpl] at hpk
        rw [hpk] at hoc
        have hon := hidden (okH_snoc es fr (hs.take k) (hs.getD k (0, false)))
        have hpn := hidden (pathH_snoc es fr (hs.take k) (hs.getD k (0, false)))
        rw [← take_snocR hs (0, false) k hlt] at hon hpn
        rw [hok.out, Bool.true_and] at hon
        have hcl := fun z hz => hends.out z hz (hs.getD k (0, false))
        generalize hs.getD k (0, false) = p at *
        generalize lastH es fr (hs.take k) = la at *
        generalize begH es p = q0 at *
        generalize endH es p = q1 at *
        generalize isH es p = q2 at *
        obtain ⟨pe, pb⟩ := p
        simp only at f0 f1 hcl
        have hoc2 : ∀ z, Below wr.heap.size wr z → z.cell? ⟨ob, oo + k, none⟩ = some (.int .i64 la) := fun z hz => (hz.cell (p := ⟨ob, oo + k, none⟩) (by
          have h5 := (hown.out.lt ob rfl).2
          exact h5)).trans hoc
        replace hoc2 := hidden hoc2
        clear hpl hpk hoc
        go_wp2_with fail
        go_region_with (first | (go_at_call 15; refine (hcl _ hby.out.drew).mono ?_; rintro e w1 ⟨rfl, hB1⟩; have kk := hidden hB1))
        all_goals
          have hd : Hid (Below wr.heap.size wr w1) := (Below.refl _ _).drew.trans kk.out
          have hn1 : Hid (Below x.heap.size x w1) := hnx.out.trans (hd.out.mono hnx.out.size)
          have ho1 := hidden (owns_keep hown.out hd.out)
          have hc1 := hoc2.out w1 hd.out
          have hby1 : Hid (Below w.heap.size w w1) := hB0.out.trans (hn1.out.mono hB0.out.size)
          clear kk hd hoc2 hown hnx hby b0 b1 f0 f1 hcl
          cases q2 with
          | false =>
            have hno : Hid (walkN es N fr hs = false) := hidden (walkN_no (okH_take es fr hs (k + 1) (by rw [hon.out]; rfl)))
            clear ho1 hc1 hon hpn
            go_wp2
            go_ret3
            exact walkA_no hno.out hby1.out
          | true =>
            by_cases hq : q0 = la
            · have hq1 : (q0 != la) = false := by simp [hq]
              have hyes : Hid (okH es fr (hs.take (k + 1)) = true) := hidden (by rw [hon.out, hq]; simp)
              clear hon
              subst hq
              have hone := hidden (SlR.oneR (R := intR) w1 q1 3)
              go_wp2_with (at_builtin; go_loud (refine wpList_appH _ intR rfl _ _ 37 rfl x.heap.size 3 i0 (.int .i64 0) 1 8 Tryz.underlying37 hi hz0 hz1 hz2 rfl rfl rfl (owns_keep ho1.out ((Below.refl _ _).alloc (Nat.le_refl _) _)) rfl (hone.out) (by show _ + 1 ≤ _; unfold maxLen; omega) (by show (_ + 1) * 8 ≤ _; omega) (by have := hn1.out.size; show _ ≤ (w1.heap.push _).size; simp; omega) ?_); intro v' w5 hown5 hgrow5)
              have hk5 : Hid (Below x.heap.size x w5) := hidden ((hn1.out.alloc hn1.out.size _).grown hgrow5 (hn1.out.alloc hn1.out.size (.cells #[.int .i64 q1] 3)).size (fun j hj => (ho1.out.lt j hj).1))
              have hO5 : Hid (w5.ownsRow x.heap.size 3 1 v' (k + 1 + 1) (intR.flat (pathH es fr (hs.take (k + 1))))) := hidden (by
                rw [hpn.out, Rec.flat_app]
                exact hown5)
              clear hown5 hgrow5 ho1 hc1 hn1 hone hpn
              go_wp2
              go_roundw
              case rel => exact ⟨k + 1, by omega, by go_num, hyes, hO5, hk5⟩
              case measure => simp [intOf]; omega
            · have hq1 : (q0 != la) = true := by simp [hq]
              have hno : Hid (walkN es N fr hs = false) := hidden (walkN_no (okH_take es fr hs (k + 1) (by rw [hon.out]; simp [hq])))
              clear ho1 hon hpn
              replace hq := hidden hq
              go_wp2
              go_ret3
              exact walkA_no hno.out hby1.out
      · have hlt' : ¬ (k : Int) < (hs.length : Int) := by omega
        obtain rfl : k = hs.length := by omega
        have hlt2 : (hs.length : Int) < ((hs.length + 1 : Nat) : Int) := by omega
        have hpl : (hs.take hs.length).length = hs.length := by rw [List.take_length]
        obtain ⟨ob, oo, oc, rfl, hoc⟩ := int_at hown.out (by rw [pathH_len, hpl]) (k := hs.length) (by rw [pathH_len, hpl]; omega)
        rw [List.take_length] at hoc hok hown
        rw [pathH_last] at hoc
        have hfin : Hid (WalkA es N fr hs w (.returned (.tuple #[.int .i64 (lastH es fr hs), .slice (some ⟨ob, oo, none⟩) (hs.length + 1) oc, .bool true])) wr) := hidden ⟨_, by rw [walkN_yes hf.out hok.out]; rfl, by
          rw [walkN_yes hf.out hok.out, if_pos rfl]
          refine intR_holds (holdsR_of_owns (R := intR) (base := x.heap.size) (e := 3) ?_)
          rw [pathH_len]
          exact hown.out, hby.out⟩
        clear hpl hok hown hf
        go_wp2
        go_ret3
        exact hfin.out
  · have hno := hidden (walkN_out (es := es) (ls := hs) hf)
    subst hx
    by_cases hf0 : fr < 0
    · clear hf
      go_enter Tryz.func12, Tryz.ntmps12
      go_wp2
      go_ret3
      exact walkA_no hno.out hB0.out
    · have hf1' : (N : Int) ≤ fr := by omega
      clear hf
      go_enter Tryz.func12, Tryz.ntmps12
      go_wp2
      go_ret3
      exact walkA_no hno.out hB0.out
end Go.Proofs.YtfkcopokeofjoaaGreat
