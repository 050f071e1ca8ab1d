/-
  A MAP OF ROWS OF RECORDS THAT THE CALL ITSELF HAS MADE (m[k] = append(m[k], x)), its keys texts. No function is named here.
-/
import Derived.Test.YtnmjhbnadfjapaaRec
import Derived.Test.YtnmjhbnadfjapaaGRel
import Derived.Maps.GroupsBeside
import Derived.Maps.AppendAt
import Derived.Deep.DeepHandedRow
import Derived.Test.YtnmjhbnadfjapaaGOwnC
namespace Go.Proofs.Ytnmjhbnadfjapaa
open Go.ChangeShapes Go.WideShapes Go.ChangeAt Go.RowKit Go.Maps Go.MapKept
open Go.ChangeMaps (setBlock heap_setBlock_same heap_setBlock_other)
open Go.WideElems (Fit rd rg pl rd_val rd_key)

/-- A reader that reads nothing. -/
abbrev nilR : Value → Option (DataW Unit × List MemPlace) := fun _ => some (.nil, [])
variable {α : Type}
/-- The map at mb holds, at each key, the row of what f says; the rows lie from base on, no two of them in one block. -/
structure RMap (P : Program) (k : TypeId) (R : Rec α) (e : TypeId) (base mb n : Nat) (f : ByteArray → List α) (es : Array MapEntry) (clock : Nat) (w : World) : Prop where
  blk : w.heap[mb]? = some (.map es clock)
  fit : Fit P k nilR es clock
  size : es.size ≤ n
  rows : ∀ x ∈ es.toList, ∃ s, x.key = .string s ∧ w.ownsRow base e R.n x.val (f s).length (R.flat (f s))
  has : ∀ s, f s ≠ [] → ∃ x ∈ es.toList, x.key = .string s
  apart : ∀ x ∈ es.toList, ∀ y ∈ es.toList, x.key ≠ y.key → x.val.ownBlock = none ∨ x.val.ownBlock ≠ y.val.ownBlock
def RMapE (P : Program) (k : TypeId) (R : Rec α) (e : TypeId) (base mb n : Nat) (f : ByteArray → List α) (w : World) : Prop := ∃ es clock, RMap P k R e base mb n f es clock w
variable {P : Program} {k : TypeId} {R : Rec α} {e : TypeId} {base mb n : Nat} {f : ByteArray → List α} {w w' : World}
theorem RMapE.made (w : World) (P : Program) (k : TypeId) (R : Rec α) (e : TypeId) (base : Nat) : RMapE P k R e base w.heap.size 0 (fun _ => []) (w.alloc (.map #[] 0)) :=
  ⟨#[], 0, (MapKept.heap_alloc w _).1, ⟨by simp, Go.MapKept.stamped_empty 0, by simp⟩, Nat.le_refl _, by simp, fun s h => absurd rfl h, by simp⟩
theorem cells_no_map {w : World} {B t s n mb : Nat} {v : Value} {xs : List Value} {es : Array MapEntry} {clock : Nat} (h : w.ownsRow B t s v n xs) (hb : w.heap[mb]? = some (.map es clock)) : v.ownBlock ≠ some mb := fun e1 => by
  rcases h.2 with ⟨rfl, _⟩ | ⟨g, cap, cur, rfl, _, h3, _⟩
  · cases e1
  · simp only [Value.ownBlock, Option.some.injEq] at e1
    subst e1
    rw [h3] at hb
    cases hb
theorem rowk {x z : World} {row : Option Nat} {B t s n : Nat} {v : Value} {xs : List Value} (h : x.ownsRow B t s v n xs) (hg : x.grownBy z row) (hne : v.ownBlock = none ∨ v.ownBlock ≠ row) : z.ownsRow B t s v n xs := h.kept hg hne
/-- Over whatever turns neither the map's block nor one of cells of the rows' type. -/
theorem RMapE.kept {row : Option Nat} (h : RMapE P k R e base mb n f w) (hg : w.grownBy w' row) (h1 : some mb ≠ row) (h2 : ∀ g, row = some g → ∀ cs, w.heap[g]? ≠ some (.cells cs e)) : RMapE P k R e base mb n f w' := by
  obtain ⟨es, clock, hb, F, hs, hr, hh, ha⟩ := h
  refine ⟨es, clock, (hg.block mb (Array.getElem?_eq_some_iff.1 hb).1 h1).trans hb, F, hs, fun x hx => ?_, hh, ha⟩
  obtain ⟨s, e1, ho⟩ := hr x hx
  refine ⟨s, e1, rowk ho hg ?_⟩
  rcases ho.2 with ⟨e2, _⟩ | ⟨g, cap, cur, e2, _, h3, _⟩
  · rw [e2]; exact .inl rfl
  · rw [e2]
    exact .inr fun e3 => h2 g e3.symm _ h3
theorem RMapE.lt (h : RMapE P k R e base mb n f w) : mb < w.heap.size := by
  obtain ⟨es, clock, hb, _⟩ := h
  exact (Array.getElem?_eq_some_iff.1 hb).1
theorem RMapE.below (h : RMapE P k R e base mb n f w) (hB : Below w.heap.size w w') : RMapE P k R e base mb n f w' :=
  h.kept (row := none) ⟨hB.os, hB.tape, hB.output, hB.size, fun j hj _ => hB.block j hj⟩ (by simp) (fun g e1 => by cases e1)
/-- Over a row of other cells that grows. -/
theorem RMapE.grown {B2 t2 s2 n2 : Nat} {v2 : Value} {xs2 : List Value} (h : RMapE P k R e base mb n f w) (ho : w.ownsRow B2 t2 s2 v2 n2 xs2) (ht : t2 ≠ e) (hg : w.grownBy w' v2.ownBlock) : RMapE P k R e base mb n f w' := by
  obtain ⟨es, clock, hm⟩ := id h
  refine h.kept hg (fun e1 => cells_no_map ho hm.blk e1.symm) fun g e1 cs hc => ?_
  rcases ho.2 with ⟨e2, _⟩ | ⟨g', cap, cur, e2, _, h3, _⟩
  · rw [e2] at e1; cases e1
  · rw [e2] at e1
    simp only [Value.ownBlock, Option.some.injEq] at e1
    subst e1
    rw [h3] at hc
    injection hc with hc
    injection hc with _ hc _
    exact ht hc
theorem RMapE.mono (h : RMapE P k R e base mb n f w) {n' : Nat} (hn : n ≤ n') : RMapE P k R e base mb n' f w := by
  obtain ⟨es, clock, hb, F, hs, hr, hh, ha⟩ := h
  exact ⟨es, clock, hb, F, Nat.le_trans hs hn, hr, hh, ha⟩
/-- The way back: a store at the key, of the row that it had, grown, or of a new one. -/
def RBack (P : Program) (t k : TypeId) (R : Rec α) (e : TypeId) (base mb n : Nat) (f : ByteArray → List α) (s : ByteArray) (v : Value) (w : World) : Prop :=
  ∀ (w1 : World) (v' : Value) (L' : List α), w.grownBy w1 v.ownBlock → w1.ownsRow base e R.n v' L'.length (R.flat L') → (v'.ownBlock = v.ownBlock ∨ ∃ g, v'.ownBlock = some g ∧ w.heap.size ≤ g) →
    ∃ w2, (Instr.mapUpdate t (.map (some mb)) (.string s) v').run P w1 = .ok () w2 ∧ RMapE P k R e base mb (n + 1) (fun u => if u = s then L' else f u) w2 ∧ w1.grownBy w2 (some mb)
theorem RMapE.at {t E : TypeId} {s : ByteArray} {kl : Lit} (h : RMapE P k R e base mb n f w) (K : Keyed P k) (ht : P.underlying t = some (.map k E)) (hz : ∀ W, (zeroValue E).run P W = .ok (.slice none 0 0) W) (hn : n < maxLen) (hkey : keyOf P k (.string s) = some kl) :
    ∃ v, (∀ z : World, z.heap[mb]? = w.heap[mb]? → (Instr.lookup t (.map (some mb)) (.string s) false).run P z = .ok v z) ∧ w.ownsRow base e R.n v (f s).length (R.flat (f s)) ∧ RBack P t k R e base mb n f s v w := by
  obtain ⟨es, clock, hb, F, hs, hr, hh, ha⟩ := h
  -- the value, and what holds of it
  obtain ⟨v, hrun, hown, hvap⟩ : ∃ v, (∀ z : World, z.heap[mb]? = w.heap[mb]? → (Instr.lookup t (.map (some mb)) (.string s) false).run P z = .ok v z) ∧ w.ownsRow base e R.n v (f s).length (R.flat (f s)) ∧ ∀ x ∈ es.toList, x.key ≠ .string s → x.val.ownBlock = none ∨ x.val.ownBlock ≠ v.ownBlock := by
    rcases Maps.fit_look false K ht (hz w) hb F hkey with ⟨hrun, hno, _⟩ | ⟨e0, y, hm0, h3, hrun, _, _, _⟩
    · have hf : f s = [] := Classical.byContradiction fun hne => by
        obtain ⟨x, hx, e1⟩ := hh s hne
        exact hno x hx e1
      refine ⟨.slice none 0 0, fun z hz9 => ?_, by rw [hf]; exact World.ownsRow_nil .., fun x _ _ => ?_⟩
      · rcases Maps.fit_look false K ht (hz z) (hz9.trans hb) F hkey with ⟨hrun2, _, _⟩ | ⟨e1, _, hm1, h4, _⟩
        · exact hrun2
        · exact absurd h4 (hno e1 hm1)
      cases x.val.ownBlock <;> simp [Value.ownBlock]
    · obtain ⟨s', e1, ho⟩ := hr e0 hm0
      rw [h3] at e1
      obtain rfl : s = s' := by injection e1
      refine ⟨e0.val, fun z hz9 => ?_, ho, fun x hx hne => ha x hx e0 hm0 (by rw [h3]; exact hne)⟩
      rcases Maps.fit_look false K ht (hz z) (hz9.trans hb) F hkey with ⟨_, hno, _⟩ | ⟨e1, _, hm1, h4, hrun2, _⟩
      · exact absurd h3 (hno e0 hm0)
      · rw [hrun2]
        have : e1 = e0 := by
          have hp := fit_apart K F
          rw [List.pairwise_map] at hp
          obtain ⟨i, hi, e5⟩ := List.getElem_of_mem hm1
          obtain ⟨j, hj, e6⟩ := List.getElem_of_mem hm0
          have hkk : (rg P k nilR e1).1 = (rg P k nilR e0).1 := by
            obtain ⟨y1, hy1⟩ := F.reads e1 hm1
            obtain ⟨y0, hy0⟩ := F.reads e0 hm0
            have k1 := rd_key hy1
            have k0 := rd_key hy0
            rw [h4] at k1
            rw [h3] at k0
            rw [Go.WideElems.rg_of hy1, Go.WideElems.rg_of hy0]
            rw [k1] at k0
            injection k0
          rcases Nat.lt_trichotomy i j with h7 | h7 | h7
          · have := List.pairwise_iff_getElem.1 hp i j hi hj h7
            rw [e5, e6] at this
            exact absurd hkk this
          · subst h7
            rw [← e5, ← e6]
          · have := List.pairwise_iff_getElem.1 hp j i hj hi h7
            rw [e5, e6] at this
            exact absurd hkk.symm this
        rw [this]
        rfl
  refine ⟨v, hrun, hown, fun w1 v' L' hg hown' hloc => ?_⟩
  have hvb := cells_no_map hown hb
  have hblt : mb < w.heap.size := (Array.getElem?_eq_some_iff.1 hb).1
  have hb1 : w1.heap[mb]? = some (.map es clock) := (hg.block mb hblt (fun e1 => hvb e1.symm)).trans hb
  obtain ⟨es', clock', hrun', F', hput, _, _, hwho⟩ := Maps.fit_store (R' := nilR) (val := v') K ht hb1 F (Nat.lt_of_le_of_lt hs hn) (fun _ _ _ _ hz => hz) hkey (yv := (.nil, [])) rfl
  have hg2 : w1.grownBy (setBlock w1 mb (.map es' clock')) (some mb) := ⟨rfl, rfl, rfl, by simp [setBlock], fun i _ hi => heap_setBlock_other hb1 _ (fun e1 => hi (by rw [e1]))⟩
  have hb2 := heap_setBlock_same hb1 (.map es' clock')
  have old_new : ∀ x ∈ es.toList, x.key ≠ .string s → x.val.ownBlock = none ∨ x.val.ownBlock ≠ v'.ownBlock := by
    intro x hx hne
    rcases hloc with h1 | ⟨g, h1, h2⟩
    · rw [h1]
      exact hvap x hx hne
    · cases hx' : x.val.ownBlock with
      | none => exact Or.inl rfl
      | some gx =>
        obtain ⟨u, _, ho⟩ := hr x hx
        have := (ho.lt gx hx').2
        refine Or.inr (fun e1 => ?_)
        rw [h1] at e1
        cases e1
        omega
  -- who is in the map behind the store
  have hin : ∀ (u : ByteArray) (ku : Lit), keyOf P k (.string u) = some ku → (u = s ∨ ∃ x ∈ es.toList, x.key = .string u) → ∃ x ∈ es'.toList, x.key = .string u := by
    intro u ku hku hor
    obtain ⟨z, hz2⟩ : ∃ z : Value, (zeroValue E).run P (setBlock w1 mb (.map es' clock')) = .ok z (setBlock w1 mb (.map es' clock')) := ⟨_, hz _⟩
    rcases Maps.fit_look false K ht hz2 hb2 F' hku with ⟨_, _, hat⟩ | ⟨e0, y, hm0, h3, _⟩
    · exfalso
      have h5 := hat (.lit (.bool true))
      rw [hput, show (DataW.map (Go.ChangeMaps.putKey kl (DataW.nil : DataW Unit) ((es.toList.map (rg P k nilR)).foldr DataW.insert []))) = (DataW.map ((es.toList.map (rg P k nilR)).foldr DataW.insert [])).put kl .nil from (DataW.put_eq ..).symm] at h5
      by_cases hk2 : ku = kl
      · subst hk2
        rw [atKey_put_same ⟨_, rfl⟩ (K.key hku)] at h5
        cases h5
      · rw [atKey_put_other hk2] at h5
        rcases hor with rfl | ⟨x, hx, hxk⟩
        · rw [hkey] at hku; exact hk2 (by injection hku with h; exact h.symm)
        · rcases Maps.fit_look false K ht (hz w) hb F hku with ⟨_, hno, _⟩ | ⟨e0, y, hm0, h3, _, hy, hat2, _⟩
          · exact hno x hx hxk
          · have h6 := hat2 (.lit (.bool true))
            rw [h5] at h6
            have h7 : y = ((.nil : DataW Unit), ([] : List MemPlace)) := (Option.some.inj hy).symm
            rw [h7] at h6
            cases h6
    · exact ⟨e0, hm0, h3⟩
  refine ⟨_, hrun', ⟨es', clock', hb2, F', ?_, fun x hx => ?_, fun u hu => ?_, fun x hx y hy hne => ?_⟩, hg2⟩
  · have e1 : es'.size = ((es'.toList.map (rg P k nilR)).foldr DataW.insert []).length := by rw [length_sorted]; simp
    rw [e1, hput]
    unfold Go.ChangeMaps.putKey
    rw [length_insert]
    have e2 := List.length_filter_le (Go.ChangeMaps.notKey kl) ((es.toList.map (rg P k nilR)).foldr DataW.insert [])
    rw [length_sorted] at e2
    simp at e2
    omega
  · rcases hwho x hx with ⟨hx0, hxk⟩ | ⟨hxk, hxv⟩
    · obtain ⟨u, e1, ho⟩ := hr x hx0
      have hne : u ≠ s := fun e2 => hxk (by rw [e1, e2])
      refine ⟨u, e1, ?_⟩
      simp only [if_neg hne]
      have h1 := rowk ho hg (hvap x hx0 hxk)
      refine rowk h1 hg2 ?_
      have h2 := cells_no_map h1 hb1
      exact .inr h2
    · refine ⟨s, hxk, ?_⟩
      simp only [if_true]
      rw [hxv]
      exact rowk hown' hg2 (.inr (cells_no_map hown' hb1))
  · by_cases hus : u = s
    · subst hus
      exact hin u kl hkey (.inl rfl)
    · simp only [if_neg hus] at hu
      obtain ⟨x, hx, hxk⟩ := hh u hu
      obtain ⟨y, hy⟩ := F.reads x hx
      have hk3 := rd_key hy
      rw [hxk] at hk3
      exact hin u _ hk3 (.inr ⟨x, hx, hxk⟩)
  · rcases hwho x hx with ⟨hx0, hxk⟩ | ⟨hxk, hxv⟩ <;> rcases hwho y hy with ⟨hy0, hyk⟩ | ⟨hyk, hyv⟩
    · exact ha x hx0 y hy0 hne
    · rw [hyv]
      exact old_new x hx0 hxk
    · rw [hxv]
      cases hv' : v'.ownBlock with
      | none => exact Or.inl rfl
      | some g =>
        refine Or.inr (fun e1 => ?_)
        rcases old_new y hy0 hyk with h | h
        · rw [h] at e1
          cases e1
        · exact h (by rw [hv', e1])
    · exact absurd (hxk.trans hyk.symm) hne
theorem step_append_own_at {P : Program} {ops : Array Oper} {o : Oper} {a : Act} {w : World} {K : Act → World → Prop} {Q : Exit → Act → World → Prop} {E : Prop}
    (hg : o.guard = none) (s x : Operand) (t : TypeId) (hop : o.op = Op.call { callee := Callee.builtin Builtin.append, args := #[s, x], argTypes := #[t, t] })
    (base : Nat) (e : TypeId) (i : TypeInfo) (z : Value) (size bytes : Nat) (h1 : P.underlying t = some (.slice e)) (h2 : P.info? e = some i) (h3 : i.zero = some z) (h4 : i.size = size) (h5 : i.bytes = bytes) (h6 : z.cells.size = size) (h7 : 0 < size)
    (v : Value) (n : Nat) (xs : List Value) (hs : a.eval s = v) (hown : w.ownsRow base e size v n xs)
    (ad : Addr) (m c : Nat) (news : List Value) (hx : a.eval x = .slice (some ad) m c) (hn : news.length = m * size) (hc : ∀ j u, news[j]? = some u → w.cell? (ad.add j) = some u) (h1c : ∀ u ∈ news, u.oneCell' = true)
    (b1 : n + m ≤ maxLen) (b2 : (n + m) * bytes ≤ 140737488355328) (hbase : base ≤ w.heap.size)
    (hK : ∀ v' w', w'.ownsRow base e size v' (n + m) (xs ++ news) → w.grownBy w' v.ownBlock → (v'.ownBlock = v.ownBlock ∨ v'.ownBlock = some w.heap.size) → K (a.put o.dst v') w') :
    if Region.wanted o (yielded ops a.tmps) = true then Oper.wp P o a w K Q else E := by
  have hw : Region.wanted o (yielded ops a.tmps) = true := by simp [Region.wanted, hg]
  rw [if_pos hw]
  obtain ⟨v', w', hr, r2, r3, _, r5⟩ := run_append_own_at (P := P) w base t o.type e i z size bytes h1 h2 h3 h4 h5 h6 h7 v n xs hown ad m c news hn hc h1c b1 b2 hbase
  unfold Oper.wp execOp
  simp only [hop, resolve, invoke, builtin, Sem.run_bind, Sem.run_pure, Result.andThen_ok, List.map_toArray, List.map_cons, List.map_nil, hs, hx, hr]
  exact hK _ _ r2 r3 r5
/-- The store by the way back, at the operation. -/
theorem wpList_mapUpdate_rec {P : Program} (w : World) {ops : Array Oper} {rest : List Oper} {o : Oper} {a : Act} {Q : Exit → Act → World → Prop}
    (hg : o.guard = none) (m x v : Operand) (t : TypeId) (hop : o.op = Op.mapUpdate t m x v)
    {w0 : World} {k : TypeId} {R : Rec α} {base : Nat} {e : TypeId} {mb n : Nat} {f : ByteArray → List α} {s : ByteArray} {u v' : Value} {L' : List α}
    (hback : RBack P t k R e base mb n f s u w0) (hm : a.eval m = .map (some mb)) (hx : a.eval x = .string s) (hv : a.eval v = v')
    (hgr : w0.grownBy w u.ownBlock) (hown' : w.ownsRow base e R.n v' L'.length (R.flat L')) (hloc : v'.ownBlock = u.ownBlock ∨ ∃ g, v'.ownBlock = some g ∧ w0.heap.size ≤ g)
    (hK : ∀ w2, RMapE P k R e base mb (n + 1) (fun q => if q = s then L' else f q) w2 → w.grownBy w2 (some mb) → wpList P ops Q rest (a.put o.dst undef) w2) :
    wpList P ops Q (o :: rest) a w := by
  refine wpList_plain hg fun K' hK' => ?_
  obtain ⟨w2, hrun, r1, r2⟩ := hback w v' L' hgr hown' hloc
  unfold Oper.wp
  simp [execOp, hop, hm, hx, hv, hrun, Result.andThen]
  exact hK' _ _ (hK w2 r1 r2)
end Go.Proofs.Ytnmjhbnadfjapaa
/-
  A GRAPH's COLUMNS, WHILE THEY ARE FILLED: which nodes bear a label, and which have a property, at which value.
-/
namespace Go.Proofs.Ytnmjhbnadfjapaa
open Go.ChangeShapes Go.WideShapes Go.ChangeAt Go.RowKit Go.Maps

abbrev Cl := Int × Pp
def clR : Rec Cl := ⟨fun c => [.int .i64 c.1, .int .i64 c.2.k, .int .i64 c.2.n, .string c.2.t], 4, by decide, fun _ => rfl, fun p u hu => by simp at hu; rcases hu with rfl | rfl | rfl | rfl <;> rfl, (0, Pp.none)⟩
def intR : Rec Int := ⟨fun x => [.int .i64 x], 1, by decide, fun _ => rfl, fun p u hu => by simp at hu; rw [hu]; rfl, 0⟩
theorem infoCl : (Try.prog.info? 94).map (fun i => (i.zero, i.size, i.bytes)) = some (some (.agg #[.int .i64 0, .int .i64 0, .int .i64 0, .string ⟨#[]⟩]), 4, 40) := by kernel_rfl
theorem infoIn : (Try.prog.info? 3).map (fun i => (i.zero, i.size, i.bytes)) = some (some (.int .i64 0), 1, 8) := by kernel_rfl
theorem lawS : Keyed Try.prog 9 := string_keyed Try.underlying9
theorem key_s {s : ByteArray} (h : s.size ≤ maxLen) : keyOf Try.prog 9 (.string s) = some (.string s.data.toList) := Go.WideMaps.keyOf_string_mk Try.underlying9 h
theorem zeroRowI : ∀ w, (zeroValue 47).run Try.prog w = .ok (.slice none 0 0) w := by intro w; kernel_rfl
theorem zeroRowC : ∀ w, (zeroValue 92).run Try.prog w = .ok (.slice none 0 0) w := by intro w; kernel_rfl
/-- All properties of the first k nodes, and j of the next one. -/
def allP (ns : List Nd) (k j : Nat) : List Cl := ((List.range k).flatMap fun i => (ns.getD i Nd.none).ps.map fun p => ((i : Int), p)) ++ ((ns.getD k Nd.none).ps.take j).map fun p => ((k : Int), p)
def namF (ns : List Nd) (k j : Nat) (s : ByteArray) : List Cl := (allP ns k j).filter fun c => decide (c.2.s = s)
def labF (ns : List Nd) (k : Nat) (s : ByteArray) : List Int := ((List.range k).filter fun i => decide ((ns.getD i Nd.none).l = s)).map fun (i : Nat) => (i : Int)
theorem labF_succ (ns : List Nd) (k : Nat) : labF ns (k + 1) = fun u => if u = (ns.getD k Nd.none).l then labF ns k (ns.getD k Nd.none).l ++ [(k : Int)] else labF ns k u := by
  funext u
  unfold labF
  rw [List.range_succ, List.filter_append, List.map_append]
  by_cases h : u = (ns.getD k Nd.none).l
  · rw [if_pos h]
    subst h
    congr 1
    rw [List.filter_cons, List.filter_nil, if_pos (decide_eq_true rfl)]
    rfl
  · rw [if_neg h, List.filter_cons, List.filter_nil, if_neg (by simp only [decide_eq_true_eq]; exact fun e => h e.symm)]
    simp
theorem allP_succ (ns : List Nd) (k j : Nat) (hj : j < (ns.getD k Nd.none).ps.length) : allP ns k (j + 1) = allP ns k j ++ [((k : Int), (ns.getD k Nd.none).ps.getD j Pp.none)] := by
  unfold allP
  rw [List.append_assoc]
  congr 1
  rw [take_snocR _ Pp.none j hj, List.map_append]
  rfl
theorem allP_next (ns : List Nd) (k : Nat) : allP ns k (ns.getD k Nd.none).ps.length = allP ns (k + 1) 0 := by
  unfold allP
  rw [List.take_length, List.range_succ, List.flatMap_append]
  simp
theorem namF_succ (ns : List Nd) (k j : Nat) (hj : j < (ns.getD k Nd.none).ps.length) : namF ns k (j + 1) = fun u => if u = ((ns.getD k Nd.none).ps.getD j Pp.none).s then namF ns k j ((ns.getD k Nd.none).ps.getD j Pp.none).s ++ [((k : Int), (ns.getD k Nd.none).ps.getD j Pp.none)] else namF ns k j u := by
  funext u
  unfold namF
  rw [allP_succ ns k j hj, List.filter_append]
  by_cases h : u = ((ns.getD k Nd.none).ps.getD j Pp.none).s
  · rw [if_pos h]
    subst h
    congr 1
    rw [List.filter_cons, List.filter_nil, if_pos (decide_eq_true rfl)]
  · rw [if_neg h, List.filter_cons, List.filter_nil, if_neg (by simp only [decide_eq_true_eq]; exact fun e => h e.symm)]
    simp
theorem namF_next (ns : List Nd) (k : Nat) : namF ns k (ns.getD k Nd.none).ps.length = namF ns (k + 1) 0 := by
  funext u
  unfold namF
  rw [allP_next]
theorem labF_len (ns : List Nd) (k : Nat) (s : ByteArray) : (labF ns k s).length ≤ k := by
  unfold labF
  rw [List.length_map]
  exact Nat.le_trans (List.length_filter_le _ _) (by rw [List.length_range]; exact Nat.le_refl _)
theorem allP_len (ns : List Nd) (k j : Nat) (h : ∀ i, (ns.getD i Nd.none).ps.length ≤ 1000) (_hj : j ≤ 1000) : (allP ns k j).length ≤ k * 1000 + j := by
  unfold allP
  rw [List.length_append, List.length_map, List.length_take]
  have : ∀ k, ((List.range k).flatMap fun i => (ns.getD i Nd.none).ps.map fun p => ((i : Int), p)).length ≤ k * 1000 := by
    intro k
    induction k with
    | zero => simp
    | succ k ih =>
      rw [List.range_succ, List.flatMap_append, List.length_append]
      have := h k
      simp only [List.flatMap_cons, List.flatMap_nil, List.append_nil, List.length_map]
      omega
  have h1 := this k
  omega
theorem namF_len (ns : List Nd) (k j : Nat) (s : ByteArray) (h : ∀ i, (ns.getD i Nd.none).ps.length ≤ 1000) (hj : j ≤ 1000) : (namF ns k j s).length ≤ k * 1000 + j :=
  Nat.le_trans (List.length_filter_le _ _) (allP_len ns k j h hj)
theorem grown_setc {x : World} (g j : Nat) (u : Value) : x.grownBy (x.setCell ⟨g, j, none⟩ u) (some g) :=
  ⟨rfl, rfl, rfl, by simp, fun k _ hk => heap_setCell_other x ⟨g, j, none⟩ k u (fun e => hk (by simp [e]))⟩
theorem flat_set_node : ∀ (vs : List NdV) (q : Nat) (l : ByteArray) (v : NdV) , q < vs.length → (vs.getD q NdV.none).l = l → v.l = l → (nodeR.flat vs).set (q * 2 + 1) (.slice v.a v.n v.c) = nodeR.flat (vs.set q v)
  | x :: r, 0, l, v, _, h1, h2 => by
    rw [List.set_cons_zero, Rec.flat_cons, Rec.flat_cons]
    have h1 : x.l = l := h1
    show Value.string x.l :: (.slice v.a v.n v.c :: nodeR.flat r) = .string v.l :: (.slice v.a v.n v.c :: nodeR.flat r)
    rw [h1, h2]
  | x :: r, q + 1, l, v, h, h1, h2 => by
    have ih := flat_set_node r q l v (by simpa using h) h1 h2
    rw [Rec.flat_cons, List.set_cons_succ, Rec.flat_cons, ← ih, show (q + 1) * 2 + 1 = q * 2 + 1 + 1 + 1 by omega]
    rfl
/-- The columns, while they are filled. -/
structure ColS (B gb ml mn : Nat) (nv : Value) (vs : List NdV) (ns : List Nd) (k n : Nat) (F : ByteArray → List Cl) (x : World) : Prop where
  box : x.heap[gb]? = some (.cells #[nv, .map (some ml), .map (some mn)] 90)
  nodes : NodesAt B nv vs ns x
  lab : RMapE Try.prog 9 intR 3 B ml k (labF ns k) x
  nam : RMapE Try.prog 9 clR 94 B mn n F x
  sep : B ≤ gb ∧ B ≤ ml ∧ B ≤ mn ∧ ml ≠ mn
theorem ColS.step {B gb ml mn : Nat} {nv : Value} {vs : List NdV} {ns : List Nd} {k n : Nat} {F : ByteArray → List Cl} {x z : World} (h : ColS B gb ml mn nv vs ns k n F x) (hB : Below x.heap.size x z) : ColS B gb ml mn nv vs ns k n F z :=
  ⟨box_below h.box hB, h.nodes.step hB, h.lab.below hB, h.nam.below hB, h.sep⟩
/-- Turning none but maps and rows of numbers or cells. -/
def Mild (x z : World) (row : Option Nat) : Prop := x.grownBy z row ∧ ∀ g cs t, row = some g → x.heap[g]? = some (.cells cs t) → t = 3 ∨ t = 94
theorem Mild.box {x z : World} {row : Option Nat} {b : Nat} {cs : Array Value} {t : TypeId} (h : Mild x z row) (hb : x.heap[b]? = some (.cells cs t)) (h1 : t ≠ 3) (h2 : t ≠ 94) : z.heap[b]? = some (.cells cs t) := by
  refine (h.1.block b (Array.getElem?_eq_some_iff.1 hb).1 fun e => ?_).trans hb
  rcases h.2 b cs t e.symm hb with h3 | h3
  · exact h1 h3
  · exact h2 h3
theorem Mild.row {x z : World} {row : Option Nat} {B t s n : Nat} {v : Value} {xs : List Value} (h : Mild x z row) (ho : x.ownsRow B t s v n xs) (h1 : t ≠ 3) (h2 : t ≠ 94) : z.ownsRow B t s v n xs := by
  obtain ⟨hl, h3⟩ := ho
  refine ⟨hl, ?_⟩
  rcases h3 with h3 | ⟨g, cap, cur, e1, e2, e3, e4⟩
  · exact .inl h3
  · exact .inr ⟨g, cap, cur, e1, e2, h.box e3 h1 h2, e4⟩
theorem Mild.nodes {x z : World} {row : Option Nat} {B : Nat} {u : Value} {vs : List NdV} {ns : List Nd} (h : Mild x z row) (hn : NodesAt B u vs ns x) : NodesAt B u vs ns z :=
  ⟨h.row hn.row (by decide) (by decide), hn.len, fun i hi => ⟨(hn.each i hi).1, h.row (hn.each i hi).2 (by decide) (by decide)⟩⟩
theorem mild_row {x z : World} {B t s n : Nat} {v : Value} {xs : List Value} (ho : x.ownsRow B t s v n xs) (ht : t = 3 ∨ t = 94) (hg : x.grownBy z v.ownBlock) : Mild x z v.ownBlock := by
  refine ⟨hg, fun g cs t' e hc => ?_⟩
  rcases ho.2 with ⟨e2, _⟩ | ⟨g', cap, cur, e2, _, h3, _⟩
  · rw [e2] at e; cases e
  · rw [e2] at e
    simp only [Value.ownBlock, Option.some.injEq] at e
    subst e
    rw [h3] at hc
    injection hc with hc
    injection hc with _ hc _
    rw [← hc]; exact ht
theorem mild_map {x z : World} {mb : Nat} {es : Array MapEntry} {clock : Nat} (hb : x.heap[mb]? = some (.map es clock)) (hg : x.grownBy z (some mb)) : Mild x z (some mb) :=
  ⟨hg, fun g cs t e hc => by cases e; rw [hb] at hc; cases hc⟩
/-- A node's properties, in memory of their own. -/
theorem ColS.setNode {B gb ml mn : Nat} {nv : Value} {vs : List NdV} {ns : List Nd} {k n q : Nat} {F : ByteArray → List Cl} {x : World} {gn nc : Nat} {v : NdV} (h : ColS B gb ml mn nv vs ns k n F x) (hv : nv = .slice (some ⟨gn, 0, none⟩) vs.length nc) (hq : q < ns.length)
    (hl : v.l = (ns.getD q Nd.none).l) (hr : x.ownsRow 0 83 4 (.slice v.a v.n v.c) (ns.getD q Nd.none).ps.length (propR.flat (ns.getD q Nd.none).ps)) : ColS B gb ml mn nv (vs.set q v) ns k n F (x.setCell ⟨gn, q * 2 + 1, none⟩ (.slice v.a v.n v.c)) := by
  have hlen := h.nodes.len
  have hrow := h.nodes.row
  rw [hv] at hrow
  have hst := (hrow.stored (q * 2 + 1) (.slice v.a v.n v.c)).1
  have hfl := flat_set_node vs q _ v (by rw [hlen]; exact hq) (h.nodes.each q hq).1 hl
  rw [hfl] at hst
  have hblk : ∃ cs, x.heap[gn]? = some (.cells cs 44) := by
    rcases hrow.2 with ⟨h1, _⟩ | ⟨g', cap, cur, h1, _, h3, _⟩
    · cases h1
    · cases h1; exact ⟨_, h3⟩
  obtain ⟨cs, hblk⟩ := hblk
  refine ⟨set_oth h.box (ne_types hblk h.box (by decide)) _ _, ⟨?_, ?_, fun i hi => ?_⟩, ?_, ?_, h.sep⟩
  · rw [hv, List.length_set]; exact hst
  · rw [List.length_set]; exact hlen
  · by_cases hiq : i = q
    · subst hiq
      rw [show (vs.set i v).getD i NdV.none = v by simp [List.getD, show i < vs.length by rw [hlen]; exact hi]]
      exact ⟨hl, own_set hr hblk (by decide) _ _⟩
    · rw [show (vs.set q v).getD i NdV.none = vs.getD i NdV.none by simp [List.getD, Ne.symm hiq]]
      exact ⟨(h.nodes.each i hi).1, own_set (h.nodes.each i hi).2 hblk (by decide) _ _⟩
  · obtain ⟨es, cl, hm⟩ := h.lab
    exact RMapE.kept ⟨es, cl, hm⟩ (grown_setc gn _ _) (fun e => by injection e with e; rw [← e, hm.blk] at hblk; cases hblk) (fun g e cs' hc => by cases e; rw [hblk] at hc; injection hc with hc; injection hc with _ hc _; exact absurd hc (by decide))
  · obtain ⟨es, cl, hm⟩ := h.nam
    exact RMapE.kept ⟨es, cl, hm⟩ (grown_setc gn _ _) (fun e => by injection e with e; rw [← e, hm.blk] at hblk; cases hblk) (fun g e cs' hc => by cases e; rw [hblk] at hc; injection hc with hc; injection hc with _ hc _; exact absurd hc (by decide))
/-- A node more under its label: the row grows, and then the map is told. -/
theorem ColS.putLab {B gb ml mn : Nat} {nv v : Value} {vs : List NdV} {ns : List Nd} {k n n1 : Nat} {F : ByteArray → List Cl} {xs : List Value} {x y z : World} (h : ColS B gb ml mn nv vs ns k n F x) (ho : x.ownsRow B 3 1 v n1 xs) (hg : x.grownBy y v.ownBlock)
    (hm : RMapE Try.prog 9 intR 3 B ml (k + 1) (labF ns (k + 1)) z) (hg2 : y.grownBy z (some ml)) : ColS B gb ml mn nv vs ns (k + 1) n F z ∧ Mild x y v.ownBlock ∧ Mild y z (some ml) := by
  obtain ⟨es, cl, hl⟩ := h.lab
  have m1 := mild_row ho (.inl rfl) hg
  have hby : y.heap[ml]? = some (.map es cl) := (hg.block ml (Array.getElem?_eq_some_iff.1 hl.blk).1 fun e => cells_no_map ho hl.blk e.symm).trans hl.blk
  have m2 := mild_map hby hg2
  refine ⟨⟨m2.box (m1.box h.box (by decide) (by decide)) (by decide) (by decide), m2.nodes (m1.nodes h.nodes), hm, ?_, h.sep⟩, m1, m2⟩
  exact (h.nam.grown ho (by decide) hg).kept hg2 (fun e => by injection e with e; exact h.sep.2.2.2 e.symm) (fun g e cs hc => by cases e; rw [hby] at hc; cases hc)
/-- A property more under its name. -/
theorem ColS.putNam {B gb ml mn : Nat} {nv v : Value} {vs : List NdV} {ns : List Nd} {k n n1 n' : Nat} {F F' : ByteArray → List Cl} {xs : List Value} {x y z : World} (h : ColS B gb ml mn nv vs ns k n F x) (ho : x.ownsRow B 94 4 v n1 xs) (hg : x.grownBy y v.ownBlock)
    (hm : RMapE Try.prog 9 clR 94 B mn n' F' z) (hg2 : y.grownBy z (some mn)) : ColS B gb ml mn nv vs ns k n' F' z ∧ Mild x y v.ownBlock ∧ Mild y z (some mn) := by
  obtain ⟨es, cl, hl⟩ := h.nam
  have m1 := mild_row ho (.inr rfl) hg
  have hby : y.heap[mn]? = some (.map es cl) := (hg.block mn (Array.getElem?_eq_some_iff.1 hl.blk).1 fun e => cells_no_map ho hl.blk e.symm).trans hl.blk
  have m2 := mild_map hby hg2
  refine ⟨⟨m2.box (m1.box h.box (by decide) (by decide)) (by decide) (by decide), m2.nodes (m1.nodes h.nodes), ?_, hm, h.sep⟩, m1, m2⟩
  exact (h.lab.grown ho (by decide) hg).kept hg2 (fun e => by injection e with e; exact h.sep.2.2.2 e) (fun g e cs hc => by cases e; rw [hby] at hc; cases hc)
theorem ColS.more {B gb ml mn : Nat} {nv : Value} {vs : List NdV} {ns : List Nd} {k n n' : Nat} {F F' : ByteArray → List Cl} {x : World} (h : ColS B gb ml mn nv vs ns k n F x) (hn : n ≤ n') (hF : F = F') : ColS B gb ml mn nv vs ns k n' F' x :=
  ⟨h.box, h.nodes, h.lab, hF ▸ h.nam.mono hn, h.sep⟩
end Go.Proofs.Ytnmjhbnadfjapaa
