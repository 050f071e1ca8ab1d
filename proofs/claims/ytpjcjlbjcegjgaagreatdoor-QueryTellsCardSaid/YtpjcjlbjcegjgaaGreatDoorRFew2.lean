/-
  AN EXPRESSION COPIED, somewhat cut: by contract.
-/
import Derived.Test.YtpjcjlbjcegjgaaGreatDoorRegs
import Derived.Maps.AppendAt
import Derived.Deep.RegionHeld3
import Derived.Deep.AppendLies
import Derived.Laws.Rows
import Derived.Laws.ResultCell
namespace Go.Proofs.YtpjcjlbjcegjgaaGreatDoor
open Go.ChangeShapes Go.WideShapes Go.ChangeAt Go.RowKit

theorem own_other {w w' : World} {B t s n : Nat} {v : Value} {xs : List Value} {o : Option Nat} (h : w.ownsRow B t s v n xs) (hg : w.grownBy w' o) (hne : ∀ g, v.ownBlock = some g → o ≠ some g) : w'.ownsRow B t s v n xs := by
  obtain ⟨hl, h⟩ := h
  refine ⟨hl, ?_⟩
  rcases h with h | ⟨g, cap, cur, e1, e2, e3, e4⟩
  · exact .inl h
  · exact .inr ⟨g, cap, cur, e1, e2, (hg.block g (Array.getElem?_eq_some_iff.1 e3).1 (Ne.symm (hne g (by rw [e1]; rfl)))).trans e3, e4⟩
theorem own_shape {w : World} {B t s n : Nat} {v : Value} {xs : List Value} (h : w.ownsRow B t s v n xs) : ∃ a c, v = .slice a n c := by
  rcases h.2 with ⟨rfl, h0⟩ | ⟨g, cap, cur, rfl, _⟩
  · exact ⟨none, 0, by rw [h0]⟩
  · exact ⟨_, _, rfl⟩
theorem step_wp {P : Program} {ops : Array Oper} {o : Oper} {a : Act} {w : World} {K : Act → World → Prop} {Q : Exit → Act → World → Prop} {E : Prop} (hg : o.guard = none) (h : o.wp P a w K Q) : if Region.wanted o (yielded ops a.tmps) = true then Oper.wp P o a w K Q else E := by
  have hw : Region.wanted o (yielded ops a.tmps) = true := by simp [Region.wanted, hg]
  rw [if_pos hw]
  exact h
theorem wp_call {P : Program} {Q : Exit → Act → World → Prop} {o : Oper} {a : Act} {w : World} {K : Act → World → Prop} {f : FuncId} {args : Array Operand} {ats : Array TypeId} {vs : Array Value} (hop : o.op = .call { callee := .value (.func f), args := args, argTypes := ats }) (hE : ∀ args w, (callFunc f args).run P w = .ok (.enter f args) w) (hv : args.map a.eval = vs)
    (h : Calls P f vs w fun e w' => ∃ v, e = .returned v ∧ K (a.put o.dst v) w') : o.wp P a w K Q := by
  have e : execOp a.eval o = callFunc f (#[] ++ args.map a.eval ++ #[]) := by
    cases o
    cases hop
    rfl
  unfold Oper.wp
  rw [e, hE, hv]
  simp only [Array.empty_append, Array.append_empty]
  exact h.mono fun e w' ⟨v, he, hk⟩ => by subst he; exact hk
theorem step_append_own_at {P : Program} {ops : Array Oper} {o : Oper} {a : Act} {w : World} {K : Act → World → Prop} {Q : Exit → Act → World → Prop} {E : Prop}
    (hg : o.guard = none) (s x : Operand) (t : TypeId) (hop : o.op = Op.call { callee := Callee.builtin Builtin.append, args := #[s, x], argTypes := #[t, t] })
    (base : Nat) (e : TypeId) (i : TypeInfo) (z : Value) (size bytes : Nat) (h1 : P.underlying t = some (.slice e)) (h2 : P.info? e = some i) (h3 : i.zero = some z) (h4 : i.size = size) (h5 : i.bytes = bytes) (h6 : z.cells.size = size) (h7 : 0 < size)
    (v : Value) (n : Nat) (xs : List Value) (hs : a.eval s = v) (hown : w.ownsRow base e size v n xs)
    (ad : Addr) (m c : Nat) (news : List Value) (hx : a.eval x = .slice (some ad) m c) (hn : news.length = m * size) (hc : ∀ j u, news[j]? = some u → w.cell? (ad.add j) = some u) (h1c : ∀ u ∈ news, u.oneCell' = true)
    (b1 : n + m ≤ maxLen) (b2 : (n + m) * bytes ≤ 140737488355328) (hbase : base ≤ w.heap.size)
    (hK : ∀ v' w', w'.ownsRow base e size v' (n + m) (xs ++ news) → w.grownBy w' v.ownBlock → (v'.ownBlock = v.ownBlock ∨ v'.ownBlock = some w.heap.size) → K (a.put o.dst v') w') :
    if Region.wanted o (yielded ops a.tmps) = true then Oper.wp P o a w K Q else E := by
  refine step_wp hg ?_
  obtain ⟨v', w', hr, r2, r3, _, r5⟩ := run_append_own_at (P := P) w base t o.type e i z size bytes h1 h2 h3 h4 h5 h6 h7 v n xs hown ad m c news hn hc h1c b1 b2 hbase
  unfold Oper.wp execOp
  simp only [hop, resolve, invoke, builtin, Sem.run_bind, Sem.run_pure, Result.andThen_ok, List.map_toArray, List.map_cons, List.map_nil, hs, hx, hr]
  exact hK _ _ r2 r3 r5
theorem box4f {x : World} {b : Nat} {c0 c1 c2 c3 : Value} {t : TypeId} (h : x.heap[b]? = some (.cells #[c0, c1, c2, c3] t)) :
    (x.cell? ⟨b, 0, none⟩ = some c0 ∧ x.cell? ⟨b, 1, none⟩ = some c1 ∧ x.cell? ⟨b, 2, none⟩ = some c2 ∧ x.cell? ⟨b, 3, none⟩ = some c3) ∧ x.frozen? ⟨b, 0, none⟩ = false ∧ x.frozen? ⟨b, 1, none⟩ = false ∧ x.frozen? ⟨b, 2, none⟩ = false ∧ x.frozen? ⟨b, 3, none⟩ = false := by
  simp [World.cell?, World.frozen?, h]
theorem heap_setX {x : World} {b : Nat} {cs : Array Value} {t : TypeId} (h : x.heap[b]? = some (.cells cs t)) (j : Nat) (v : Value) : (x.setCell ⟨b, j, none⟩ v).heap[b]? = some (.cells (cs.setIfInBounds j v) t) := by
  simp [World.setCell, Array.getElem?_modify, h]
theorem heap_oX {x : World} {p : Addr} {v : Value} {b : Nat} (h : p.block ≠ b) : (x.setCell p v).heap[b]? = x.heap[b]? := by
  simp [World.setCell, Array.getElem?_modify, h]
theorem blk_below {w w' : World} {b : Nat} {o : Obj} (h : w.heap[b]? = some o) (hB : Below w.heap.size w w') : w'.heap[b]? = some o := (hB.block _ (Array.getElem?_eq_some_iff.1 h).1).trans h
/-- An expression, so deep at most, its steps cut. -/
def Rx.few : Nat → Rx → Rx
  | 0, r => .mk r.k (cutB r.s 32) r.b []
  | d + 1, r => .mk r.k (cutB r.s 32) r.b ((r.ps.take 3).map (Rx.few d))
theorem Rx.few_at (d : Nat) (r : Rx) : (Rx.few d r).k = r.k ∧ (Rx.few d r).s = cutB r.s 32 ∧ (Rx.few d r).b = r.b := by
  cases d <;> exact ⟨rfl, rfl, rfl⟩
theorem infoX : (Tryz.prog.info? 47).map (fun i => (i.zero, i.size, i.bytes)) = some (some (.agg #[.int .i64 0, .string ⟨#[]⟩, .bool false, .slice none 0 0]), 4, 56) := by kernel_rfl
abbrev TX : TypeId := 47
/-- While parts are copied: those that are there. -/
structure XF (w : World) (xa : Array Value) (k0 : Int) (s0 : ByteArray) (b0 : Bool) (d : Nat) (ps : List Rx) (k : Nat) (u : Value) (vs : List RxV) (x : World) : Prop where
  below : Below w.heap.size w x
  hx : x.heap[w.heap.size]? = some (.cells xa TX)
  hr : x.heap[w.heap.size + 1]? = some (.cells #[.int .i64 0, .string ⟨#[]⟩, .bool false, .slice none 0 0] TX)
  ho : x.heap[w.heap.size + 2]? = some (.cells #[.int .i64 k0, .string s0, .bool b0, u] TX)
  row : x.ownsRow (w.heap.size + 3) TX 4 u k (rxR.flat vs)
  len : vs.length = k
  each : ∀ i, i < k → HeldX (fun b => w.heap.size + 3 ≤ b ∧ u.ownBlock ≠ some b) x d (vs.getD i RxV.none) ((ps.getD i Rx.none).few (d - 1))
theorem XF.step {w : World} {xa : Array Value} {k0 : Int} {s0 : ByteArray} {b0 : Bool} {d : Nat} {ps : List Rx} {k : Nat} {u : Value} {vs : List RxV} {x z : World} (h : XF w xa k0 s0 b0 d ps k u vs x) (hB : Below x.heap.size x z) : XF w xa k0 s0 b0 d ps k u vs z :=
  ⟨h.below.trans (hB.mono h.below.size), blk_below h.hx hB, blk_below h.hr hB, blk_below h.ho hB, owns_keep h.row hB, h.len, fun i hi => (h.each i hi).below hB⟩
theorem XF.drew {w : World} {xa : Array Value} {k0 : Int} {s0 : ByteArray} {b0 : Bool} {d : Nat} {ps : List Rx} {k : Nat} {u : Value} {vs : List RxV} {x : World} (h : XF w xa k0 s0 b0 d ps k u vs x) : XF w xa k0 s0 b0 d ps k u vs x.drew :=
  h.step (Below.refl _ _).drew
/-- One part more. -/
theorem XF.more {w : World} {xa : Array Value} {k0 : Int} {s0 : ByteArray} {b0 : Bool} {d : Nat} {ps : List Rx} {k : Nat} {u v' : Value} {vs : List RxV} {x zA w6 : World} {q : RxV} (h : XF w xa k0 s0 b0 d ps k u vs x) (hs : w.heap.size + 3 ≤ x.heap.size) (hz : Below x.heap.size x zA) (hq : HeldX (fun b => x.heap.size ≤ b) zA d q ((ps.getD k Rx.none).few (d - 1)))
    (ho : w6.ownsRow (w.heap.size + 3) TX 4 v' (k + 1) (rxR.flat vs ++ rxR.enc q)) (hg : zA.grownBy w6 u.ownBlock) (hat : v'.ownBlock = u.ownBlock ∨ v'.ownBlock = some zA.heap.size) :
    XF w xa k0 s0 b0 d ps (k + 1) v' (vs ++ [q]) (w6.setCell ⟨w.heap.size + 2, 3, none⟩ v') := by
  have hA := h.step hz
  have hsz := hz.size
  have hub : ∀ g, u.ownBlock = some g → w.heap.size + 3 ≤ g ∧ g < x.heap.size := fun g e => h.row.lt g e
  have hlt3 : ∀ b, b < w.heap.size + 3 → w6.heap[b]? = zA.heap[b]? := fun b hb => hg.block b (by omega) fun e => by have := (hub b e.symm).1; omega
  have ho6 : w6.heap[w.heap.size + 2]? = some (.cells #[.int .i64 k0, .string s0, .bool b0, u] TX) := (hlt3 _ (by omega)).trans hA.ho
  have hvb : ∀ g, v'.ownBlock = some g → w.heap.size + 3 ≤ g := fun g e => (ho.lt g e).1
  have hkp : ∀ b, b ≠ w.heap.size + 2 → u.ownBlock ≠ some b → b < zA.heap.size → (w6.setCell ⟨w.heap.size + 2, 3, none⟩ v').heap[b]? = zA.heap[b]? := fun b h1 h2 h3 => (heap_oX (Ne.symm h1)).trans (hg.block b h3 fun e => h2 e.symm)
  have hsz6 : zA.heap.size ≤ (w6.setCell ⟨w.heap.size + 2, 3, none⟩ v').heap.size := by simpa [World.setCell] using hg.size
  refine ⟨?_, (heap_oX (by simp)).trans ((hlt3 _ (by omega)).trans hA.hx), (heap_oX (by simp)).trans ((hlt3 _ (by omega)).trans hA.hr), by rw [heap_setX ho6 3 _]; rfl, ?_, by simp [h.len], fun i hi => ?_⟩
  · refine ((hA.below).grown hg (Nat.le_trans h.below.size hsz) fun g e => by have := (hub g e).1; omega).setCell (p := ⟨w.heap.size + 2, 3, none⟩) (Nat.le_add_right _ _) _
  · have e : rxR.flat (vs ++ [q]) = rxR.flat vs ++ rxR.enc q := by rw [Rec.flat_app]; simp [Rec.flat]
    rw [e]
    obtain ⟨hl, hr⟩ := ho
    refine ⟨hl, ?_⟩
    rcases hr with hr | ⟨g, cap, cur, e1, e2, e3, e4⟩
    · exact .inl hr
    · exact .inr ⟨g, cap, cur, e1, e2, (heap_oX (show w.heap.size + 2 ≠ g by omega)).trans e3, e4⟩
  · by_cases e : i = k
    · subst e
      have e : (vs ++ [q]).getD i RxV.none = q := by simp [List.getD, h.len]
      rw [e]
      refine hq.kept fun b h1 h2 => ?_
      have h4 : u.ownBlock ≠ some b := fun e => by have := (hub b e).2; omega
      refine ⟨⟨by omega, fun e => ?_⟩, Nat.lt_of_lt_of_le h2 hsz6, hkp b (by omega) h4 h2⟩
      rcases hat with e' | e'
      · exact h4 (e' ▸ e)
      · rw [e'] at e; injection e with e; omega
    · have hi' : i < vs.length := by have := h.len; omega
      have e : (vs ++ [q]).getD i RxV.none = vs.getD i RxV.none := by simp [List.getD, List.getElem?_append_left hi']
      rw [e]
      refine (hA.each i (by omega)).kept fun b h1 h2 => ⟨⟨h1.1, fun e => ?_⟩, Nat.lt_of_lt_of_le h2 hsz6, hkp b (by omega) h1.2 h2⟩
      rcases hat with e' | e'
      · exact h1.2 (e' ▸ e)
      · rw [e'] at e; injection e with e; omega
/-- What is left at last. -/
theorem XF.done {w : World} {xa : Array Value} {r : Rx} {d k : Nat} {u : Value} {vs : List RxV} {x : World} (h : XF w xa r.k (cutB r.s 32) r.b d r.ps k u vs x) (hk : (d = 0 ∧ k = 0) ∨ (0 < d ∧ k = min 3 r.ps.length)) {a : Option Addr} {c : Nat} (hu : u = .slice a k c) (hsz : (cutB r.s 32).size ≤ maxLen) :
    HeldX (fun b => w.heap.size + 3 ≤ b) x (d + 1) ⟨r.k, cutB r.s 32, r.b, a, k, c⟩ (r.few d) := by
  obtain ⟨e1, e2, e3⟩ := Rx.few_at d r
  have hps : (r.few d).ps.length = k ∧ ∀ i, i < k → (r.few d).ps.getD i Rx.none = (r.ps.getD i Rx.none).few (d - 1) := by
    rcases hk with ⟨rfl, rfl⟩ | ⟨h0, rfl⟩
    · exact ⟨rfl, fun i hi => by omega⟩
    · obtain ⟨d', rfl⟩ : ∃ d', d = d' + 1 := ⟨d - 1, by omega⟩
      refine ⟨by simp [Rx.few, Rx.ps], fun i hi => ?_⟩
      have hi1 : i < r.ps.length := by omega
      have hi2 : i < 3 := by omega
      simp [Rx.few, Rx.ps, List.getD, hi2]
      cases r
      simp [Rx.ps] at hi1 ⊢
      simp [hi1]
  refine ⟨e1.symm, e2.symm, e3.symm, hsz, hps.1.symm, vs, by rw [h.len, hps.1], ?_, fun i hi => ?_⟩
  · rcases h.row.2 with ⟨_, h0⟩ | ⟨g, cap, cur, h1, h2, h3, h4, h5, h6, h7⟩
    · left
      have hl := h.row.1
      rw [h0] at hl
      exact List.eq_nil_of_length_eq_zero (by omega)
    · rw [hu] at h1
      simp only [Value.slice.injEq] at h1
      obtain ⟨rfl, _, _⟩ := h1
      refine .inr ⟨g, 0, rfl, by omega, (Array.getElem?_eq_some_iff.1 h3).1, fun j v hj => ?_⟩
      rw [Nat.zero_add]
      have hjl := (List.getElem?_eq_some_iff.1 hj).1
      have hl := h.row.1
      rw [← h7, List.getElem?_take_of_lt (by omega), Array.getElem?_toList] at hj
      simp only [World.cell?, h3]
      exact hj
  · rw [hps.1] at hi
    rw [hps.2 i hi]
    exact (h.each i hi).weak fun b h1 _ => h1.1
end Go.Proofs.YtpjcjlbjcegjgaaGreatDoor
/-
  AN EXPRESSION COPIED, somewhat cut: few, by contract.
-/
namespace Go.Proofs.YtpjcjlbjcegjgaaGreatDoor
open Go.ChangeShapes Go.WideShapes Go.ChangeAt Go.RowKit

theorem two3 (w : World) (a b c : Obj) : (((w.alloc a).alloc b).alloc c).heap[w.heap.size]? = some a ∧ (((w.alloc a).alloc b).alloc c).heap[w.heap.size + 1]? = some b ∧ (((w.alloc a).alloc b).alloc c).heap[w.heap.size + 2]? = some c ∧ Below w.heap.size w (((w.alloc a).alloc b).alloc c) := by
  refine ⟨?_, ?_, ?_, (((Below.refl _ _).alloc (Nat.le_refl _) _).alloc (by show _ ≤ (w.heap.push _).size; simp) _).alloc (by show _ ≤ ((w.heap.push _).push _).size; simp; omega) _⟩
  · show (((w.heap.push _).push _).push _)[_]? = _
    rw [Array.getElem?_push, if_neg (by simp; omega), Array.getElem?_push, if_neg (by simp), Array.getElem?_push, if_pos rfl]
  · show (((w.heap.push _).push _).push _)[_]? = _
    rw [Array.getElem?_push, if_neg (by simp), Array.getElem?_push, if_pos (by simp)]
  · show (((w.heap.push _).push _).push _)[_]? = _
    rw [Array.getElem?_push, if_pos (by simp)]
set_option maxHeartbeats 6400000 in
set_option maxRecDepth 100000 in
theorem rxfew_c : ∀ (d : Nat), d ≤ 100 → ∀ (D : Nat) (ok : Nat → Prop) (v : RxV) (r : Rx) (w : World), HeldX ok w D v r →
    Calls Tryz.prog 31 #[.agg #[.int .i64 v.k, .string v.s, .bool v.b, .slice v.a v.n v.c], .int .i64 ((d + 1 : Nat) : Int)] w fun e w' => ∃ q : RxV, e = .returned (.agg #[.int .i64 q.k, .string q.s, .bool q.b, .slice q.a q.n q.c]) ∧ HeldX (fun g => w.heap.size ≤ g) w' (d + 1) q (r.few d) ∧ Below w.heap.size w w' := by
  intro d
  induction d using Nat.strongRecOn with
  | ind d ih =>
    intro hd D ok v r w hv
    obtain ⟨i0, hi, hz0, hz1, hz2⟩ := info_parts infoX
    cases D with
    | zero => exact absurd hv (fun h => h)
    | succ D =>
      have hv0 := hidden hv
      obtain ⟨hk, hs, hb, hsz, hn, -⟩ := hv
      obtain ⟨vk, vsd, vb, va, vn, vc⟩ := v
      simp only at hk hs hb hsz hn
      subst hk hs hb hn
      have hcut := fun z => cut_c r.s 32 z (by decide)
      have hcs : Hid ((cutB r.s 32).size ≤ maxLen) := by have := cutB_size r.s 32; show _ ≤ _; unfold maxLen; omega
      obtain ⟨t1, t2, t3, t4⟩ := two3 w (.cells #[.int .i64 r.k, .string r.s, .bool r.b, .slice va r.ps.length vc] TX) (.cells #[.int .i64 0, .string ⟨#[]⟩, .bool false, .slice none 0 0] TX) (.cells #[.int .i64 r.k, .string (cutB r.s 32), .bool r.b, .slice none 0 0] TX)
      have hX2 : ((w.alloc (.cells #[.int .i64 r.k, .string r.s, .bool r.b, .slice va r.ps.length vc] TX)).alloc (.cells #[.int .i64 0, .string ⟨#[]⟩, .bool false, .slice none 0 0] TX)).heap[w.heap.size]? = some (.cells #[.int .i64 r.k, .string r.s, .bool r.b, .slice va r.ps.length vc] TX) := by
        show ((w.heap.push _).push _)[_]? = _
        rw [Array.getElem?_push, if_neg (by simp), Array.getElem?_push, if_pos rfl]
      obtain ⟨w2, hw2⟩ : ∃ w2, Hid (w2 = (w.alloc (.cells #[.int .i64 r.k, .string r.s, .bool r.b, .slice va r.ps.length vc] TX)).alloc (.cells #[.int .i64 0, .string ⟨#[]⟩, .bool false, .slice none 0 0] TX)) := ⟨_, hidden rfl⟩
      rw [← hw2.out] at t1 t2 t3 t4 hX2
      have hw2s : w2.heap.size = w.heap.size + 2 := by rw [hw2.out]; show ((w.heap.push _).push _).size = _; simp
      obtain ⟨⟨x0, x1, x2, x3⟩, -⟩ := box4f hX2
      have nx := World.new_ne _ _ x0
      obtain ⟨y0, hy0⟩ : ∃ y0, Hid (y0 = (w2.alloc (.cells #[.int .i64 r.k, .string (cutB r.s 32), .bool r.b, .slice none 0 0] TX)).drew) := ⟨_, hidden rfl⟩
      have hst : Hid (XF w #[.int .i64 r.k, .string r.s, .bool r.b, .slice va r.ps.length vc] r.k (cutB r.s 32) r.b d r.ps 0 (.slice none 0 0) [] y0) := by
        rw [hy0.out]
        exact ⟨⟨t4.os, t4.tape, t4.output, t4.size, t4.block⟩, t1, t2, t3, World.ownsRow_nil .., rfl, fun i hi => by omega⟩
      have hys : Hid (y0.heap.size = w.heap.size + 3) := by show _ = _; rw [hy0.out]; show (w2.heap.push _).size = _; simp; omega
      replace hw2s := hidden hw2s
      clear t1 t2 t3 t4 hX2 hsz
      generalize hcl : cutB r.s 32 = cl at *
      replace hcl := hidden hcl
      go_enter Tryz.func31, Tryz.ntmps31
      go_wp2_with fail
      rw [← hw2.out]
      go_region_held3 (fun z => z.cell? ⟨w.heap.size, 0, none⟩ = some (.int .i64 r.k) ∧ z.cell? ⟨w.heap.size, 1, none⟩ = some (.string r.s) ∧ z.cell? ⟨w.heap.size, 2, none⟩ = some (.bool r.b)) (go_keep) (first
        | (go_at_call 6; refine (hcut _).mono ?_; rintro e z1 ⟨rfl, rfl⟩)
        | fail)
      all_goals
        rw [← hy0.out, hw2s.out]
        clear hcut x0 x1 x2 x3 nx
        go_wp2_with fail
        go_loopw [6] (fun i x => ∃ (k : Nat) (u : Value) (vs : List RxV), k ≤ r.ps.length ∧ k ≤ 3 ∧ (d = 0 → k = 0) ∧ i = .int .i64 k ∧ Hid (XF w #[.int .i64 r.k, .string r.s, .bool r.b, .slice va r.ps.length vc] r.k cl r.b d r.ps k u vs x) ∧ Hid (w.heap.size + 3 ≤ x.heap.size)) (fun i _ => 3 - (intOf i).toNat)
        case atStart => exact ⟨0, _, [], Nat.zero_le _, Nat.zero_le _, fun _ => rfl, rfl, hst, by show _ ≤ _; have := hys.out; omega⟩
        case round =>
          clear hst hys
          obtain ⟨k, u, vs, hk, hk3, hd0, rfl, hX, hsz⟩ := hrel
          obtain ⟨ua, uc, rfl⟩ : ∃ a c, u = .slice a k c := own_shape hX.out.row
          obtain ⟨⟨x0, x1, x2, x3⟩, -⟩ := box4f hX.out.hx
          obtain ⟨⟨o0, o1, o2, o3⟩, -⟩ := box4f hX.out.ho
          by_cases hgo : k < r.ps.length ∧ k < 3 ∧ 0 < d
          · obtain ⟨hk1, hk2, hdp⟩ := hgo
            have hk1' : (k : Int) < (r.ps.length : Int) := by omega
            have hk2' : (k : Int) < 3 := by omega
            have hd1 : (0 : Int) < (d : Int) := by omega
            have hd2 : (1 : Int) < (d : Int) + 1 := by omega
            have hd3 : (d : Int) ≤ 100 := by omega
            have hwd : IntKind.i64.wrap (d : Int) = (d : Int) := by rw [IntKind.wrap_i64]; omega
            have hXd := hX.out.drew
            obtain ⟨pb, po, q, rfl, hpb, c0, c1, c2, c3, hq⟩ := (hv0.out.below hX.out.below).at hk1
            have hih := ih (d - 1) (by omega) (by omega) D ok q (r.ps.getD k Rx.none) wr.drew (hq.below (Below.refl _ _).drew)
            rw [show d - 1 + 1 = d by omega] at hih
            obtain ⟨qk, qs, qb, qa, qn, qc⟩ := q
            simp only at c0 c1 c2 c3 hih
            have hszd : Hid (w.heap.size + 3 ≤ wr.drew.heap.size) := hsz.out
            replace hXd := hidden hXd
            clear hq
            go_wp2_with fail
            go_region_law (first
              | (refine step_wp (by rfl) (wp_call (vs := #[.agg #[.int .i64 qk, .string qs, .bool qb, .slice qa qn qc], .int .i64 (d : Int)]) (by rfl) (fun _ _ => rfl) (by simp only [List.map_toArray, List.map_cons, List.map_nil] <;> rfl) (hih.mono ?_)); rintro e z ⟨⟨k1, s1, b1, a1, n1, c9⟩, rfl, hH, hB⟩; simp only; refine ⟨_, rfl, ?_⟩
                 have hXz := hidden (hXd.out.step hB)
                 have hHz := hidden (hH.below ((Below.refl z.heap.size z).alloc (Nat.le_refl _) (.cells #[.int .i64 k1, .string s1, .bool b1, .slice a1 n1 c9] TX)))
                 have hBz := hidden (hB.alloc hB.size (.cells #[.int .i64 k1, .string s1, .bool b1, .slice a1 n1 c9] TX))
                 have hXa := hidden (hXd.out.step hBz.out)
                 obtain ⟨⟨q0, q1, q2, q3⟩, -⟩ := box4f hXz.out.ho
                 have z2 : ∀ o, (z.alloc o).cell? ⟨w.heap.size + 2, 3, none⟩ = some (.slice ua k uc) := fun o => (World.cell?_alloc_lt _ _ _ (World.block_lt_of_cell? _ _ q3)).trans q3
                 clear hH hB)
              | (refine step_append_own_at (by rfl) _ _ _ (by rfl) (w.heap.size + 3) TX i0 _ 4 56 Tryz.underlying45 hi hz0 hz1 hz2 rfl (by decide) (.slice ua k uc) _ _ (by rfl) hXa.out.row ⟨z.heap.size, 0, none⟩ 1 1 [.int .i64 k1, .string s1, .bool b1, .slice a1 n1 c9] (by rfl) (by rfl) (cells_new z [_, _, _, _] _) (by simp [Value.oneCell']) (by unfold maxLen; omega) (by omega) (Nat.le_trans hszd.out hBz.out.size) ?_
                 intro v' w6 hown6 hgrow6 hat6
                 obtain ⟨a6, c6, rfl⟩ := own_shape hown6
                 obtain ⟨⟨r0, r1, r2, r3⟩, f0, f1, f2, f3⟩ := box4f ((hgrow6.block (w.heap.size + 2) (Array.getElem?_eq_some_iff.1 hXa.out.ho).1 (fun e => by have := (hXa.out.row.lt _ e.symm).1; omega)).trans hXa.out.ho))
              | fail)
            all_goals
              have hfin := hidden (hXd.out.more hszd.out hBz.out hHz.out hown6 hgrow6 hat6)
              have hszf : Hid (w.heap.size + 3 ≤ (w6.setCell ⟨w.heap.size + 2, 3, none⟩ (.slice a6 (k + 1) c6)).heap.size) := by
                refine Nat.le_trans (Nat.le_trans hszd.out hBz.out.size) (Nat.le_trans hgrow6.size ?_)
                simp [World.setCell]
              clear hXd hszd hBz hHz hown6 hgrow6 hat6 hXz hXa hX hsz z2 q0 q1 q2 q3 r0 r1 r2 r3 f0 f1 f2 f3 x0 x1 x2 x3 o0 o1 o2 o3 c0 c1 c2 c3 hih
              go_wp2
              go_roundw
              case rel => exact ⟨k + 1, _, _, by omega, by omega, fun h => absurd h (by omega), by go_num, hfin, hszf⟩
              case measure => simp [intOf]; omega
          · have hkd : (d = 0 ∧ k = 0) ∨ (0 < d ∧ k = min 3 r.ps.length) := by
              by_cases h0 : d = 0
              · exact .inl ⟨h0, hd0 h0⟩
              · refine .inr ⟨by omega, ?_⟩
                have : ¬ (k < r.ps.length ∧ k < 3) := fun h => hgo ⟨h.1, h.2, by omega⟩
                omega
            have hdn := hX.out
            rw [← hcl.out] at hdn
            have hdn2 := hdn.done hkd rfl (by rw [hcl.out]; exact hcs.out)
            rw [hcl.out] at hdn2
            obtain ⟨⟨e0, e1, e2, e3⟩, f0, f1, f2, f3⟩ := box4f hX.out.hr
            have hR := hX.out.hr
            have hfin : Hid (((((wr.setCell ⟨w.heap.size + 1, 0, none⟩ (.int .i64 r.k)).setCell ⟨w.heap.size + 1, 1, none⟩ (.string cl)).setCell ⟨w.heap.size + 1, 2, none⟩ (.bool r.b)).setCell ⟨w.heap.size + 1, 3, none⟩ (.slice ua k uc)).heap[w.heap.size + 1]? = some (.cells #[.int .i64 r.k, .string cl, .bool r.b, .slice ua k uc] TX)) := by
              have h := heap_setX (heap_setX (heap_setX (heap_setX hR 0 (.int .i64 r.k)) 1 (.string cl)) 2 (.bool r.b)) 3 (.slice ua k uc)
              show _ = _
              simpa using h
            have hBf := hidden ((((hX.out.below.setCell (p := ⟨w.heap.size + 1, 0, none⟩) (Nat.le_succ _) (.int .i64 r.k)).setCell (p := ⟨w.heap.size + 1, 1, none⟩) (Nat.le_succ _) (.string cl)).setCell (p := ⟨w.heap.size + 1, 2, none⟩) (Nat.le_succ _) (.bool r.b)).setCell (p := ⟨w.heap.size + 1, 3, none⟩) (Nat.le_succ _) (.slice ua k uc))
            have hHf : Hid (HeldX (fun g => w.heap.size ≤ g) ((((wr.setCell ⟨w.heap.size + 1, 0, none⟩ (.int .i64 r.k)).setCell ⟨w.heap.size + 1, 1, none⟩ (.string cl)).setCell ⟨w.heap.size + 1, 2, none⟩ (.bool r.b)).setCell ⟨w.heap.size + 1, 3, none⟩ (.slice ua k uc)) (d + 1) ⟨r.k, cl, r.b, ua, k, uc⟩ (r.few d)) :=
              hdn2.kept fun b h1 h2 => ⟨by omega, by simpa [World.setCell] using h2, by rw [heap_oX (show w.heap.size + 1 ≠ b by omega), heap_oX (show w.heap.size + 1 ≠ b by omega), heap_oX (show w.heap.size + 1 ≠ b by omega), heap_oX (show w.heap.size + 1 ≠ b by omega)]⟩
            clear hdn hdn2 hR hX hsz
            by_cases hk1 : k < r.ps.length
            · have hk1' : (k : Int) < (r.ps.length : Int) := by omega
              by_cases hk2 : k < 3
              · have hk2' : (k : Int) < 3 := by omega
                have hd1 : ¬ (0 : Int) < (d : Int) := by omega
                have hd2 : ¬ (1 : Int) < (d : Int) + 1 := by omega
                go_wp2
                replace hfin := hfin.out
                refine bodyPost_ret (results_cell_row rfl _ _ (w.heap.size + 1) _ _ _ _ rfl hfin Tryz.underlying47 rfl (by kernel_rfl)) rfl ⟨⟨r.k, cl, r.b, ua, k, uc⟩, rfl, hHf.out, hBf.out⟩
              · have hk2' : ¬ (k : Int) < 3 := by omega
                go_wp2
                replace hfin := hfin.out
                refine bodyPost_ret (results_cell_row rfl _ _ (w.heap.size + 1) _ _ _ _ rfl hfin Tryz.underlying47 rfl (by kernel_rfl)) rfl ⟨⟨r.k, cl, r.b, ua, k, uc⟩, rfl, hHf.out, hBf.out⟩
            · have hk1' : ¬ (k : Int) < (r.ps.length : Int) := by omega
              go_wp2
              replace hfin := hfin.out
              refine bodyPost_ret (results_cell_row rfl _ _ (w.heap.size + 1) _ _ _ _ rfl hfin Tryz.underlying47 rfl (by kernel_rfl)) rfl ⟨⟨r.k, cl, r.b, ua, k, uc⟩, rfl, hHf.out, hBf.out⟩
end Go.Proofs.YtpjcjlbjcegjgaaGreatDoor
/-
  Few, of an expression: by contract.
-/
namespace Go.Proofs.YtpjcjlbjcegjgaaGreatDoor
open Go.ChangeShapes Go.WideShapes Go.ChangeAt Go.RowKit

set_option maxHeartbeats 6400000 in
set_option maxRecDepth 100000 in
theorem rxFew_c {D : Nat} {ok : Nat → Prop} {v : RxV} {r : Rx} {w : World} (hv : HeldX ok w D v r) :
    Calls Tryz.prog 21 #[.agg #[.int .i64 v.k, .string v.s, .bool v.b, .slice v.a v.n v.c]] w fun e w' => ∃ q : RxV, e = .returned (.agg #[.int .i64 q.k, .string q.s, .bool q.b, .slice q.a q.n q.c]) ∧ HeldX (fun g => w.heap.size ≤ g) w' 4 q (r.few 3) ∧ Below w.heap.size w w' := by
  obtain ⟨t1, t2, -, -⟩ := two3 w (.cells #[.int .i64 v.k, .string v.s, .bool v.b, .slice v.a v.n v.c] TX) (.cells #[.int .i64 0, .string ⟨#[]⟩, .bool false, .slice none 0 0] TX) (.cells #[] TX)
  have hX1 : ((w.alloc (.cells #[.int .i64 v.k, .string v.s, .bool v.b, .slice v.a v.n v.c] TX)).alloc (.cells #[.int .i64 0, .string ⟨#[]⟩, .bool false, .slice none 0 0] TX)).heap[w.heap.size]? = some (.cells #[.int .i64 v.k, .string v.s, .bool v.b, .slice v.a v.n v.c] TX) := by
    show ((w.heap.push _).push _)[_]? = _
    rw [Array.getElem?_push, if_neg (by simp), Array.getElem?_push, if_pos rfl]
  have hX2 : ((w.alloc (.cells #[.int .i64 v.k, .string v.s, .bool v.b, .slice v.a v.n v.c] TX)).alloc (.cells #[.int .i64 0, .string ⟨#[]⟩, .bool false, .slice none 0 0] TX)).heap[w.heap.size + 1]? = some (.cells #[.int .i64 0, .string ⟨#[]⟩, .bool false, .slice none 0 0] TX) := by
    show ((w.heap.push _).push _)[_]? = _
    rw [Array.getElem?_push, if_pos (by simp)]
  have hB2 : Below w.heap.size w ((w.alloc (.cells #[.int .i64 v.k, .string v.s, .bool v.b, .slice v.a v.n v.c] TX)).alloc (.cells #[.int .i64 0, .string ⟨#[]⟩, .bool false, .slice none 0 0] TX)) := ((Below.refl _ _).alloc (Nat.le_refl _) _).alloc (by show _ ≤ (w.heap.push _).size; simp) _
  obtain ⟨w2, hw2⟩ : ∃ w2, Hid (w2 = (w.alloc (.cells #[.int .i64 v.k, .string v.s, .bool v.b, .slice v.a v.n v.c] TX)).alloc (.cells #[.int .i64 0, .string ⟨#[]⟩, .bool false, .slice none 0 0] TX)) := ⟨_, hidden rfl⟩
  rw [← hw2.out] at hX1 hX2 hB2
  have hw2s : w.heap.size + 2 ≤ w2.heap.size := by rw [hw2.out]; show _ ≤ ((w.heap.push _).push _).size; simp
  obtain ⟨⟨x0, x1, x2, x3⟩, -⟩ := box4f hX1
  have hf := rxfew_c 3 (by decide) D ok v r w2 (hv.below hB2)
  obtain ⟨vk, vs, vb, va, vn, vc⟩ := v
  simp only at hf x0 x1 x2 x3 hw2
  replace hX2 := hidden hX2
  replace hB2 := hidden hB2
  replace hw2s := hidden hw2s
  clear t1 t2 hX1 hv
  go_enter Tryz.func21, Tryz.ntmps21
  go_wp2_with fail
  rw [← hw2.out]
  go_wp2_with (first
    | (go_at_call 31; refine hf.mono ?_; rintro e z ⟨⟨k1, s1, b1, a1, n1, c1⟩, rfl, hH, hB⟩; have hz := blk_below hX2.out hB; obtain ⟨⟨e0, e1, e2, e3⟩, f0, f1, f2, f3⟩ := box4f hz)
    | fail)
  have hfin : Hid (((((z.setCell ⟨w.heap.size + 1, 0, none⟩ (.int .i64 k1)).setCell ⟨w.heap.size + 1, 1, none⟩ (.string s1)).setCell ⟨w.heap.size + 1, 2, none⟩ (.bool b1)).setCell ⟨w.heap.size + 1, 3, none⟩ (.slice a1 n1 c1)).heap[w.heap.size + 1]? = some (.cells #[.int .i64 k1, .string s1, .bool b1, .slice a1 n1 c1] TX)) := by
    have h := heap_setX (heap_setX (heap_setX (heap_setX hz 0 (.int .i64 k1)) 1 (.string s1)) 2 (.bool b1)) 3 (.slice a1 n1 c1)
    show _ = _
    simpa using h
  have hBz := hB2.out.trans (hB.mono hB2.out.size)
  have hBf := hidden ((((hBz.setCell (p := ⟨w.heap.size + 1, 0, none⟩) (Nat.le_succ _) (.int .i64 k1)).setCell (p := ⟨w.heap.size + 1, 1, none⟩) (Nat.le_succ _) (.string s1)).setCell (p := ⟨w.heap.size + 1, 2, none⟩) (Nat.le_succ _) (.bool b1)).setCell (p := ⟨w.heap.size + 1, 3, none⟩) (Nat.le_succ _) (.slice a1 n1 c1))
  have hHf : Hid (HeldX (fun g => w.heap.size ≤ g) ((((z.setCell ⟨w.heap.size + 1, 0, none⟩ (.int .i64 k1)).setCell ⟨w.heap.size + 1, 1, none⟩ (.string s1)).setCell ⟨w.heap.size + 1, 2, none⟩ (.bool b1)).setCell ⟨w.heap.size + 1, 3, none⟩ (.slice a1 n1 c1)) 4 ⟨k1, s1, b1, a1, n1, c1⟩ (r.few 3)) :=
    hH.kept fun b h1 h2 => ⟨by have := hw2s.out; omega, by simpa [World.setCell] using h2, by have := hw2s.out; rw [heap_oX (show w.heap.size + 1 ≠ b by omega), heap_oX (show w.heap.size + 1 ≠ b by omega), heap_oX (show w.heap.size + 1 ≠ b by omega), heap_oX (show w.heap.size + 1 ≠ b by omega)]⟩
  clear hz hBz hB hH hf
  go_wp2
  replace hfin := hfin.out
  refine bodyPost_ret (results_cell_row rfl _ _ (w.heap.size + 1) _ _ _ _ rfl hfin Tryz.underlying47 rfl (by kernel_rfl)) rfl ⟨⟨k1, s1, b1, a1, n1, c1⟩, rfl, hHf.out, hBf.out⟩
end Go.Proofs.YtpjcjlbjcegjgaaGreatDoor
