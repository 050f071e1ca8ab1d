/-
  METERS: two meters and their references, side by side; acts that came in.
-/
import Derived.Test.YtoijkbnjcnedjaaDoorMet9
import Derived.Test.YtoijkbnjcnedjaaDoorSameT
namespace Go.Proofs.YtoijkbnjcnedjaaDoor
open Go.ChangeShapes Go.WideShapes Go.ChangeAt Go.RowKit Go.Maps

/-- What is done. -/
structure Ac where
  d : Int
  s : ByteArray
  n : Int
def Ac.none : Ac := ⟨0, ⟨#[]⟩, 0⟩
def acR : Rec Ac := ⟨fun p => [.int .i64 p.d, .string p.s, .int .i64 p.n], 3, by decide, fun _ => rfl, fun p u hu => by simp at hu; rcases hu with rfl | rfl | rfl <;> rfl, Ac.none⟩
theorem ac_at {w : World} {a : Option Addr} {L : List Ac} (h : RowAt w a (acR.flat L)) {k : Nat} (hk : k < L.length) :
    ∃ b off, a = some ⟨b, off, none⟩ ∧ b < w.heap.size ∧ w.cell? ⟨b, off + k * 3, none⟩ = some (.int .i64 (L.getD k Ac.none).d) ∧ w.cell? ⟨b, off + k * 3 + 1, none⟩ = some (.string (L.getD k Ac.none).s) ∧ w.cell? ⟨b, off + k * 3 + 2, none⟩ = some (.int .i64 (L.getD k Ac.none).n) := by
  obtain ⟨b, off, h1, h2, h3⟩ := rec_at h hk
  exact ⟨b, off, h1, h2, h3 0 _ rfl, h3 1 _ rfl, h3 2 _ rfl⟩
theorem kk_int : Tryd.prog.cellsOf 3 = 1 := by kernel_rfl
theorem kk_str : Tryd.prog.cellsOf 9 = 1 := by kernel_rfl
set_option maxRecDepth 100000 in
theorem open_acts {H : Type} {enc : TypeId × Value → H} {w : World} {sp : Nat → Bool} {held : Bool} {v : Value} {d : DataW H} {qs : List MemPlace} {r : Reach} {b0 : Nat}
    (hval : Value.okWide Tryd.prog w r b0 22 v) (h : DataW.Trod enc Tryd.prog w 0 sp held 22 v d qs) : ∃ ps : List Ac, ps.length ≤ maxLen ∧ HoldsR acR w v ps := by
  obtain ⟨ps, h1, h2, _⟩ := open_recs (R := acR) (ok := fun _ => True) Tryd.underlying22 (by kernel_rfl) (fun fuel cs x hl hx => by
    match cs, hl with
    | [a0, a1, a2], _ =>
      obtain ⟨xs, n, hfu, _, _, hlen, hf⟩ := DataW.trod_struct Tryd.underlying34 hx
      have g0 := hf 0 _ at0
      have g1 := hf 1 _ at1
      have g2 := hf 2 _ at2
      match xs, hlen with
      | [y0, y1, y2], _ =>
        (try dsimp only at g0 g1 g2)
        simp only [kk_int, kk_str, List.drop_zero, List.take_succ_cons, List.take_zero, List.drop_succ_cons, List.getElem?_cons_zero, List.getElem?_cons_succ] at g0 g1 g2
        obtain ⟨m0, b0, _, _⟩ := DataW.trod_int Tryd.underlying3 g0
        obtain ⟨m1, b1, _, _⟩ := DataW.trod_string Tryd.underlying9 g1
        obtain ⟨m2, b2, _, _⟩ := DataW.trod_int Tryd.underlying3 g2
        simp only [List.cons.injEq, and_true] at b0 b1 b2
        subst b0 b1 b2
        exact ⟨⟨m0, m1, m2⟩, rfl, trivial⟩) hval h
  exact ⟨ps, h1, h2⟩
theorem rowb_lt {w : World} {B : Nat} {e : TypeId} {size n m c : Nat} {a : Option Addr} {xs : List Value} (h : w.ownsRow B e size (.slice a n c) m xs) : ∀ k ∈ rowb a, B ≤ k ∧ k < w.heap.size ∧ (Value.slice a n c).ownBlock = some k := by
  intro k hk
  rcases h.2 with ⟨h1, _⟩ | ⟨g, cap, cur, e1, e2, e3, _⟩
  · simp only [Value.slice.injEq] at h1
    rw [h1.1] at hk
    cases hk
  · simp only [Value.slice.injEq] at e1
    rw [e1.1] at hk ⊢
    simp only [rowb, Option.toList_some, List.map_cons, List.map_nil, List.mem_singleton] at hk
    subst hk
    exact ⟨e2, (Array.getElem?_eq_some_iff.1 e3).1, rfl⟩
theorem rowb_mem {w : World} {B : Nat} {e : TypeId} {size n m c : Nat} {a : Option Addr} {xs : List Value} (h : w.ownsRow B e size (.slice a n c) m xs) {g : Nat} (hg : (Value.slice a n c).ownBlock = some g) : g ∈ rowb a := by
  rcases h.2 with ⟨h1, _⟩ | ⟨g', cap, cur, e1, e2, e3, _⟩
  · rw [h1] at hg; cases hg
  · rw [e1] at hg
    simp only [Value.slice.injEq] at e1
    cases hg
    rw [e1.1]
    simp [rowb]
/-- Both meters and both references. -/
structure MJ (w x : World) (nm : Nat) (Dm : DataW Unit) (no : Nat) (Do : DataW Unit) (most : Int) (Lm Mo Lx My : List Ct) (ax : Option Addr) (cx : Nat) (ay : Option Addr) (cy : Nat) : Prop where
  below : Below w.heap.size w x
  m : MtAt x (w.heap.size + 1) w.heap.size nm Dm most Lm
  o : MtAt x (w.heap.size + 3) (w.heap.size + 2) no Do 1000000000000 Mo
  xr : RMt (w.heap.size + 6) x (w.heap.size + 4) ax cx most Lx
  yr : RMt (w.heap.size + 6) x (w.heap.size + 5) ay cy 1000000000000 My
  hB : w.heap.size + 6 ≤ x.heap.size
  sep : ∀ g, (Value.slice ax Lx.length cx).ownBlock = some g → (Value.slice ay My.length cy).ownBlock ≠ some g
variable {w x z : World} {nm : Nat} {Dm : DataW Unit} {no : Nat} {Do : DataW Unit} {most : Int} {Lm Mo Lx My : List Ct} {ax : Option Addr} {cx : Nat} {ay : Option Addr} {cy : Nat}
theorem MJ.step (h : MJ w x nm Dm no Do most Lm Mo Lx My ax cx ay cy) (hz : Below x.heap.size x z) : MJ w z nm Dm no Do most Lm Mo Lx My ax cx ay cy :=
  ⟨h.below.trans (hz.mono h.below.size), h.m.below hz, h.o.below hz, h.xr.below hz, h.yr.below hz, Nat.le_trans h.hB hz.size, h.sep⟩
theorem MJ.addM (h : MJ w x nm Dm no Do most Lm Mo Lx My ax cx ay cy) {n' : Nat} {D' : DataW Unit} {L' : List Ct} (hm : MtAt z (w.heap.size + 1) w.heap.size n' D' most L') (hs : SaveL [w.heap.size + 1, w.heap.size] x z) : MJ w z n' D' no Do most L' Mo Lx My ax cx ay cy :=
  ⟨h.below.trans (hs.below h.below.size (fun k hk => by simp at hk; omega)), hm, h.o.save hs (by simp) (by simp), h.xr.save hs (by simp) (fun g hg => by have := (h.xr.row.lt g hg).1; simp; omega), h.yr.save hs (by simp) (fun g hg => by have := (h.yr.row.lt g hg).1; simp; omega), Nat.le_trans h.hB hs.size, h.sep⟩
theorem MJ.addO (h : MJ w x nm Dm no Do most Lm Mo Lx My ax cx ay cy) {n' : Nat} {D' : DataW Unit} {L' : List Ct} (hm : MtAt z (w.heap.size + 3) (w.heap.size + 2) n' D' 1000000000000 L') (hs : SaveL [w.heap.size + 3, w.heap.size + 2] x z) : MJ w z nm Dm n' D' most Lm L' Lx My ax cx ay cy :=
  ⟨h.below.trans (hs.below h.below.size (fun k hk => by simp at hk; omega)), h.m.save hs (by simp) (by simp), hm, h.xr.save hs (by simp) (fun g hg => by have := (h.xr.row.lt g hg).1; simp; omega), h.yr.save hs (by simp) (fun g hg => by have := (h.yr.row.lt g hg).1; simp; omega), Nat.le_trans h.hB hs.size, h.sep⟩
theorem MJ.addX (h : MJ w x nm Dm no Do most Lm Mo Lx My ax cx ay cy) {a' : Option Addr} {c' : Nat} {L' : List Ct} (hm : RMt (w.heap.size + 6) z (w.heap.size + 4) a' c' most L') (hs : SaveL ((w.heap.size + 4) :: rowb ax) x z)
    (hg : ∀ g2, (Value.slice a' L'.length c').ownBlock = some g2 → (Value.slice ax Lx.length cx).ownBlock = some g2 ∨ x.heap.size ≤ g2) : MJ w z nm Dm no Do most Lm Mo L' My a' c' ay cy := by
  have hr := fun k hk => rowb_lt h.xr.row k hk
  refine ⟨h.below.trans (hs.below h.below.size (fun k hk => ?_)), h.m.save hs (fun hm => ?_) (fun hm => ?_), h.o.save hs (fun hm => ?_) (fun hm => ?_), hm, h.yr.save hs (fun hm => ?_) (fun g hg2 hm => ?_), Nat.le_trans h.hB hs.size, fun g h1 h2 => ?_⟩
  · rcases List.mem_cons.1 hk with rfl | hk
    · omega
    · have := (hr k hk).1; omega
  · rcases List.mem_cons.1 hm with h0 | hk
    · omega
    · have := (hr _ hk).1; omega
  · rcases List.mem_cons.1 hm with h0 | hk
    · omega
    · have := (hr _ hk).1; omega
  · rcases List.mem_cons.1 hm with h0 | hk
    · omega
    · have := (hr _ hk).1; omega
  · rcases List.mem_cons.1 hm with h0 | hk
    · omega
    · have := (hr _ hk).1; omega
  · rcases List.mem_cons.1 hm with h0 | hk
    · omega
    · have := (hr _ hk).1; omega
  · rcases List.mem_cons.1 hm with h0 | hk
    · have := (h.yr.row.lt g hg2).1; omega
    · exact h.sep g (hr _ hk).2.2 hg2
  · rcases hg g h1 with h3 | h3
    · exact h.sep g h3 h2
    · have := (h.yr.row.lt g h2).2; omega
theorem MJ.addY (h : MJ w x nm Dm no Do most Lm Mo Lx My ax cx ay cy) {a' : Option Addr} {c' : Nat} {L' : List Ct} (hm : RMt (w.heap.size + 6) z (w.heap.size + 5) a' c' 1000000000000 L') (hs : SaveL ((w.heap.size + 5) :: rowb ay) x z)
    (hg : ∀ g2, (Value.slice a' L'.length c').ownBlock = some g2 → (Value.slice ay My.length cy).ownBlock = some g2 ∨ x.heap.size ≤ g2) : MJ w z nm Dm no Do most Lm Mo Lx L' ax cx a' c' := by
  have hr := fun k hk => rowb_lt h.yr.row k hk
  refine ⟨h.below.trans (hs.below h.below.size (fun k hk => ?_)), h.m.save hs (fun hm => ?_) (fun hm => ?_), h.o.save hs (fun hm => ?_) (fun hm => ?_), h.xr.save hs (fun hm => ?_) (fun g hg2 hm => ?_), hm, Nat.le_trans h.hB hs.size, fun g h1 h2 => ?_⟩
  · rcases List.mem_cons.1 hk with rfl | hk
    · omega
    · have := (hr k hk).1; omega
  · rcases List.mem_cons.1 hm with h0 | hk
    · omega
    · have := (hr _ hk).1; omega
  · rcases List.mem_cons.1 hm with h0 | hk
    · omega
    · have := (hr _ hk).1; omega
  · rcases List.mem_cons.1 hm with h0 | hk
    · omega
    · have := (hr _ hk).1; omega
  · rcases List.mem_cons.1 hm with h0 | hk
    · omega
    · have := (hr _ hk).1; omega
  · rcases List.mem_cons.1 hm with h0 | hk
    · omega
    · have := (hr _ hk).1; omega
  · rcases List.mem_cons.1 hm with h0 | hk
    · have := (h.xr.row.lt g hg2).1; omega
    · exact h.sep g hg2 (hr _ hk).2.2
  · rcases hg g h2 with h3 | h3
    · exact h.sep g h1 h3
    · have := (h.xr.row.lt g h1).2; omega
/-- What a list of what was counted is. -/
structure Kept (most : Int) (L : List Ct) (k : Nat) (a : Option Addr) (c : Nat) : Prop where
  fine : Fine most L
  names : ∀ s ∈ namesC L, nameS s
  len : L.length ≤ k
  nil : L = [] → a = .none ∧ c = 0
theorem Kept.add {k : Nat} {a a' : Option Addr} {c c' : Nat} {L : List Ct} (h : Kept most L k a c) {s : ByteArray} {n : Int} (hs : s.size ≤ 40) (hn : addTo most L s n = [] → a' = .none ∧ c' = 0) : Kept most (addTo most L s n) (k + 1) a' c' := by
  unfold addTo at hn ⊢
  split
  · rename_i h1
    rw [if_pos h1] at hn
    refine ⟨h.fine.add h1.2.1 hs h1.2.2, fun t ht => ?_, Nat.le_trans (len_add _ _ _) (Nat.succ_le_succ h.len), hn⟩
    rcases (names_add s n L t).1 ht with rfl | ht
    · exact h1.1
    · exact h.names t ht
  · rename_i h1
    rw [if_neg h1] at hn
    exact ⟨h.fine, h.names, Nat.le_succ_of_le h.len, hn⟩
theorem Kept.more {k k' : Nat} {a : Option Addr} {c : Nat} {L : List Ct} (h : Kept most L k a c) (hk : k ≤ k') : Kept most L k' a c := ⟨h.fine, h.names, Nat.le_trans h.len hk, h.nil⟩
end Go.Proofs.YtoijkbnjcnedjaaDoor
