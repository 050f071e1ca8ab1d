/-
  THE OPERATIONS THAT CHANGE MEMORY: append, conversions, and all of them together. No program is named here.
-/
import Derived.Test.YtnmjhbnadfjapaaXHeavy8
namespace GoX
open Go

noncomputable def movedK (H : AH) (b : Nat) (blk : Blk) (k : Nat → AH → Bool) : Bool :=
  forceN (H.next + 1) fun n => Trie.putK (bits b) H.t none fun t => Trie.putK (bits H.next) t (some blk) fun t => k H.next ⟨n, t⟩
theorem movedK_ok {H : AH} {b : Nat} {blk : Blk} {k : Nat → AH → Bool} (h : movedK H b blk k = true) :
    ∃ H' : AH, H'.get = upd (upd H.get b none) H.next (some blk) ∧ H'.next = H.next + 1 ∧ k H.next H' = true := by
  unfold movedK at h
  rw [forceN_eq, Trie.putK_eq, Trie.putK_eq] at h
  refine ⟨_, ?_, rfl, h⟩
  have e1 := AH.get_set ⟨H.next + 1, H.t.set b none⟩ (H.next + 1) H.next (some blk)
  have e2 := AH.get_set H (H.next + 1) b none
  rw [e2] at e1
  exact e1

/-- Elements put behind those of a row that append has grown. -/
noncomputable def growK (H : AH) (size : Nat) (e : TypeId) (sv : AV) (b o lo len need : Nat) (new : List AV) (k : AV → AH → Bool) : Bool :=
  cond (Nat.beq o (lo * size)) (Trie.getK (bits b) H.t false fun blk => match blk with
    | .cells cl e' kd => cond (Nat.beq kd (size + 2) && allOne new && Nat.beq e' e)
        (cond (Nat.blt 0 size && Nat.ble ((lo + need) * size) (lenF cl)) (forceN (o + len * size) fun at' => putCellsK H (b, at') new fun H => k (.sl (some (b, o)) need (.opened lo)) H)
          (srcK H size sv len fun old => appK old new fun cells => movedK H b (.cells cells e (size + 2)) fun n H => k (.sl (some (n, 0)) need (.opened 0)) H)) false
    | _ => false) false

noncomputable def appendGo (_K : Tab) (i : TypeInfo) (e : TypeId) (H : AH) (sv xv : AV) (k : AV → AH → Bool) : Bool :=
  match sv with
  | .sl base len cap => lenK xv fun n => cond (notStr xv || Nat.beq i.size 1) (srcK H i.size xv n fun new => forceN (len + n) fun need =>
      cond (Nat.ble ((2 * need + 768) * i.bytes) 140737488355328 && Nat.blt need 140737488355328) (match cap with
        | .exact cp => cond (Nat.ble need cp)
            (match base with
             | none => k (.sl none need (.exact cp)) H
             | some a => forceN (a.2 + len * i.size) fun o => putRowK H (a.1, o) new fun H => k (.sl (some a) need (.exact cp)) H)
            (srcK H i.size sv len fun old => appK old new fun cells => newBlkK H (.cells cells e (i.size + 2)) fun n H => k (.sl (some (n, 0)) need (.opened 0)) H)
        | .opened lo => match base with
          | none => false
          | some a => Nat.casesOn n (k sv H) fun _ => growK H i.size e sv a.1 a.2 lo len need new k
        | .edge lo _ => match base with
          | none => false
          | some a => cond (Nat.beq len 0) (Nat.casesOn n (k sv H) fun _ => growK H i.size e sv a.1 a.2 lo len need new k) false) false) false
  | _ => false

noncomputable def hAppend (K : Tab) (c : Call) : CH :=
  match c.argTypes.toList, c.args.toList with
  | st :: xt :: _, [s, x] => match K.und st, K.und xt with
    | some (.slice e), some xd => match isIntD xd, K.inf e, K.zero e with
      | false, some i, some z => match Nat.beq z.cells.length i.size with
        | true => ⟨fun T H k => (ce K.ng s).go T fun sv => (ce K.ng x).go T fun xv => appendGo K i e H sv xv k⟩
        | false => CH.none
      | _, _, _ => CH.none
    | _, _ => CH.none
  | _, _ => CH.none

theorem types_get1 {c : Call} {t u : TypeId} {l : List TypeId} (h : c.argTypes.toList = t :: u :: l) : c.argTypes[1]? = some u := by
  rw [← Array.getElem?_toList, h]; rfl

/-- A row that append has grown, as it lies. -/
theorem real_grown {φ : Phi} {w : World} {H : AH} (hw : WR φ H.get w) {b size : Nat} {c : List AV} {e : TypeId} (hb : H.get b = some (.cells c e (size + 2))) {L : Loc} (hL : φ b = some L) :
    ∃ arr lo hi, w.heap[L.b]? = some (.cells arr e (lo, hi)) ∧ arr.size = L.o + L.k * size ∧ (∀ j, j < arr.size → ¬ (lo ≤ j ∧ j < hi)) := by
  obtain ⟨o, ho, hr⟩ := hw.real b _ L hb hL
  obtain ⟨cs, pre, post, lo, hi, h1, rfl, h3, h4, h5⟩ := hr
  refine ⟨_, lo, hi, ho, ?_, fun j hj => h5 j (by simpa using hj)⟩
  simp only [List.size_toArray, List.length_append] at h4 ⊢
  omega

theorem take_spl {α : Type} (arr : List α) (off : Nat) (xs : List α) (_h : off + xs.length ≤ arr.length) (s : Nat) (hs : s ≤ off) :
    spl arr off xs = arr.take s ++ (((arr.drop s).take (off - s) ++ xs) ++ arr.drop (off + xs.length)) := by
  simp only [spl]
  have : arr.take off = arr.take s ++ (arr.drop s).take (off - s) := by
    rw [show off = s + (off - s) by omega, List.take_add]
    simp
  rw [this]; simp [List.append_assoc]

theorem growK_ok {K : Tab} (hK : K.Ok) {T : AT} {c : Call} {st xt e : TypeId} {xd : TypeDesc} {i : TypeInfo} {z : AV} (hc : c.callee = .builtin .append) (h0 : c.argTypes[0]? = some st) (h1 : c.argTypes[1]? = some xt)
    (hs : K.und st = some (.slice e)) (hx : K.und xt = some xd) (hd : isIntD xd = false) (hi : K.inf e = some i) (hz : K.zero e = some z) (hzl : z.cells.length = i.size) {s x : Operand} (hargs : c.args.toList = [s, x])
    {H : AH} {sv xv : AV} {b o lo len n : Nat} {cap : Cap} {new : List AV} {k : AV → AH → Bool} (hsv : ev K.ng T s = some sv) (hxv : ev K.ng T x = some xv) (hcap : sv = .sl (some (b, o)) len cap)
    (hcc : cap = .opened lo ∨ (∃ old, cap = .edge lo old ∧ len = 0)) (hn : 0 < n) (hlen : ∀ (φ : Phi) (v : Value) (P : Program) (w : World), conc φ xv = some v → (Builtin.lenOf v).run P w = .ok n w)
    (hnl : new.length = n * i.size) (hnew : ∀ (φ : Phi) (v : Value) (P : Program) (w : World), WR φ H.get w → conc φ xv = some v → ∃ xs, concs φ new = some xs ∧ (Builtin.firstCells i.size n v).run P w = .ok xs.toArray w)
    (hb1 : (2 * (len + n) + 768) * i.bytes ≤ 140737488355328) (hb2 : len + n < 140737488355328)
    (h : growK H i.size e sv b o lo len (len + n) new k = true) : ∃ v H', SimH K T H.get H.next (.call c) v H'.get H'.next ∧ k v H' = true := by
  unfold growK at h
  obtain ⟨ho, h⟩ := cond_true_of h
  have ho := beq_eq' ho
  obtain ⟨blk, hb, h⟩ := getK_ok h
  match blk, h with
  | .cells cl e' kd, h =>
    obtain ⟨hkd, h'⟩ := cond_true_of h
    simp only [Bool.and_eq_true] at hkd
    obtain ⟨⟨hkd, hone⟩, hee⟩ := hkd
    have hkd := beq_eq' hkd
    have hee := beq_eq' hee
    subst hkd
    have hms : s ∈ (Op.call c).operands.toList := by simp [Op.operands, Call.operands, hc, hargs]
    have hmx : x ∈ (Op.call c).operands.toList := by simp [Op.operands, Call.operands, hc, hargs]
    have key : ∀ (φ : Phi) (a : Act), conc φ sv = some (a.eval s) → ∃ L, φ b = some L ∧ ∃ cpv, lo + cpv = L.k ∧ ∃ p, a.eval s = .slice (some p) len cpv ∧ (0 < cpv → p = ⟨L.b, L.o + o, none⟩) ∧ len ≤ cpv := by
      intro φ a hsc
      rw [hcap] at hsc
      simp only [conc] at hsc
      cases hφ : φ b with
      | none => rcases hcc with rfl | ⟨old0, rfl, _⟩ <;> simp only [concSl, hφ] at hsc <;> cases hsc
      | some L =>
        rcases hcc with rfl | ⟨old0, rfl, hl0⟩
        · simp only [concSl, hφ] at hsc
          split at hsc
          · rename_i hle
            exact ⟨L, rfl, L.k - lo, by omega, _, (Option.some.inj hsc).symm, fun _ => rfl, by omega⟩
          · cases hsc
        · simp only [concSl, hφ] at hsc
          split at hsc
          · rename_i hle
            have he := Option.some.inj hsc
            refine ⟨L, rfl, L.k - lo, by omega, _, by rw [← he, hl0], fun hpos => ?_, by omega⟩
            rw [if_neg (by omega)]
          · cases hsc
    cases hroom : (Nat.blt 0 i.size && Nat.ble ((lo + (len + n)) * i.size) (lenF cl)) with
    | true =>
      rw [hroom, cond_true, forceN_eq] at h'
      simp only [Bool.and_eq_true] at hroom
      have h0s := blt_lt hroom.1
      have hroom := ble_le hroom.2
      rw [lenF_eq] at hroom
      obtain ⟨cl2, e2, kd2, H', hb2', hk1, hone', hle, hget, hnext, hk⟩ := putCellsK_ok h'
      refine ⟨_, H', ⟨by rw [hnext]; exact Nat.le_refl _, fun φ a w hor hg hw hfr => ?_⟩, hk⟩
      have hsc := hor s hms _ hsv
      have hxc := hor x hmx _ hxv
      obtain ⟨L, hL, cpv, hcpv, p, hp, hpin, hle0⟩ := key φ a hsc
      obtain ⟨xs, hxs, hfx⟩ := hnew φ _ K.P w hw hxc
      obtain ⟨obj, _, cs, pre, post, l0, h0', hcs, _, _, hlk, _⟩ := hw.real b _ L hb hL
      have hcl := concs_length hcs
      have hk0 : lo + (len + n) ≤ L.k := by
        refine Nat.le_of_mul_le_mul_right (Nat.le_trans hroom ?_) h0s
        rw [← hlk, List.length_append]; omega
      have hpe := hpin (by omega)
      obtain ⟨w', hst, hgo⟩ := store_cells (P := K.P) H.next hw hb2' hk1 hL hle hxs hone'
      have hrun := append_place hK h0 h1 hs hx hd hi (p := some p) (len := len) (cp := cpv) (w := w) (w' := w') (hlen φ _ K.P w hxc) (by omega) hfx
        (by rw [hpe]; simp only [add_eq, Nat.add_assoc]; exact hst)
      rw [hget, hnext]
      refine ⟨φ, .slice (some p) (len + n) cpv, w', hgo, ?_, fun op hop next Q hq => wp_value ?_ hq⟩
      · simp only [conc, concSl, hL]
        rw [if_pos (by omega), hpe, show L.k - lo = cpv by omega]
      · rw [exec_builtin hop hc, args_two hargs, hp]
        exact run_value' (hrun op.type)
    | false =>
    rw [hroom, cond_false] at h'
    obtain ⟨old, hol, hold, h'⟩ := srcK_ok h' (by rintro ⟨s0, hs0⟩; rw [hcap] at hs0; cases hs0)
    rw [appK_eq] at h'
    obtain ⟨H', g1, g2, hk⟩ := movedK_ok h'
    refine ⟨_, H', ⟨by omega, fun φ a w hor hg hw hfr => ?_⟩, hk⟩
    have hsc := hor s hms _ hsv
    have hxc := hor x hmx _ hxv
    have hfn := hfr H.next (Nat.le_refl _) (by omega)
    obtain ⟨xs, hxs, hfx⟩ := hnew φ _ K.P w hw hxc
    obtain ⟨os, hos, hfo⟩ := hold φ _ K.P w hw hsc
    have hxl := concs_length hxs
    have hosl := concs_length hos
    -- the slice, as it is
    obtain ⟨L, hL, cpv, hcpv, p, hp, hpin⟩ := key φ a hsc
    have hexec : ∀ (op : Oper) (v' : Value) (w' : World), op.op = .call c → (Builtin.append_ c.argTypes op.type #[.slice (some p) len cpv, a.eval x]).run K.P w = .ok v' w' → (execOp a.eval op).run K.P w = .ok (.value v') w' := by
      intro op v' w' hop hr
      rw [exec_builtin hop hc, args_two hargs, hp]
      exact run_value' hr
    obtain ⟨zv, zs, hzv, _, hzs, hzc⟩ := zero_fact hK hi hz φ
    have hcells : concs φ (old ++ new) = some (os ++ xs) := concs_append hos hxs
    rw [g1, g2]
    by_cases hfit : len + n ≤ cpv
    · -- there is room
      obtain ⟨hpin, hle0⟩ := hpin
      have hpe := hpin (by omega)
      obtain ⟨arr, lo', hi', harr, hsz, hfz⟩ := real_grown hw hb hL
      have hmul : (lo + len) * i.size + n * i.size ≤ L.k * i.size := by
        rw [← Nat.add_mul]; exact Nat.mul_le_mul_right _ (by omega)
      have hexp : (lo + len) * i.size = lo * i.size + len * i.size := Nat.add_mul _ _ _
      have hst := run_storeCells (P := K.P) xs 0 arr w e' lo' hi' L.b (L.o + o + len * i.size) harr (allOne_conc hxs hone) (by rw [hxl, hnl]; omega) hfz
      have hrun := append_place hK h0 h1 hs hx hd hi (p := some p) (len := len) (cp := cpv) (hlen φ _ K.P w hxc) hfit hfx (by rw [hpe]; simp only [add_eq]; exact hst)
      -- what lay there
      have hold' : (arr.toList.drop (L.o + o)).take (len * i.size) = os := by
        obtain ⟨ob, hob, hr⟩ := hw.real b _ L hb hL
        rw [harr] at hob
        injection hob with hob
        subst hob
        by_cases hl0 : len = 0
        · subst hl0
          have : os = [] := by apply List.eq_nil_of_length_eq_zero; rw [hosl, hol]; simp
          rw [this]; simp
        · have hf2 := hfo
          rw [hp, hpe] at hf2
          simp only [Builtin.firstCells] at hf2
          have hload := run_loadCells_list (P := K.P) w ⟨L.b, L.o + o, none⟩ ((arr.toList.drop (L.o + o)).take (len * i.size)) (fun j y hj => by
            rw [add_eq, cell_of harr]
            have hjl : j < len * i.size := by
              have := (List.getElem?_eq_some_iff.1 hj).1
              simp at this; omega
            rw [List.getElem?_take_of_lt hjl, List.getElem?_drop] at hj
            simpa using hj)
          have hll : ((arr.toList.drop (L.o + o)).take (len * i.size)).length = len * i.size := by
            simp; omega
          rw [hll, hf2] at hload
          injection hload with hload _
          have := congrArg Array.toList hload
          simpa using this.symm
      have hspl := take_spl arr.toList (L.o + o + len * i.size) xs (by simp; rw [hxl, hnl]; omega) (L.o + o) (by omega)
      rw [show L.o + o + len * i.size - (L.o + o) = len * i.size by omega, hold'] at hspl
      refine ⟨upd φ H.next (some ⟨L.b, L.o + o, cpv⟩), .slice (some p) (len + n) cpv, _, ?_, ?_, fun op hop next Q hq => wp_value (hexec op _ _ hop (hrun op.type)) hq⟩
      · refine goes_moved hw hb rfl hL hfn (L' := ⟨L.b, L.o + o, cpv⟩) rfl (obj := .cells (spl arr.toList (L.o + o + len * i.size + 0) xs).toArray e' (lo', hi')) ?_ rfl rfl rfl
        have hle := Phi.le_upd hfn (⟨L.b, L.o + o, cpv⟩ : Loc)
        subst hee
        refine ⟨os ++ xs, arr.toList.take (L.o + o), arr.toList.drop (L.o + o + len * i.size + xs.length), lo', hi', concs_mono hle _ hcells, by rw [Nat.add_zero, hspl], by simp; omega, ?_, fun j hj => ?_⟩
        · simp only [List.length_append, List.length_drop, Array.length_toList, hsz, hosl, hol, hxl, hnl]
          have : lo * i.size + cpv * i.size = L.k * i.size := by rw [← Nat.add_mul, hcpv]
          omega
        · refine hfz j ?_
          rw [← hspl] at hj
          rw [spl_length _ _ _ (by simp; rw [hxl, hnl]; omega)] at hj
          simpa using hj
      · simp only [conc, concSl, upd, if_pos]
        rw [if_pos (by omega), hpe]
        simp
    · -- there is none
      obtain ⟨newCap, hge, hrun⟩ := append_grow hK h0 h1 hs hx hd hi (p := some p) (len := len) (cp := cpv) (w := w) (hlen φ _ K.P w hxc) hfit hb2 hb1
        (fun w1 hw1 => by
          obtain ⟨xs', hxs', hfx'⟩ := hnew φ _ K.P w1 (hw.drawn hw1) hxc
          rw [hxs] at hxs'; cases hxs'; exact hfx')
        (fun w1 hw1 => by
          obtain ⟨os', hos', hfo'⟩ := hold φ _ K.P w1 (hw.drawn hw1) hsc
          rw [hos] at hos'; cases hos'; rw [hp] at hfo'; exact hfo') hzv hzc 0
      refine ⟨upd φ H.next (some ⟨w.heap.size, 0, newCap⟩), _, _, ?_, ?_, fun op hop next Q hq => wp_value (hexec op _ _ hop hrun) hq⟩
      · have hle := Phi.le_upd hfn (⟨w.heap.size, 0, newCap⟩ : Loc)
        have hzsl : zs.length = i.size := by rw [concs_length hzs, hzl]
        refine Goes.drop (goes_new (w' := { w with drawn := w.drawn + 1, heap := w.heap.push (.cells (os ++ (xs ++ rep zs (newCap - (len + n)))).toArray e) }) hw hfn (o := 0) (k := newCap) (obj := .cells (os ++ (xs ++ rep zs (newCap - (len + n)))).toArray e)
          (blk := .cells (old ++ new) e (i.size + 2)) ⟨os ++ xs, [], rep zs (newCap - (len + n)), 0, 0, concs_mono hle _ hcells, by simp, rfl, ?_, fun j _ => by omega⟩ rfl rfl rfl) ?_
        · simp only [List.length_append, rep_length, hzsl, hosl, hol, hxl, hnl, ← Nat.add_mul]
          congr 1; omega
        · intro d bd hdd
          simp only [upd] at hdd ⊢
          by_cases hdn : d = H.next
          · rw [if_pos hdn] at hdd ⊢; exact hdd
          · rw [if_neg hdn] at hdd ⊢
            by_cases hdb : d = b
            · rw [if_pos hdb] at hdd; cases hdd
            · rw [if_neg hdb] at hdd; exact hdd
      · simp only [conc, concSl, upd, if_pos]
        rw [if_pos (by omega)]
        simp

end GoX
