/-
  THE OPERATIONS THAT CHANGE MEMORY: all of them together. No program is named here.
-/
import Derived.Test.YtnmjhbnadfjapaaXHeavy9
import Derived.Lib.AppendZeros
namespace GoX
open Go

theorem hAppend_good {K : Tab} (hK : K.Ok) (c : Call) (hc : c.callee = .builtin .append) : CH.Good K (.call c) (hAppend K c) := fun T H k h => by
  unfold hAppend at h
  split at h
  · rename_i st xt l s x ht hargs
    have h0 := types_get ht
    have h1 := types_get1 ht
    split at h
    · rename_i e xd hs hx
      split at h
      · rename_i i z hd hi hz
        split at h
        · rename_i hzl
          have hzl := beq_eq' hzl
          obtain ⟨sv, hsv, h⟩ := ce_ok h
          obtain ⟨xv, hxv, h⟩ := ce_ok h
          have hms : s ∈ (Op.call c).operands.toList := by simp [Op.operands, Call.operands, hc, hargs]
          have hmx : x ∈ (Op.call c).operands.toList := by simp [Op.operands, Call.operands, hc, hargs]
          unfold appendGo at h
          match sv, hsv, h with
          | .sl base len cap, hsv, h =>
            simp only at h
            obtain ⟨n, hlen, h⟩ := lenK_ok h
            obtain ⟨hstr, h⟩ := cond_true_of h
            obtain ⟨new, hnl, hnew, h⟩ := srcK_ok h (by rintro ⟨s0, rfl⟩; simpa [notStr] using hstr)
            rw [forceN_eq] at h
            obtain ⟨hbs, h⟩ := cond_true_of h
            simp only [Bool.and_eq_true] at hbs
            obtain ⟨hb1, hb2⟩ := hbs
            have hb1 := ble_le hb1
            have hb2 := blt_lt hb2
            have hexec : ∀ (a : Act) (p : Option Addr) (cp : Nat), a.eval s = .slice p len cp → ∀ (op : Oper) (v' : Value) (w w' : World), op.op = .call c →
                (Builtin.append_ c.argTypes op.type #[.slice p len cp, a.eval x]).run K.P w = .ok v' w' → (execOp a.eval op).run K.P w = .ok (.value v') w' := by
              intro a p cp hp op v' w w' hop hr
              rw [exec_builtin hop hc, args_two hargs, hp]
              exact run_value' hr
            cases cap with
            | exact cp =>
              simp only at h
              cases hfit : Nat.ble (len + n) cp with
              | true =>
                rw [hfit, cond_true] at h
                have hfit' := ble_le hfit
                cases base with
                | none =>
                  refine ⟨_, H, ⟨Nat.le_refl _, fun φ a w hor hg hw hfr => ?_⟩, h⟩
                  have hsc := hor s hms _ hsv
                  have hxc := hor x hmx _ hxv
                  obtain ⟨xs, hxs, hfx⟩ := hnew φ _ K.P w hw hxc
                  have hp : a.eval s = .slice none len cp := by simpa [conc, concSl, concP] using hsc.symm
                  have hrun := append_place hK h0 h1 hs hx hd hi (p := none) (len := len) (cp := cp) (w := w) (w' := w) (hlen φ _ K.P w hxc) hfit' hfx rfl
                  exact ⟨φ, .slice none (len + n) cp, w, Goes.refl hw, rfl, fun op hop next Q hq => wp_value (hexec a _ _ hp op _ _ _ hop (hrun op.type)) hq⟩
                | some a0 =>
                  obtain ⟨b, o⟩ := a0
                  simp only [forceN_eq] at h
                  rcases putRowK_ok h with ⟨hnil, hk⟩ | h
                  · subst hnil
                    refine ⟨_, H, ⟨Nat.le_refl _, fun φ a w hor hg hw hfr => ?_⟩, hk⟩
                    have hsc := hor s hms _ hsv
                    have hxc := hor x hmx _ hxv
                    obtain ⟨xs, hxs, hfx⟩ := hnew φ _ K.P w hw hxc
                    have hx0 := concs_nil hxs
                    subst hx0
                    obtain ⟨L, hL, hp⟩ : ∃ L, φ b = some L ∧ a.eval s = .slice (some ⟨L.b, L.o + o, none⟩) len cp := by
                      simp only [conc, concSl, concP] at hsc
                      cases hφ : φ b with
                      | none => rw [hφ] at hsc; cases hsc
                      | some L => rw [hφ] at hsc; exact ⟨L, rfl, (Option.some.inj hsc).symm⟩
                    have hrun := append_place hK h0 h1 hs hx hd hi (p := some ⟨L.b, L.o + o, none⟩) (len := len) (cp := cp) (w := w) (w' := w) (xs := []) (hlen φ _ K.P w hxc) hfit' hfx rfl
                    exact ⟨φ, _, w, Goes.refl hw, by simp only [conc, concSl, concP, hL], fun op hop next Q hq => wp_value (hexec a _ _ hp op _ _ _ hop (hrun op.type)) hq⟩
                  · obtain ⟨cl, e', kd, H', hb, hk1, hone, hle, hget, hnext, hk⟩ := putCellsK_ok h
                    refine ⟨_, H', ⟨by rw [hnext]; exact Nat.le_refl _, fun φ a w hor hg hw hfr => ?_⟩, hk⟩
                    have hsc := hor s hms _ hsv
                    have hxc := hor x hmx _ hxv
                    obtain ⟨xs, hxs, hfx⟩ := hnew φ _ K.P w hw hxc
                    obtain ⟨L, hL, hp⟩ : ∃ L, φ b = some L ∧ a.eval s = .slice (some ⟨L.b, L.o + o, none⟩) len cp := by
                      simp only [conc, concSl, concP] at hsc
                      cases hφ : φ b with
                      | none => rw [hφ] at hsc; cases hsc
                      | some L => rw [hφ] at hsc; exact ⟨L, rfl, (Option.some.inj hsc).symm⟩
                    obtain ⟨w', hst, hgo⟩ := store_cells (P := K.P) H.next hw hb hk1 hL hle hxs hone
                    have hrun := append_place hK h0 h1 hs hx hd hi (p := some ⟨L.b, L.o + o, none⟩) (len := len) (cp := cp) (w := w) (w' := w') (hlen φ _ K.P w hxc) hfit' hfx
                      (by simp only [add_eq, Nat.add_assoc]; exact hst)
                    rw [hget, hnext]
                    exact ⟨φ, _, w', hgo, by simp only [conc, concSl, concP, hL], fun op hop next Q hq => wp_value (hexec a _ _ hp op _ _ _ hop (hrun op.type)) hq⟩
              | false =>
                rw [hfit, cond_false] at h
                have hfit' : ¬ len + n ≤ cp := fun e => by rw [show Nat.ble (len + n) cp = true by simpa using e] at hfit; cases hfit
                obtain ⟨old, hol, hold, h⟩ := srcK_ok h (by rintro ⟨s0, hs0⟩; cases hs0)
                rw [appK_eq] at h
                obtain ⟨H', g1, g2, hk⟩ := newBlkK_ok h
                refine ⟨_, H', ⟨by omega, fun φ a w hor hg hw hfr => ?_⟩, hk⟩
                have hsc := hor s hms _ hsv
                have hxc := hor x hmx _ hxv
                have hfn := hfr H.next (Nat.le_refl _) (by omega)
                obtain ⟨xs, hxs, hfx⟩ := hnew φ _ K.P w hw hxc
                obtain ⟨os, hos, hfo⟩ := hold φ _ K.P w hw hsc
                have hxl := concs_length hxs
                have hosl := concs_length hos
                obtain ⟨p, hp⟩ : ∃ p, a.eval s = .slice p len cp := by
                  simp only [conc, concSl] at hsc
                  cases hq : concP φ base with
                  | none => rw [hq] at hsc; cases hsc
                  | some p => rw [hq] at hsc; exact ⟨p, (Option.some.inj hsc).symm⟩
                obtain ⟨zv, zs, hzv, _, hzs, hzc⟩ := zero_fact hK hi hz φ
                have hzsl : zs.length = i.size := by rw [concs_length hzs, hzl]
                obtain ⟨newCap, hge, hrun⟩ := append_grow hK h0 h1 hs hx hd hi (p := p) (len := len) (cp := cp) (w := w) (hlen φ _ K.P w hxc) hfit' hb2 hb1
                  (fun w1 hw1 => by
                    obtain ⟨xs', hxs', hfx'⟩ := hnew φ _ K.P w1 (hw.drawn hw1) hxc
                    rw [hxs] at hxs'; cases hxs'; exact hfx')
                  (fun w1 hw1 => by
                    obtain ⟨os', hos', hfo'⟩ := hold φ _ K.P w1 (hw.drawn hw1) hsc
                    rw [hos] at hos'; cases hos'; rw [hp] at hfo'; exact hfo') hzv hzc 0
                have hcells : concs φ (old ++ new) = some (os ++ xs) := concs_append hos hxs
                have hle := Phi.le_upd hfn (⟨w.heap.size, 0, newCap⟩ : Loc)
                rw [g1, g2]
                refine ⟨upd φ H.next (some ⟨w.heap.size, 0, newCap⟩), _, _, ?_, ?_, fun op hop next Q hq => wp_value (hexec a _ _ hp op _ _ _ hop hrun) hq⟩
                · refine goes_new (w' := { w with drawn := w.drawn + 1, heap := w.heap.push (.cells (os ++ (xs ++ rep zs (newCap - (len + n)))).toArray e) }) hw hfn (o := 0) (k := newCap)
                    (obj := .cells (os ++ (xs ++ rep zs (newCap - (len + n)))).toArray e)
                    (blk := .cells (old ++ new) e (i.size + 2)) ⟨os ++ xs, [], rep zs (newCap - (len + n)), 0, 0, concs_mono hle _ hcells, by simp, rfl, ?_, fun j _ => by omega⟩ rfl rfl rfl
                  simp only [List.length_append, rep_length, hzsl, hosl, hol, hxl, hnl, ← Nat.add_mul]
                  congr 1; omega
                · simp only [conc, concSl, upd, if_pos]
                  rw [if_pos (by omega)]
                  simp
            | opened lo =>
              cases base with
              | none => cases h
              | some a0 =>
                obtain ⟨b, o⟩ := a0
                cases n with
                | zero =>
                  refine ⟨_, H, ⟨Nat.le_refl _, fun φ a w hor hg hw hfr => ?_⟩, h⟩
                  have hsc := hor s hms _ hsv
                  have hxc := hor x hmx _ hxv
                  obtain ⟨xs, hxs, hfx⟩ := hnew φ _ K.P w hw hxc
                  have hx0 : xs = [] := by apply List.eq_nil_of_length_eq_zero; rw [concs_length hxs, hnl]; simp
                  subst hx0
                  have hsc0 := hsc
                  simp only [conc, concSl] at hsc
                  cases hφ : φ b with
                  | none => rw [hφ] at hsc; cases hsc
                  | some L =>
                    rw [hφ] at hsc
                    simp only at hsc
                    split at hsc
                    · have hp := (Option.some.inj hsc).symm
                      have hrun := append_place hK h0 h1 hs hx hd hi (p := some ⟨L.b, L.o + o, none⟩) (len := len) (cp := L.k - lo) (w := w) (w' := w) (xs := []) (hlen φ _ K.P w hxc) (by omega) hfx rfl
                      exact ⟨φ, _, w, Goes.refl hw, by rw [hsc0, hp]; rfl, fun op hop next Q hq => wp_value (hexec a _ _ hp op _ _ _ hop (hrun op.type)) hq⟩
                    · cases hsc
                | succ n =>
                  exact growK_ok hK hc h0 h1 hs hx hd hi hz hzl hargs hsv hxv rfl (.inl rfl) (Nat.succ_pos n) hlen hnl hnew hb1 hb2 h
            | edge lo old =>
              cases base with
              | none => cases h
              | some a0 =>
                obtain ⟨b, o⟩ := a0
                obtain ⟨hl0, h⟩ := cond_true_of h
                have hl0 := beq_eq' hl0
                cases n with
                | zero =>
                  refine ⟨_, H, ⟨Nat.le_refl _, fun φ a w hor hg hw hfr => ?_⟩, h⟩
                  have hsc := hor s hms _ hsv
                  have hxc := hor x hmx _ hxv
                  obtain ⟨xs, hxs, hfx⟩ := hnew φ _ K.P w hw hxc
                  have hx0 : xs = [] := by apply List.eq_nil_of_length_eq_zero; rw [concs_length hxs, hnl]; simp
                  subst hx0
                  obtain ⟨p, cpv, hp⟩ := conc_sl_len hsc
                  have hrun := append_place hK h0 h1 hs hx hd hi (p := p) (len := len) (cp := cpv) (w := w) (w' := w) (xs := []) (hlen φ _ K.P w hxc) (by omega) hfx (by cases p <;> rfl)
                  exact ⟨φ, _, w, Goes.refl hw, by rw [hsc, hp]; rfl, fun op hop next Q hq => wp_value (hexec a _ _ hp op _ _ _ hop (hrun op.type)) hq⟩
                | succ n =>
                  exact growK_ok hK hc h0 h1 hs hx hd hi hz hzl hargs hsv hxv rfl (.inr ⟨old, rfl, hl0⟩) (Nat.succ_pos n) hlen hnl hnew hb1 hb2 h
        · cases h
      · cases h
    · cases h
  · cases h

/-! ### append of so many zeros to nil: how slices.Grow makes room -/
noncomputable def hAppendZ (K : Tab) (c : Call) : CH :=
  match c.argTypes.toList, c.args.toList with
  | st :: xt :: _, [s, x] => match K.und st, K.und xt with
    | some (.slice e), some (.int _) => match K.inf e, K.zero e with
      | some i, some z => match Nat.beq z.cells.length i.size && Nat.blt 0 i.size with
        | true => ⟨fun T H k => (ce K.ng s).go T fun sv => (ce K.ng x).go T fun xv => match sv, xv with
          | .sl none 0 (.exact 0), .int _ (.ofNat n) => cond (Nat.blt 0 n && (Nat.ble (n * i.bytes) 140737488355328 && Nat.blt n 140737488355328))
              (repK z.cells n [] fun cs => newBlkK H (.cells cs e (i.size + 2)) fun b H => k (.sl (some (b, 0)) n (.opened 0)) H) false
          | _, _ => false⟩
        | false => CH.none
      | _, _ => CH.none
    | _, _ => CH.none
  | _, _ => CH.none
theorem hAppendZ_good {K : Tab} (hK : K.Ok) (c : Call) (hc : c.callee = .builtin .append) (h2 : c.argTypes.toList.length = 2) : CH.Good K (.call c) (hAppendZ K c) := fun T H k h => by
  unfold hAppendZ at h
  split at h
  · rename_i st xt l s x ht hargs
    obtain rfl : l = [] := by rw [ht] at h2; simpa using h2
    have hts : c.argTypes = #[st, xt] := by apply Array.ext'; simp [ht]
    split at h
    · rename_i e kn hs hx
      split at h
      · rename_i i z hi hz
        split at h
        · rename_i hzl
          simp only [Bool.and_eq_true] at hzl
          have hzs := blt_lt hzl.2
          have hzl := beq_eq' hzl.1
          obtain ⟨sv, hsv, h⟩ := ce_ok h
          obtain ⟨xv, hxv, h⟩ := ce_ok h
          have hms : s ∈ (Op.call c).operands.toList := by simp [Op.operands, Call.operands, hc, hargs]
          have hmx : x ∈ (Op.call c).operands.toList := by simp [Op.operands, Call.operands, hc, hargs]
          match sv, xv, hsv, hxv, h with
          | .sl none 0 (.exact 0), .int kx (.ofNat n), hsv, hxv, h =>
            obtain ⟨hb, h⟩ := cond_true_of h
            simp only [Bool.and_eq_true] at hb
            obtain ⟨hb0, hb1, hb2⟩ := hb
            have hb0 := blt_lt hb0
            have hb1 := ble_le hb1
            have hb2 := blt_lt hb2
            rw [repK_eq, List.append_nil] at h
            obtain ⟨H', g1, g2, hk⟩ := newBlkK_ok h
            refine ⟨_, H', ⟨by omega, fun φ a w hor hg hw hfr => ?_⟩, hk⟩
            have hsc := hor s hms _ hsv
            have hxc := hor x hmx _ hxv
            have hfn := hfr H.next (Nat.le_refl _) (by omega)
            have hps : a.eval s = .slice none 0 0 := by simpa [conc, concSl, concP] using hsc.symm
            have hpx : a.eval x = .int kx n := by simpa [conc] using hxc.symm
            obtain ⟨zv, zs, hzv, _, hzs', hzc⟩ := zero_fact hK hi hz φ
            have hzsl : zs.length = i.size := by rw [concs_length hzs', hzl]
            have hrun := fun ty => Lib.run_append_nil_zeros (P := K.P) w st xt ty e i zv kx kn (hK.und hs) (hK.und hx) (hK.inf hi) hzv n hb0 hzs (by omega) (by omega)
            have hexec : ∀ (op : Oper) (v' : Value) (w' : World), op.op = .call c → (Builtin.append_ c.argTypes op.type #[.slice none 0 0, .int kx n]).run K.P w = .ok v' w' → (execOp a.eval op).run K.P w = .ok (.value v') w' := by
              intro op v' w' hop hr
              rw [exec_builtin hop hc, args_two hargs, hps, hpx]
              exact run_value' hr
            have hge : n ≤ grownCap w n 0 e := by unfold grownCap; simp only [Question.cut]; omega
            generalize grownCap w n 0 e = newCap at *
            have hzr : ∀ m, Builtin.zeroCells zv.cells m = (rep zs m).toArray := fun m => by
              unfold Builtin.zeroCells
              rw [hzc]
              simp only [List.size_toArray]
              exact rep_range zs _
            have hle := Phi.le_upd hfn (⟨w.heap.size, 0, newCap⟩ : Loc)
            rw [g1, g2]
            refine ⟨upd φ H.next (some ⟨w.heap.size, 0, newCap⟩), _, _, ?_, ?_, fun op hop next Q hq => wp_value (hexec op _ _ hop (by rw [hts]; exact hrun op.type)) hq⟩
            · rw [hzr, hzr]
              refine goes_new (w' := w.drew.alloc (.cells ((rep zs n).toArray ++ (rep zs (newCap - n)).toArray) e)) hw hfn (o := 0) (k := newCap)
                (obj := .cells ((rep zs n).toArray ++ (rep zs (newCap - n)).toArray) e)
                (blk := .cells (rep z.cells n) e (i.size + 2)) ⟨rep zs n, [], rep zs (newCap - n), 0, 0, concs_mono hle _ (concs_rep hzs' n), by simp, rfl, ?_, fun j _ => by omega⟩ rfl rfl rfl
              simp only [List.length_append, rep_length, hzsl, ← Nat.add_mul]
              congr 1; omega
            · simp only [conc, concSl, upd, if_pos]
              rw [if_pos (by omega)]
              simp
        · cases h
      · cases h
    · cases h
  · cases h
/-- append, of either kind. -/
noncomputable def hApp (K : Tab) (c : Call) : CH :=
  match c.argTypes.toList with
  | [_, xt] => match K.und xt with
    | some (.int _) => hAppendZ K c
    | _ => hAppend K c
  | _ => hAppend K c
theorem hApp_good {K : Tab} (hK : K.Ok) (c : Call) (hc : c.callee = .builtin .append) : CH.Good K (.call c) (hApp K c) := by
  unfold hApp
  split
  · rename_i h
    split
    · exact hAppendZ_good hK c hc (by rw [h]; rfl)
    · exact hAppend_good hK c hc
  · exact hAppend_good hK c hc

/-! ### Texts and rows of bytes -/
noncomputable def bytesK (l : List AV) : (List UInt8 → Bool) → Bool :=
  List.rec (fun k => k []) (fun v _ ih k => match v with
    | .int .u8 (.ofNat n) => ih fun s => k (UInt8.ofNat n :: s)
    | _ => false) l
theorem bytesK_ok : ∀ {l : List AV} {k : List UInt8 → Bool}, bytesK l k = true → ∃ s : List UInt8,
    (∀ (φ : Phi) (xs : List Value), concs φ l = some xs → ∀ (P : Program) (w : World) (f : Value → ByteArray → Sem (ForInStep ByteArray)),
      (∀ n s, f (.int .u8 n) s = pure (ForInStep.yield (s.push (UInt8.ofNat n.toNat)))) → ∀ acc : ByteArray,
      (forIn xs acc f : Sem ByteArray).run P w = .ok ⟨(acc.data.toList ++ s).toArray⟩ w) ∧ k s = true
  | [], k, h => ⟨[], fun φ xs hx P w f hf acc => by rw [concs_nil hx]; simp, h⟩
  | v :: l, k, h => by
    match v, h with
    | .int .u8 (.ofNat n), h =>
      obtain ⟨s, h2, h3⟩ := bytesK_ok (show bytesK l (fun s => k (UInt8.ofNat n :: s)) = true from h)
      refine ⟨UInt8.ofNat n :: s, fun φ xs hx P w f hf acc => ?_, h3⟩
      obtain ⟨y, ys, g1, g2, rfl⟩ := concs_cons hx
      obtain rfl := conc_int g1
      simp only [List.forIn_cons, hf, Sem.run_bind, Sem.run_pure, Result.andThen_ok, Int.ofNat_eq_natCast, Int.toNat_natCast]
      rw [h2 φ ys g2 P w f hf]
      simp [ByteArray.push]

noncomputable def hConvert (K : Tab) (src dst : TypeId) (x : Operand) : CH :=
  match K.und src, K.und dst with
  | some .string, some .string => ⟨fun T H k => (lConv K src dst x).go T H fun v => k v H⟩
  | some .string, some (.slice e) => match K.und e, K.inf e with
    | some (.int .u8), some i => match Nat.beq i.size 1 with
      | true => ⟨fun T H k => (ce K.ng x).go T fun v => match v with
        | .str s => forceN s.length fun n => takeU s n fun cs => newBlkK H (.cells cs e 3) fun b H => k (.sl (some (b, 0)) n (.opened 0)) H
        | _ => false⟩
      | false => CH.none
    | _, _ => CH.none
  | some (.slice e), some .string => match K.und e with
    | some (.int .u8) => ⟨fun T H k => (ce K.ng x).go T fun v => match v with
      | .sl none _ (.exact _) => k (.str []) H
      | .sl (some a) n c => srcK H 1 (.sl (some a) n c) n fun cs => bytesK cs fun s => k (.str s) H
      | _ => false⟩
    | _ => CH.none
  | _, _ => CH.none

theorem hConvert_good {K : Tab} (hK : K.Ok) (src dst : TypeId) (x : Operand) : CH.Good K (.convert src dst x) (hConvert K src dst x) := fun T H k h => by
  unfold hConvert at h
  split at h
  · obtain ⟨v, hv, hk⟩ := lConv_good hK src dst x T H _ h
    exact ⟨v, H, hv.heavy, hk⟩
  · rename_i e hs hd
    split at h
    · rename_i i he hi
      split at h
      · rename_i hsz
        obtain ⟨v, hv, h⟩ := ce_ok h
        match v, h with
        | .str s, h =>
          simp only [forceN_eq, takeU_eq, List.take_length] at h
          obtain ⟨H', g1, g2, hk⟩ := newBlkK_ok h
          refine ⟨_, H', ⟨by omega, fun φ a w hor hg hw hfr => ?_⟩, hk⟩
          have hp := conc_str (hor x (by simp [Op.operands]) _ hv)
          have hfn := hfr H.next (Nat.le_refl _) (by omega)
          rw [g1, g2]
          have hsl : (⟨s.toArray⟩ : ByteArray).size = s.length := by simp [ByteArray.size]
          have hcut : ∃ newCap w1, (choose (.appendCap s.length 0 e)).run K.P w = .ok newCap w1 ∧ s.length ≤ newCap ∧ w1.heap = w.heap ∧ w1.os = w.os ∧ w1.output = w.output := by
            refine ⟨(Question.appendCap s.length 0 e).cut (w.tape w.drawn (.appendCap s.length 0 e)), { w with drawn := w.drawn + 1 }, by simp only [run_choose, Question.forced, Bool.false_eq_true, if_false], ?_, rfl, rfl, rfl⟩
            simp only [Question.cut]; omega
          obtain ⟨newCap, w1, hch, hge, e1, e2, e3⟩ := hcut
          have harr : (Array.map (fun (b : UInt8) => Value.int .u8 b.toNat) s.toArray ++ Array.replicate (newCap - s.length) (Value.int .u8 0)) =
              ([] ++ (s.map (fun (c : UInt8) => Value.int .u8 c.toNat) ++ List.replicate (newCap - s.length) (Value.int .u8 0))).toArray := by
            apply Array.ext'; simp
          have hrow : ((([] : List Value) ++ (s.map (fun (c : UInt8) => Value.int .u8 c.toNat) ++ List.replicate (newCap - s.length) (Value.int .u8 0)))).length = newCap := by simp; omega
          generalize hl : ([] ++ (s.map (fun (c : UInt8) => Value.int .u8 c.toNat) ++ List.replicate (newCap - s.length) (Value.int .u8 0)) : List Value) = row at *
          have hfz : ({ w1 with heap := w1.heap.push (.cells row.toArray e) } : World).freeze ⟨w1.heap.size, newCap, none⟩ 1 = { w1 with heap := w1.heap.push (.cells row.toArray e (newCap, newCap + 1)) } := by
            simp only [World.freeze]
            rw [if_neg (by omega)]
            congr 1
            apply Array.ext_getElem?
            intro j
            rw [Array.getElem?_modify]
            by_cases hj : w1.heap.size = j
            · subst hj; simp
            · rw [if_neg hj]
              rcases Nat.lt_or_ge j w1.heap.size with h' | h'
              · rw [Array.getElem?_push_lt h', Array.getElem?_push_lt h']
              · rw [Array.getElem?_eq_none (by simp; omega), Array.getElem?_eq_none (by simp; omega)]
          have hle := Phi.le_upd hfn (⟨w.heap.size, 0, newCap⟩ : Loc)
          refine ⟨upd φ H.next (some ⟨w.heap.size, 0, newCap⟩), .slice (some ⟨w.heap.size, 0, none⟩) s.length newCap, { w1 with heap := w1.heap.push (.cells row.toArray e (newCap, newCap + 1)) }, ?_, ?_, fun op hop next Q hq => wp_value ?_ hq⟩
          · refine goes_new hw hfn (o := 0) (k := newCap) (obj := .cells row.toArray e (newCap, newCap + 1)) (blk := .cells (s.map u8V) e 3)
              ⟨s.map (fun (c : UInt8) => Value.int .u8 c.toNat), [], List.replicate (newCap - s.length) (Value.int .u8 0), newCap, newCap + 1, concs_u8 _ s, by rw [hl], rfl, ?_, fun j hj => ?_⟩ (by rw [e1]) e2 e3
            · rw [List.nil_append] at hl; rw [hl, hrow]; simp
            · rw [hl, hrow] at hj; omega
          · simp only [conc, concSl, upd, if_pos]
            rw [if_pos (by omega)]
            simp
          · simp only [execOp, hop]
            refine run_value' ?_
            simp only [convert, Sem.run_bind, hK.runUnd hs, hK.runUnd hd, hK.runUnd he, Result.andThen_ok, hp, Conv.stringToBytes, hsl, hch, newRow, run_newObj, Sem.run_pure, markStringish, run_shape]
            rw [harr]
            have hsh : ({ w1 with heap := w1.heap.push (.cells row.toArray e) } : World).shape? w1.heap.size = some (e, newCap) := by
              simp [World.shape?, hrow]
            simp only [e1] at hsh hfz ⊢
            simp only [hsh, run_freeze, hfz, Result.andThen_ok]
      · cases h
    · cases h
  · rename_i e hs hd
    split at h
    · rename_i he
      obtain ⟨v, hv, h⟩ := ce_ok h
      split at h
      · rename_i n q
        refine ⟨_, H, ⟨Nat.le_refl _, fun φ a w hor hg hw hfr => ?_⟩, h⟩
        have hp : a.eval x = .slice none n q := by have := hor x (by simp [Op.operands]) _ hv; simpa [conc, concSl, concP] using this.symm
        refine ⟨φ, .string ⟨#[]⟩, w, Goes.refl hw, rfl, fun op hop next Q hq => wp_value ?_ hq⟩
        simp only [execOp, hop]
        refine run_value' ?_
        simp only [convert, Sem.run_bind, hK.runUnd hs, hK.runUnd hd, hK.runUnd he, Result.andThen_ok, hp, Conv.bytesToString, Sem.run_pure]
        rfl
      · rename_i a0 n c
        obtain ⟨r, hrl, hr, h⟩ := srcK_ok h (by rintro ⟨s0, hs0⟩; cases hs0)
        obtain ⟨s, hb, hk⟩ := bytesK_ok h
        refine ⟨_, H, ⟨Nat.le_refl _, fun φ a w hor hg hw hfr => ?_⟩, hk⟩
        have hxc := hor x (by simp [Op.operands]) _ hv
        obtain ⟨xs, hxs, hfc⟩ := hr φ _ K.P w hw hxc
        obtain ⟨p, m, cap, hp⟩ := conc_sl_some hxc
        obtain ⟨p', cap', hp'⟩ := conc_sl_len hxc
        have hm : m = n := by rw [hp] at hp'; cases hp'; rfl
        subst hm
        refine ⟨φ, .string ⟨s.toArray⟩, w, Goes.refl hw, rfl, fun op hop next Q hq => wp_value ?_ hq⟩
        simp only [execOp, hop]
        refine run_value' ?_
        rw [hp] at hfc
        simp only [Builtin.firstCells, Nat.mul_one] at hfc
        simp only [convert, Sem.run_bind, hK.runUnd hs, hK.runUnd hd, hK.runUnd he, Result.andThen_ok, hp, Conv.bytesToString, hfc]
        rw [List.forIn_toArray]
        rw [hb φ xs hxs K.P w _ (fun _ _ => rfl) .empty, Result.andThen_ok, Sem.run_pure]
        rfl
      · cases h
    · cases h
  · cases h

end GoX
