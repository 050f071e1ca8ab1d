/-
  THE OPERATIONS THAT CHANGE NO MEMORY: what is built, cut, looked up. No program is named here.
-/
import Derived.Test.YtnmjhbnadfjapaaXLight3
import Derived.Laws.Tables
namespace GoX
open Go

/-! ### Rows that are written into -/
def AV.cells : AV → List AV
  | .agg l => l
  | v => [v]
theorem cells_conc {φ : Phi} {v : AV} {x : Value} (h : conc φ v = some x) : ∃ xs, concs φ v.cells = some xs ∧ x.cells = xs.toArray := by
  cases v
  case agg l => obtain ⟨xs, hx, rfl⟩ := conc_agg h; exact ⟨xs, hx, rfl⟩
  case opq v =>
    refine ⟨[x], concs_cons_mk h rfl, ?_⟩
    simp only [conc] at h
    split at h
    · rename_i ho; cases h; cases x <;> first | rfl | cases ho
    · cases h
  case ptr p =>
    refine ⟨[x], concs_cons_mk h rfl, ?_⟩
    simp only [conc] at h
    cases hp : concP φ p with
    | none => rw [hp] at h; cases h
    | some q => rw [hp] at h; cases h; rfl
  case sl p n c => obtain ⟨_, _, rfl⟩ := conc_sl_len h; exact ⟨_, concs_cons_mk h rfl, rfl⟩
  case map r =>
    refine ⟨[x], concs_cons_mk h rfl, ?_⟩
    cases r with
    | none => cases h; rfl
    | some r => obtain ⟨_, _, rfl⟩ := conc_map h; rfl
  case fn f a b => obtain ⟨_, _, _, _, rfl⟩ := conc_fn h; exact ⟨_, concs_cons_mk h rfl, rfl⟩
  case ifc t v => obtain ⟨_, _, rfl⟩ := conc_ifc h; exact ⟨_, concs_cons_mk h rfl, rfl⟩
  case tup l => obtain ⟨_, _, rfl⟩ := conc_tup h; exact ⟨_, concs_cons_mk h rfl, rfl⟩
  case yld b => obtain ⟨_, _, rfl⟩ := conc_yld h; exact ⟨_, concs_cons_mk h rfl, rfl⟩
  all_goals (cases h; exact ⟨_, concs_cons_mk rfl rfl, rfl⟩)

/-- The list with 'vs' from 'off' on. -/
def spl {α : Type} (l : List α) (off : Nat) (vs : List α) : List α := l.take off ++ vs ++ l.drop (off + vs.length)

theorem concs_take {φ : Phi} : ∀ {l : List AV} {r : List Value} (n : Nat), concs φ l = some r → concs φ (l.take n) = some (r.take n)
  | _, _, 0, _ => by simp [concs]
  | [], r, n + 1, h => by rw [concs_nil h]; rfl
  | v :: l, r, n + 1, h => by
    obtain ⟨x, y, hx, hl, rfl⟩ := concs_cons h
    exact concs_cons_mk hx (concs_take n hl)
theorem concs_drop {φ : Phi} : ∀ {l : List AV} {r : List Value} (n : Nat), concs φ l = some r → concs φ (l.drop n) = some (r.drop n)
  | _, _, 0, h => h
  | [], r, n + 1, h => by rw [concs_nil h]; rfl
  | v :: l, r, n + 1, h => by
    obtain ⟨x, y, hx, hl, rfl⟩ := concs_cons h
    exact concs_drop n hl
theorem concs_spl {φ : Phi} {l vs : List AV} {r xs : List Value} (off : Nat) (h : concs φ l = some r) (h' : concs φ vs = some xs) : concs φ (spl l off vs) = some (spl r off xs) := by
  have := concs_length h'
  simp only [spl, ← this]
  exact concs_append (concs_append (concs_take off h) h') (concs_drop _ h)

noncomputable def spliceK {β : Type} (l : List AV) : Nat → List AV → β → (List AV → β) → β :=
  List.rec (fun o vs bad k => Nat.casesOn o (List.casesOn vs (k []) fun _ _ => bad) fun _ => bad)
    (fun x _ ih o vs bad k => Nat.casesOn o (List.casesOn vs (ih 0 [] bad fun r => k (x :: r)) fun v vs => ih 0 vs bad fun r => k (v :: r)) fun o => ih o vs bad fun r => k (x :: r)) l
theorem spliceK_ok : ∀ {l : List AV} {o : Nat} {vs : List AV} {k : List AV → Bool}, spliceK l o vs false k = true → o + vs.length ≤ l.length ∧ k (spl l o vs) = true
  | [], 0, [], k, h => ⟨by simp, h⟩
  | [], 0, _ :: _, k, h => by cases h
  | [], o + 1, vs, k, h => by cases h
  | x :: l, 0, [], k, h => by
    obtain ⟨h1, h2⟩ := spliceK_ok (show spliceK l 0 [] false (fun r => k (x :: r)) = true from h)
    exact ⟨by simp, by simpa [spl] using h2⟩
  | x :: l, 0, v :: vs, k, h => by
    obtain ⟨h1, h2⟩ := spliceK_ok (show spliceK l 0 vs false (fun r => k (v :: r)) = true from h)
    exact ⟨by simp at h1 ⊢; omega, by simpa [spl] using h2⟩
  | x :: l, o + 1, vs, k, h => by
    obtain ⟨h1, h2⟩ := spliceK_ok (show spliceK l o vs false (fun r => k (x :: r)) = true from h)
    refine ⟨by simp at h1 ⊢; omega, ?_⟩
    have e : spl (x :: l) (o + 1) vs = x :: spl l o vs := by simp [spl, Nat.add_right_comm]
    rw [e]; exact h2

theorem foldl_spl (off : Nat) : ∀ (xs : List Value) (k : Nat) (arr : Array Value), off + k + xs.length ≤ arr.size →
    ((xs.zipIdx k).foldl (fun cs x => cs.setIfInBounds (off + x.2) x.1) arr).toList = spl arr.toList (off + k) xs
  | [], k, arr, h => by simp [spl]
  | x :: xs, k, arr, h => by
    simp only [List.zipIdx_cons, List.foldl_cons, List.length_cons] at h ⊢
    rw [foldl_spl off xs (k + 1) _ (by simp; omega)]
    simp only [Array.toList_setIfInBounds, spl, List.length_cons]
    have hlt : off + k < arr.toList.length := by simp; omega
    rw [show off + (k + 1) = off + k + 1 by omega, List.take_set, List.drop_set, if_pos (by omega), show off + k + 1 + xs.length = off + k + (xs.length + 1) by omega]
    have : (arr.toList.take (off + k + 1)).set (off + k) x = arr.toList.take (off + k) ++ [x] := by
      rw [List.take_succ_eq_append_getElem hlt, List.set_append_right _ _ (by simp; omega)]
      have hm : min (off + k) arr.size = off + k := by simp at hlt; omega
      simp [hm]
    rw [this]; simp

structure CFill where
  go : AT → List AV → (List AV → Bool) → Bool
/-- The parts, each at its place. -/
noncomputable def fills (ng : Nat) (place : Nat → Option (Nat × Nat)) : List (Nat × Operand) → CFill
  | [] => ⟨fun _ l k => k l⟩
  | x :: rest => match place x.1 with
    | some p => ⟨fun T l k => (ce ng x.2).go T fun v => match v with
      | .agg vs => cond (Nat.beq vs.length p.2) (spliceK l p.1 vs false fun l => (fills ng place rest).go T l k) false
      | v => cond (Nat.beq 1 p.2) (spliceK l p.1 [v] false fun l => (fills ng place rest).go T l k) false⟩
    | none => ⟨fun _ _ _ => false⟩

theorem fills_ok {ng : Nat} {place : Nat → Option (Nat × Nat)} : ∀ {ps : List (Nat × Operand)} {T : AT} {l : List AV} {k : List AV → Bool}, (fills ng place ps).go T l k = true →
    ∃ r, (∀ (φ : Phi) (a : Act) (cs : List Value), OR ng φ T a (ps.map (·.2)) → concs φ l = some cs →
      ∃ rs, concs φ r = some rs ∧ Instr.fill place cs.toArray (ps.map fun x => (x.1, a.eval x.2)) = some rs.toArray) ∧ k r = true
  | [], T, l, k, h => ⟨l, fun φ a cs _ hl => ⟨cs, hl, rfl⟩, h⟩
  | x :: ps, T, l, k, h => by
    unfold fills at h
    cases hp : place x.1 with
    | none => rw [hp] at h; cases h
    | some p =>
      rw [hp] at h
      obtain ⟨v, hv, h⟩ := ce_ok (show (ce ng x.2).go T _ = true from h)
      have key : Nat.beq v.cells.length p.2 = true ∧ spliceK l p.1 v.cells false (fun l => (fills ng place ps).go T l k) = true := by
        cases v <;> exact cond_true_of h
      obtain ⟨hsz, h⟩ := key
      obtain ⟨hle, h⟩ := spliceK_ok h
      obtain ⟨r, hr, hk⟩ := fills_ok h
      refine ⟨r, fun φ a cs hor hl => ?_, hk⟩
      have hx := hor x.2 (by simp) v hv
      obtain ⟨xs, hxs, hcells⟩ := cells_conc hx
      obtain ⟨rs, hrs, hf⟩ := hr φ a (spl cs p.1 xs) (fun y hy => hor y (by simp at hy ⊢; exact .inr hy)) (concs_spl p.1 hl hxs)
      refine ⟨rs, hrs, ?_⟩
      have hlen := concs_length hxs
      have hcs := concs_length hl
      simp only [List.map_cons, Instr.fill, hp]
      rw [hcells]
      have h1 : ¬ (xs.toArray.size ≠ p.2 || p.1 + xs.toArray.size > cs.toArray.size) = true := by
        have := beq_eq' hsz
        simp; omega
      rw [if_neg h1, ← hf]
      congr 1
      apply Array.ext'
      have e : xs.toArray.zipIdx = (xs.zipIdx).toArray := by simp
      rw [e, List.foldl_toArray]
      have := foldl_spl p.1 xs 0 cs.toArray (by simp; omega)
      simpa using this

noncomputable def placesOf (K : Tab) : List Field → Option (List (Nat × Nat))
  | [] => some []
  | f :: l => match K.inf f.type, placesOf K l with
    | some i, some r => some ((f.offset, i.size) :: r)
    | _, _ => none
theorem placesOf_ok {K : Tab} (hK : K.Ok) : ∀ {fs : List Field} {r : List (Nat × Nat)}, placesOf K fs = some r → fs.mapM (fun f => (K.P.info? f.type).map fun i => (f.offset, i.size)) = some r
  | [], r, h => by cases h; rfl
  | f :: fs, r, h => by
    simp only [placesOf] at h
    cases hi : K.inf f.type with
    | none => rw [hi] at h; cases h
    | some i =>
      cases hl : placesOf K fs with
      | none => rw [hi, hl] at h; cases h
      | some y =>
        rw [hi, hl] at h; cases h
        simp [List.mapM_cons, hK.inf hi, placesOf_ok hK hl]

noncomputable def lBuild (K : Tab) (t : TypeId) (parts : Array (Nat × Operand)) : CL :=
  match K.inf t with
  | some it => match it.zero with
    | some z => match ofV z, K.und t with
      | some (.agg zs), some (.struct fs) => match placesOf K fs.toList with
        | some pl => ⟨fun T _ k => (fills K.ng (fun i => pl[i]?) parts.toList).go T zs fun l => k (.agg l)⟩
        | none => CL.none
      | some (.agg zs), some (.array _ e) => match K.inf e with
        | some ie => ⟨fun T _ k => (fills K.ng (fun i => some (i * ie.size, ie.size)) parts.toList).go T zs fun l => k (.agg l)⟩
        | none => CL.none
      | _, _ => CL.none
    | none => CL.none
  | none => CL.none
theorem lBuild_good {K : Tab} (hK : K.Ok) (t : TypeId) (parts : Array (Nat × Operand)) : CL.Good K (.build t parts) (lBuild K t parts) := fun T H k h => by
  unfold lBuild at h
  split at h
  · rename_i it hit
    split at h
    · rename_i z hz
      split at h
      · rename_i zs fs hzs hs
        split at h
        · rename_i pl hpl
          obtain ⟨r, hr, hk⟩ := fills_ok h
          refine ⟨_, fun φ ac w hor hw => ?_, hk⟩
          have hzc := conc_ofV φ hzs
          obtain ⟨cs, hcs, rfl⟩ := conc_agg hzc
          obtain ⟨rs, hrs, hf⟩ := hr φ ac cs (fun x hx => hor x (by simpa [Op.operands] using hx)) hcs
          refine ⟨_, conc_agg_mk hrs, fun o ho => ?_⟩
          simp only [execOp, ho]
          refine run_value (run_build w t _ _ ?_)
          have hm := placesOf_ok hK hpl
          unfold Program.built
          rw [hK.inf hit, hK.und hs]
          simp only [hz, hm]
          have e : (pl.toArray[·]? : Nat → Option (Nat × Nat)) = fun i => pl[i]? := by funext i; simp
          rw [e]
          simpa [Value.cells] using hf
        · cases h
      · rename_i zs n e hzs hs
        split at h
        · rename_i ie hie
          obtain ⟨r, hr, hk⟩ := fills_ok h
          refine ⟨_, fun φ ac w hor hw => ?_, hk⟩
          have hzc := conc_ofV φ hzs
          obtain ⟨cs, hcs, rfl⟩ := conc_agg hzc
          obtain ⟨rs, hrs, hf⟩ := hr φ ac cs (fun x hx => hor x (by simpa [Op.operands] using hx)) hcs
          refine ⟨_, conc_agg_mk hrs, fun o ho => ?_⟩
          simp only [execOp, ho]
          refine run_value (run_build w t _ _ ?_)
          unfold Program.built
          rw [hK.inf hit, hK.und hs]
          simp only [hz, hK.inf hie]
          simpa [Value.cells] using hf
        · cases h
      · cases h
    · cases h
  · cases h

end GoX
