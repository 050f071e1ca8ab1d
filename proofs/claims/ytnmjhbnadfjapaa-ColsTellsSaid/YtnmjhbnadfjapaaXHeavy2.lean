/-
  THE OPERATIONS THAT CHANGE MEMORY: slices that are made. No program is named here.
-/
import Derived.Test.YtnmjhbnadfjapaaXHeavy1
namespace GoX
open Go

def rep {α : Type} (z : List α) : Nat → List α
  | 0 => []
  | n + 1 => z ++ rep z n
theorem rep_length {α : Type} (z : List α) : ∀ n, (rep z n).length = n * z.length
  | 0 => by simp [rep]
  | n + 1 => by simp [rep, rep_length z n, Nat.add_mul, Nat.add_comm]
theorem concs_rep {φ : Phi} {z : List AV} {xs : List Value} (h : concs φ z = some xs) : ∀ n, concs φ (rep z n) = some (rep xs n)
  | 0 => rfl
  | n + 1 => concs_append h (concs_rep h n)
theorem rep_get {α : Type} (z : List α) : ∀ (n i : Nat), i < n * z.length → (rep z n)[i]? = z[i % z.length]?
  | 0, i, h => by simp at h
  | n + 1, i, h => by
    simp only [rep]
    by_cases hi : i < z.length
    · rw [List.getElem?_append_left hi, Nat.mod_eq_of_lt hi]
    · have hge : z.length ≤ i := Nat.le_of_not_lt hi
      rw [List.getElem?_append_right hge, rep_get z n (i - z.length) (by rw [Nat.add_mul] at h; omega)]
      congr 1
      rw [← Nat.mod_eq_sub_mod hge]
theorem rep_range (zs : List Value) (n : Nat) : (Array.range (n * zs.length)).map (fun i => zs.toArray[i % zs.toArray.size]!) = (rep zs n).toArray := by
  apply Array.ext'
  apply List.ext_getElem?
  intro i
  simp only [Array.toList_map, Array.toList_range, List.getElem?_map, List.size_toArray]
  by_cases hi : i < n * zs.length
  · rw [List.getElem?_range hi, rep_get zs n i hi]
    have hpos : 0 < zs.length := by
      rcases Nat.eq_zero_or_pos zs.length with h0 | h0
      · rw [h0] at hi; simp at hi
      · exact h0
    have hm : i % zs.length < zs.length := Nat.mod_lt _ hpos
    simp [hm]
  · rw [List.getElem?_eq_none (by simp; omega), List.getElem?_eq_none (by rw [rep_length]; omega)]
    rfl

noncomputable def appK {β : Type} (z : List AV) (acc : List AV) : (List AV → β) → β := List.rec (fun k => k acc) (fun x _ ih k => ih fun r => k (x :: r)) z
theorem appK_eq {β : Type} (acc : List AV) : ∀ (z : List AV) (k : List AV → β), appK z acc k = k (z ++ acc)
  | [], k => rfl
  | x :: z, k => by
    show appK z acc (fun r => k (x :: r)) = _
    rw [appK_eq acc z]; rfl
noncomputable def repK {β : Type} (z : List AV) (n : Nat) : List AV → (List AV → β) → β := Nat.rec (fun acc k => k acc) (fun _ ih acc k => appK z acc fun acc => ih acc k) n
theorem rep_comm {α : Type} (z : List α) : ∀ n, z ++ rep z n = rep z n ++ z
  | 0 => by simp [rep]
  | n + 1 => by simp only [rep, List.append_assoc]; rw [← rep_comm z n]
theorem repK_eq {β : Type} (z : List AV) : ∀ (n : Nat) (acc : List AV) (k : List AV → β), repK z n acc k = k (rep z n ++ acc)
  | 0, acc, k => rfl
  | n + 1, acc, k => by
    show appK z acc (fun acc => repK z n acc k) = _
    rw [appK_eq, repK_eq z n]
    congr 1
    simp only [rep]
    rw [rep_comm, List.append_assoc]

theorem zero_fact {K : Tab} (_hK : K.Ok) {e : TypeId} {i : TypeInfo} {z : AV} (hi : K.inf e = some i) (hz : K.zero e = some z) (φ : Phi) :
    ∃ v xs, i.zero = some v ∧ conc φ z = some v ∧ concs φ z.cells = some xs ∧ v.cells = xs.toArray := by
  unfold Tab.zero at hz
  rw [hi] at hz
  simp only at hz
  cases hv : i.zero with
  | none => rw [hv] at hz; cases hz
  | some v =>
    rw [hv] at hz
    obtain ⟨xs, h1, h2⟩ := cells_conc (conc_ofV φ hz)
    exact ⟨v, xs, rfl, conc_ofV φ hz, h1, h2⟩

noncomputable def aBuildSlice (K : Tab) (t : TypeId) (len : Nat) (parts : Array (Nat × Operand)) : CA :=
  match K.und t with
  | some (.slice e) => match K.inf e, K.zero e with
    | some i, some z => match Nat.beq z.cells.length i.size && Nat.ble (len * i.size) 16777216 with
      | true => ⟨fun T n k => (fills K.ng (fun j => some (j * i.size, i.size)) parts.toList).go T (rep z.cells len) fun l => k (.sl (some (n, 0)) len (.exact len)) (.cells l e 0)⟩
      | false => CA.none
    | _, _ => CA.none
  | _ => CA.none
theorem aBuildSlice_good {K : Tab} (hK : K.Ok) (t : TypeId) (len : Nat) (parts : Array (Nat × Operand)) : CA.Good K (.buildSlice t len parts) (aBuildSlice K t len parts) := fun T n k h => by
  unfold aBuildSlice at h
  split at h
  · rename_i e hs
    split at h
    · rename_i i z hi hz
      split at h
      · rename_i hc
        simp only [Bool.and_eq_true] at hc
        obtain ⟨hlen, hsm⟩ := hc
        have hlen := beq_eq' hlen
        have hsm := ble_le hsm
        obtain ⟨l, hl, hk⟩ := fills_ok h
        refine ⟨_, _, fun φ a w hor hn => ?_, hk⟩
        have hle := Phi.le_upd hn (⟨w.heap.size, 0, 0⟩ : Loc)
        obtain ⟨zv, xs, hzv, _, hxs, hcells⟩ := zero_fact hK hi hz (upd φ n (some ⟨w.heap.size, 0, 0⟩))
        have hxl : xs.length = i.size := by rw [concs_length hxs, hlen]
        obtain ⟨rs, hrs, hf⟩ := hl (upd φ n (some ⟨w.heap.size, 0, 0⟩)) a (rep xs len) (fun x hx v hv => conc_mono hle _ (hor x (by simpa [Op.operands] using hx) v hv)) (concs_rep hxs len)
        refine ⟨.cells rs.toArray e, .slice (some ⟨w.heap.size, 0, none⟩) len len, by simp [conc, concSl, concP, upd], ⟨rs, hrs, rfl, rfl⟩, fun o ho => ?_⟩
        simp only [execOp, ho]
        have hfill : Instr.fill (fun j => some (j * i.size, i.size)) ((Array.range (len * i.size)).map ((if len * i.size = 0 then #[] else zv.cells)[· % (if len * i.size = 0 then #[] else zv.cells).size]!)) (parts.map fun (x : Nat × Operand) => (x.1, a.eval x.2)).toList = some rs.toArray := by
          rw [Array.toList_map, ← hf]
          congr 1
          by_cases h0 : len * i.size = 0
          · rw [h0]
            have : rep xs len = [] := by apply List.eq_nil_of_length_eq_zero; rw [rep_length, hxl, h0]
            rw [this]; simp
          · rw [if_neg h0, hcells, ← hxl]; exact rep_range xs len
        have hbig : ¬ len * i.size > 2 ^ 24 := by omega
        simp only [Instr.buildSlice, Sem.run_bind, hK.runUnd hs, runSize hK hi, Result.andThen_ok, Sem.run_ite]
        rw [if_neg hbig]
        simp only [Sem.run_pure, Result.andThen_ok]
        by_cases h0 : len * i.size = 0
        · simp only [h0, if_true] at hfill ⊢
          rw [hfill]
          simp [newRow]
        · have hzr : (zeroValue e).run K.P w = .ok zv w := by simp [zeroValue, hK.runInf hi, hzv]
          simp only [h0, if_false, Result.andThen_ok, hzr] at hfill ⊢
          rw [hfill]
          simp [newRow]
      · cases h
    · cases h
  · cases h

noncomputable def aMakeSlice (K : Tab) (t : TypeId) (l c : Operand) : CA :=
  match K.und t with
  | some (.slice e) => match K.inf e, K.zero e with
    | some i, some z => match Nat.beq z.cells.length i.size with
      | true => ⟨fun T n k => (ce K.ng l).go T fun lv => (ce K.ng c).go T fun cv => match lv, cv with
        | .int _ (.ofNat l), .int _ (.ofNat c) => cond (Nat.ble l c && Nat.ble (i.bytes * c) 1099511627776 && Nat.ble c 1099511627776)
            (repK z.cells c [] fun cs => k (.sl (some (n, 0)) l (.exact c)) (.cells cs e 0)) false
        | _, _ => false⟩
      | false => CA.none
    | _, _ => CA.none
  | _ => CA.none
theorem aMakeSlice_good {K : Tab} (hK : K.Ok) (t : TypeId) (l c : Operand) : CA.Good K (.makeSlice t l c) (aMakeSlice K t l c) := fun T n k h => by
  unfold aMakeSlice at h
  split at h
  · rename_i e hs
    split at h
    · rename_i i z hi hz
      split at h
      · rename_i hlen
        have hlen := beq_eq' hlen
        obtain ⟨lv, hlv, h⟩ := ce_ok h
        obtain ⟨cv, hcv, h⟩ := ce_ok h
        match lv, cv, h with
        | .int k1 (.ofNat ln), .int k2 (.ofNat cn), h =>
          obtain ⟨hc, h⟩ := cond_true_of h
          rw [repK_eq, List.append_nil] at h
          simp only [Bool.and_eq_true] at hc
          obtain ⟨⟨h1, h2⟩, h3⟩ := hc
          have h1 := ble_le h1
          have h2 := ble_le h2
          have h3 := ble_le h3
          refine ⟨_, _, fun φ a w hor hn => ?_, h⟩
          obtain ⟨zv, xs, hzv, _, hxs, hcells⟩ := zero_fact hK hi hz (upd φ n (some ⟨w.heap.size, 0, 0⟩))
          have hxl : xs.length = i.size := by rw [concs_length hxs, hlen]
          refine ⟨.cells (rep xs cn).toArray e, .slice (some ⟨w.heap.size, 0, none⟩) ln cn, by simp [conc, concSl, concP, upd], ⟨_, concs_rep hxs cn, rfl, rfl⟩, fun o ho => ?_⟩
          have hpl := conc_int (hor l (by simp [Op.operands]) _ hlv)
          have hpc := conc_int (hor c (by simp [Op.operands]) _ hcv)
          have hwl : IntKind.i64.wrap (Int.ofNat ln) = (ln : Int) := IntWalk.i64_in _ (by simp only [Int.ofNat_eq_natCast]; omega)
          have hwc : IntKind.i64.wrap (Int.ofNat cn) = (cn : Int) := IntWalk.i64_in _ (by simp only [Int.ofNat_eq_natCast]; omega)
          simp only [execOp, ho]
          have hlarge : (decide ((cn : Int) < 0) || decide ((i.bytes : Int) * (cn : Int) > 2 ^ 48)) = false := by
            have : ((i.bytes * cn : Nat) : Int) ≤ 1099511627776 := Int.ofNat_le.2 h2
            rw [Int.natCast_mul] at this
            simp only [Bool.or_eq_false_iff, decide_eq_false_iff_not]
            constructor
            · omega
            · have e48 : (2 : Int) ^ 48 = 281474976710656 := by decide
              rw [e48]; omega
          have hnot : ¬ (((decide ((cn : Int) < 0) || decide ((i.bytes : Int) * (cn : Int) > 2 ^ 48)) || decide ((ln : Int) < 0) || decide ((ln : Int) > (cn : Int))) = true) := by
            rw [hlarge]; simp; omega
          have hzr : (zeroValue e).run K.P w = .ok zv w := by simp [zeroValue, hK.runInf hi, hzv]
          have hrow : (Array.range (cn * i.size)).map ((if cn * i.size = 0 then #[] else zv.cells)[· % (if cn * i.size = 0 then #[] else zv.cells).size]!) = (rep xs cn).toArray := by
            by_cases h0 : cn * i.size = 0
            · rw [h0]
              have : rep xs cn = [] := by apply List.eq_nil_of_length_eq_zero; rw [rep_length, hxl, h0]
              rw [this]; simp
            · rw [if_neg h0, hcells, ← hxl]; exact rep_range xs cn
          refine Eq.trans ?_ (show Result.ok (Next.value (.slice (some ⟨w.heap.size, 0, none⟩) ln cn)) { w with heap := w.heap.push (.cells (rep xs cn).toArray e) } = _ from rfl)
          simp only [Instr.makeSlice, Sem.run_bind, hK.runUnd hs, hK.runInf hi, runSize hK hi, Result.andThen_ok, hpl, hpc, asInt, asIntOf, Sem.run_pure, hwl, hwc, Sem.run_ite]
          rw [if_neg hnot]
          simp only [Result.andThen_ok, run_askRoom, Int.toNat_natCast]
          by_cases h0 : cn * i.size = 0
          · simp only [h0, if_true] at hrow ⊢
            rw [hrow]
            simp [newRow]
          · simp only [h0, if_false, Result.andThen_ok, hzr] at hrow ⊢
            rw [hrow]
            simp [newRow]
      · cases h
    · cases h
  · cases h

noncomputable def ca (K : Tab) (op : Op) : CA :=
  match op with
  | .alloc e => aAlloc K e
  | .box e x => aBox K e x
  | .buildSlice t len parts => aBuildSlice K t len parts
  | .makeMap t r => aMakeMap K t r
  | .makeSlice t l c => aMakeSlice K t l c
  | _ => CA.none
theorem ca_good {K : Tab} (hK : K.Ok) (op : Op) : CA.Good K op (ca K op) := by
  cases op <;> simp only [ca]
  case alloc e => exact aAlloc_good hK e
  case box e x => exact aBox_good e x
  case buildSlice t len parts => exact aBuildSlice_good hK t len parts
  case makeMap t r => exact aMakeMap_good hK t r
  case makeSlice t l c => exact aMakeSlice_good hK t l c
  all_goals exact CA.none_good K _

end GoX
