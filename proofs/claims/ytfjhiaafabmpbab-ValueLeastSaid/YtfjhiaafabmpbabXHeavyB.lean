/-
  ALL OPERATIONS BUT CALLS, together. No program is named here.
-/
import Derived.Test.YtfjhiaafabmpbabXHeavyA
namespace GoX
open Go

/-- An operation that changes no memory, as one that may. -/
noncomputable def CL.heavy (c : CL) : CH := ⟨fun T H k => c.go T H fun v => k v H⟩
theorem CL.heavy_good {K : Tab} {op : Op} {c : CL} (h : CL.Good K op c) : CH.Good K op c.heavy := fun T H k hk => by
  obtain ⟨v, hv, h'⟩ := h T H _ hk
  exact ⟨v, H, hv.heavy, h'⟩

/-- One that lays a block. -/
noncomputable def CA.heavy (c : CA) : CH := ⟨fun T H k => c.go T H.next fun v blk => forceN (H.next + 1) fun n => Trie.putK (bits H.next) H.t (some blk) fun t => k v ⟨n, t⟩⟩
theorem CA.heavy_good {K : Tab} {op : Op} {c : CA} (h : CA.Good K op c) : CH.Good K op c.heavy := fun T H k hk => by
  obtain ⟨v, blk, hv, h'⟩ := h T H.next _ hk
  rw [forceN_eq, Trie.putK_eq] at h'
  exact ⟨v, _, hv.heavy, h'⟩

/-- Any operation but a call of a function: 'det' forbids several outcomes. -/
noncomputable def ch (K : Tab) (det : Bool) (op : Op) : CH :=
  match op with
  | .alloc _ | .box .. | .buildSlice .. | .makeMap .. | .makeSlice .. => (ca K op).heavy
  | .store t x y => hStore K t x y
  | .mapUpdate t m k x => hMapPut K t m k x
  | .insert t m k x => hMapPut K t m k x
  | .mapEntry t m k => hMapEntry K t m k
  | .entryStore _ m s x => hEntryStore K m s x
  | .range t x => hRange K t x
  | .next it str => match str with
    | true => hNextS K it
    | false => hNextM K det it
  | .entry it => hEntry K it
  | .convert src dst x => match K.und dst with
    | some (.int _) => (cl K op).heavy
    | _ => hConvert K src dst x
  | .call c => match c.callee with
    | .builtin .delete => hDelete K c
    | .builtin .copy => hCopy K c
    | .builtin .append => hApp K c
    | .builtin _ => (cl K op).heavy
    | _ => CH.none
  | _ => (cl K op).heavy

theorem ch_all {K : Tab} (hK : K.Ok) (det : Bool) (op : Op) : CH.All K det op (ch K det op) := by
  have hA := (CA.heavy_good (ca_good hK op)).all det
  have hL := (CL.heavy_good (cl_good hK op)).all det
  cases op <;> simp only [ch] <;> try first | exact hA | exact hL
  case store t x y => exact (hStore_good hK t x y).all det
  case mapUpdate t m k x => exact (hMapUpdate_good hK t m k x).all det
  case insert t m k x => exact (hInsert_good hK t m k x).all det
  case mapEntry t m k => exact (hMapEntry_good hK t m k).all det
  case entryStore t m s x => exact (hEntryStore_good t m s x).all det
  case range t x => exact (hRange_good hK t x).all det
  case entry it => exact (hEntry_good it).all det
  case next it str =>
    cases str with
    | true => exact (hNextS_good it).all det
    | false => exact hNextM_all det it
  case convert src dst x =>
    split
    · exact hL
    · exact (hConvert_good hK src dst x).all det
  case call c =>
    split
    · rename_i hc; exact (hDelete_good hK c hc).all det
    · rename_i hc; exact (hCopy_good hK c hc).all det
    · rename_i hc; exact (hApp_good hK c hc).all det
    · exact hL
    · exact (CH.none_good K _).all det

end GoX
