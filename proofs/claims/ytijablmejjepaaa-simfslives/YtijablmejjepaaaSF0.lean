/- A file system, plainly: names with files' numbers, what is pending, a plan. -/
import Derived.Test.YtijablmejjepaaaC0
import Derived.Maps.OwnSet
import Derived.StringKeys
import Derived.Maps.RangeWalk
import Derived.Maps.Ext
namespace Go.Proofs.Ytijablmejjepaaa
open Go.RowKit Go.Maps

/-- What was done to a directory: a name went, a name has a file. -/
structure SfA where
  gone : List UInt8
  name : List UInt8
  file : Option Nat
/-- A file system: each file is its bytes, and how many of them are synced. -/
structure SfS where
  room : Int
  dir : List (List UInt8 × Nat)
  old : List (List UInt8 × Nat)
  pend : List SfA
  left : Int
  fault : Int
  fls : List (List UInt8 × Nat)
def sfIns (x : List UInt8 × Nat) : List (List UInt8 × Nat) → List (List UInt8 × Nat)
  | [] => [x]
  | y :: r => if bytesBefore x.1 y.1 then x :: y :: r else y :: sfIns x r
def sfDel (s : List UInt8) (l : List (List UInt8 × Nat)) : List (List UInt8 × Nat) := l.filter fun p => !(p.1 == s)
def sfPut (x : List UInt8 × Nat) (l : List (List UInt8 × Nat)) : List (List UInt8 × Nat) := sfIns x (sfDel x.1 l)
def sfDo (l : List (List UInt8 × Nat)) (a : SfA) : List (List UInt8 × Nat) := match a.file with
  | none => sfDel a.gone l
  | some i => sfPut (a.name, i) (sfDel a.gone l)
def sfLook (s : List UInt8) (l : List (List UInt8 × Nat)) : Option Nat := (l.find? fun p => p.1 == s).map (·.2)
/-- A file. -/
def SfS.fl (s : SfS) (i : Nat) : List UInt8 × Nat := s.fls.getD i ([], 0)

/-! as a map's reading -/
def sfE (bl : Nat → Nat) (p : List UInt8 × Nat) : Lit × DataW Unit := (.string p.1, .lit (.int .i64 (bl p.2 : Int)))
def sfD (bl : Nat → Nat) (l : List (List UInt8 × Nat)) : DataW Unit := .map (l.map (sfE bl))
theorem sfE_ins (bl : Nat → Nat) (x : List UInt8 × Nat) : ∀ l, (sfIns x l).map (sfE bl) = DataW.insert (sfE bl x) (l.map (sfE bl))
  | [] => rfl
  | y :: r => by
    have ih := sfE_ins bl x r
    rw [sfIns, List.map_cons, DataW.insert]
    have e : (sfE bl x).1.before (sfE bl y).1 = bytesBefore x.1 y.1 := rfl
    rw [e]
    split
    · rfl
    · rw [List.map_cons, ih]
theorem sfE_del (bl : Nat → Nat) (s : List UInt8) : ∀ l, (sfDel s l).map (sfE bl) = (l.map (sfE bl)).filter (fun p => !p.1.sameKey (.string s))
  | [] => rfl
  | y :: r => by
    have ih := sfE_del bl s r
    have e : (sfE bl y).1.sameKey (.string s) = (y.1 == s) := rfl
    unfold sfDel at ih ⊢
    rw [List.map_cons, List.filter_cons, List.filter_cons, e]
    split
    · rw [List.map_cons, ih]
    · exact ih
theorem sfD_del (bl : Nat → Nat) (s : List UInt8) (l : List (List UInt8 × Nat)) : (sfD bl l).del (.string s) = sfD bl (sfDel s l) := by
  unfold sfD; rw [sfE_del]; rfl
theorem sfD_put (bl : Nat → Nat) (x : List UInt8 × Nat) (l : List (List UInt8 × Nat)) : (sfD bl l).put (.string x.1) (.lit (.int .i64 (bl x.2 : Int))) = sfD bl (sfPut x l) := by
  unfold sfD sfPut; rw [sfE_ins, sfE_del]; rfl
theorem sfE_find (bl : Nat → Nat) (s : List UInt8) : ∀ l : List (List UInt8 × Nat), (l.map (sfE bl)).find? (fun p => p.1.sameKey (.string s)) = (l.find? fun p => p.1 == s).map (sfE bl)
  | [] => rfl
  | y :: r => by
    have ih := sfE_find bl s r
    have e : (sfE bl y).1.sameKey (.string s) = (y.1 == s) := rfl
    rw [List.map_cons, List.find?_cons, List.find?_cons, e]
    split
    · rfl
    · exact ih
theorem sfD_at (bl : Nat → Nat) (s : List UInt8) (l : List (List UInt8 × Nat)) (z : DataW Unit) : (sfD bl l).atKey (.string s) z = match sfLook s l with | none => z | some i => .lit (.int .i64 (bl i : Int)) := by
  unfold sfD sfLook DataW.atKey
  simp only [sfE_find]
  cases l.find? fun p => p.1 == s <;> rfl
theorem sfD_has (bl : Nat → Nat) (s : List UInt8) (l : List (List UInt8 × Nat)) : Maps.has (sfD bl l) (.string s) = (sfLook s l).isSome := by
  unfold sfD sfLook
  rw [Maps.has_eq]
  induction l with
  | nil => rfl
  | cons y r ih =>
    have e : (sfE bl y).1.sameKey (.string s) = (y.1 == s) := rfl
    rw [List.map_cons, List.any_cons, List.find?_cons, e]
    cases h : y.1 == s with
    | true => rfl
    | false => simpa using ih
theorem sfD_size (bl : Nat → Nat) (l : List (List UInt8 × Nat)) : Maps.size (sfD bl l) = l.length := by unfold sfD; rw [Maps.size_eq, List.length_map]
theorem sfD_congr {bl bl' : Nat → Nat} {l : List (List UInt8 × Nat)} (h : ∀ p ∈ l, bl p.2 = bl' p.2) : sfD bl l = sfD bl' l := by
  unfold sfD
  congr 1
  exact List.map_congr_left fun p hp => by unfold sfE; rw [h p hp]
/-- A map's element: a file's place, or none. -/
def ptrE : Value → Option (DataW Unit × List MemPlace)
  | .pointer (some ⟨b, 0, none⟩) => some (.lit (.int .i64 (b : Int)), [])
  | .pointer none => some (.nil, [])
  | _ => none
def sfPv (bl : Nat → Nat) : Option Nat → Value
  | none => .pointer none
  | some i => .pointer (some ⟨bl i, 0, none⟩)
theorem ptrE_inv {v : Value} {y : DataW Unit × List MemPlace} (h : ptrE v = some y) : (v = .pointer none ∧ y = (.nil, [])) ∨ ∃ b : Nat, v = .pointer (some ⟨b, 0, none⟩) ∧ y = (.lit (.int .i64 (b : Int)), []) := by
  unfold ptrE at h
  split at h
  · cases h; exact .inr ⟨_, rfl, rfl⟩
  · cases h; exact .inl ⟨rfl, rfl⟩
  · cases h
theorem ptrE_pv {bl : Nat → Nat} {o : Option Nat} {v : Value} {ps : List MemPlace} (h : ptrE v = some ((match o with | none => (.nil : DataW Unit) | some i => .lit (.int .i64 (bl i : Int))), ps)) : v = sfPv bl o := by
  rcases ptrE_inv h with ⟨rfl, e⟩ | ⟨b, rfl, e⟩
  · cases o with
    | none => rfl
    | some i => simp at e
  · cases o with
    | none => simp at e
    | some i =>
      simp at e
      obtain ⟨e, _⟩ := e
      have : bl i = b := by omega
      show _ = Value.pointer (some ⟨bl i, 0, none⟩)
      rw [this]
theorem keyedS : Keyed Try.prog 9 := string_keyed Try.underlying9
theorem keyS (s : List UInt8) (h : s.length ≤ maxLen) : keyOf Try.prog 9 (.string ⟨s.toArray⟩) = some (.string s) := by
  have := WideMaps.keyOf_string_mk (P := Try.prog) Try.underlying9 (s := ⟨s.toArray⟩) (by simpa [ByteArray.size] using h)
  simpa using this
theorem zeroPtr (w : World) : (zeroValue 66).run Try.prog w = .ok (.pointer none) w := by kernel_rfl
/-- A directory in memory. -/
def SfMap (w : World) (m : Nat) (bl : Nat → Nat) (l : List (List UInt8 × Nat)) : Prop := w.ownsMap Try.prog 9 ptrE m l.length (sfD bl l)
theorem SfMap.of {w : World} {m n : Nat} {bl : Nat → Nat} {l : List (List UInt8 × Nat)} {D : DataW Unit} (h : w.ownsMap Try.prog 9 ptrE m n D) (hD : D = sfD bl l) : SfMap w m bl l := by
  subst hD
  obtain ⟨es, clock, h1, h2, h3, h4⟩ := h
  refine ⟨es, clock, h1, h2, ?_, h4⟩
  have := sfD_size bl l
  rw [h4, Maps.size_eq, length_read] at this
  omega
theorem SfMap.keep {w w' : World} {m : Nat} {bl : Nat → Nat} {l : List (List UInt8 × Nat)} (h : SfMap w m bl l) (hk : w'.heap[m]? = w.heap[m]?) : SfMap w' m bl l := by
  obtain ⟨es, clock, h1, r⟩ := h
  exact ⟨es, clock, hk.trans h1, r⟩
theorem SfMap.isMap {w : World} {m : Nat} {bl : Nat → Nat} {l : List (List UInt8 × Nat)} (h : SfMap w m bl l) : ∃ es clock, w.heap[m]? = some (.map es clock) := by
  obtain ⟨es, clock, h1, _⟩ := h
  exact ⟨es, clock, h1⟩
theorem SfMap.congr {w : World} {m : Nat} {bl bl' : Nat → Nat} {l : List (List UInt8 × Nat)} (h : SfMap w m bl l) (hb : ∀ p ∈ l, bl p.2 = bl' p.2) : SfMap w m bl' l := by
  unfold SfMap at h ⊢; rw [← sfD_congr hb]; exact h
theorem SfMap.look {w : World} {m : Nat} {bl : Nat → Nat} {l : List (List UInt8 × Nat)} (h : SfMap w m bl l) (s : List UInt8) (hs : s.length ≤ maxLen) :
    (Instr.lookup 40 (.map (some m)) (.string ⟨s.toArray⟩) false).run Try.prog w = .ok (sfPv bl (sfLook s l)) w := by
  obtain ⟨v, ps, hr, hv⟩ := World.ownsMap.lookup h keyedS Try.underlying40 (zeroPtr w) (zd := .nil) (zp := []) rfl (keyS s hs)
  rw [sfD_at] at hv
  rw [hr, ptrE_pv hv]
theorem SfMap.put {w : World} {m : Nat} {bl : Nat → Nat} {l : List (List UInt8 × Nat)} (h : SfMap w m bl l) (s : List UInt8) (hs : s.length ≤ maxLen) (i : Nat) (hn : l.length < maxLen) :
    ∃ w', (Instr.mapUpdate 40 (.map (some m)) (.string ⟨s.toArray⟩) (.pointer (some ⟨bl i, 0, none⟩))).run Try.prog w = .ok () w' ∧ SfMap w' m bl (sfPut (s, i) l) ∧ w.mapTurned w' m := by
  obtain ⟨w', h1, h2, h3⟩ := World.ownsMap.store h keyedS Try.underlying40 hn (keyS s hs) (val := .pointer (some ⟨bl i, 0, none⟩)) (d := .lit (.int .i64 (bl i : Int))) (ps := []) rfl
  exact ⟨w', h1, .of h2 (sfD_put bl (s, i) l), h3⟩
theorem SfMap.del {w : World} {m : Nat} {bl : Nat → Nat} {l : List (List UInt8 × Nat)} (h : SfMap w m bl l) (s : List UInt8) (hs : s.length ≤ maxLen) (ty : TypeId) :
    ∃ w', (Builtin.delete_ #[40, 9] ty #[.map (some m), .string ⟨s.toArray⟩]).run Try.prog w = .ok (.tuple #[]) w' ∧ SfMap w' m bl (sfDel s l) ∧ w.mapTurned w' m := by
  obtain ⟨w', h1, h2, h3⟩ := World.ownsMap.drop h keyedS Try.underlying40 (keyS s hs) ty
  exact ⟨w', h1, .of h2 (sfD_del bl s l), h3⟩
theorem SfMap.len {w : World} {m : Nat} {bl : Nat → Nat} {l : List (List UInt8 × Nat)} (h : SfMap w m bl l) (ty : TypeId) : (Builtin.len_ #[40] ty #[.map (some m)]).run Try.prog w = .ok (.int .i64 (l.length : Int)) w := by
  have := World.ownsMap.len h Try.underlying40 ty
  rw [sfD_size] at this
  exact this
theorem SfMap.clear {w : World} {m : Nat} {bl : Nat → Nat} {l : List (List UInt8 × Nat)} (h : SfMap w m bl l) (ty : TypeId) :
    ∃ w', (Builtin.clear_ #[40] ty #[.map (some m)]).run Try.prog w = .ok (.tuple #[]) w' ∧ SfMap w' m bl [] ∧ w.mapTurned w' m := by
  obtain ⟨es, clock, hb, F, hs, hD⟩ := h
  refine ⟨ChangeMaps.setBlock w m (.map #[] clock), ?_, ⟨#[], clock, ChangeMaps.heap_setBlock_same hb _, ⟨by simp, MapKept.stamped_empty clock, by simp⟩, Nat.le_refl _, rfl⟩, ⟨es, clock, _, _, hb, rfl⟩⟩
  simp [Builtin.clear_, run_underlying Try.underlying40, MapKept.run_getObj_map hb, MapKept.run_setObj_map _ hb, Result.andThen, ChangeMaps.setBlock]
end Go.Proofs.Ytijablmejjepaaa
