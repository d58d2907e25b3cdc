/- WIt SF0 GAp RT, joined. -/
import Derived.Test.YtahigmjpeicemaaDoorNG1
import Derived.Shelf.LaysM
import Derived.Shelf.Strconv.Itoa3
import Derived.Test.YtahigmjpeicemaaDoorRows
import Derived.Maps.OwnSet
import Derived.StringKeys
import Derived.Maps.RangeWalk
import Derived.Maps.Ext
import Derived.Laws.AppendOwn
import Derived.Laws.AppendOwnNone
/- strconv at this program (written by mkwit.py, for one seat). -/
namespace Go.Proofs.YtahigmjpeicemaaDoor
open Go.Shelf Go.Sort Go.RowKit Go.Lib

def witM_ren : Go.Shelf.Ren := ⟨fun | 171 => 50 | 243 => 72 | 246 => 84 | 283 => 90 | 284 => 91 | 285 => 92 | 286 => 93 | 129 => 104 | 317 => 105 | 318 => 106 | 319 => 107 | 320 => 108 | 337 => 115 | 338 => 116 | n => n, fun | 3 => 3 | 9 => 9 | 2 => 2 | 4 => 4 | 171 => 138 | 0 => 0 | 53 => 63 | 37 => 28 | 5 => 5 | 173 => 141 | 212 => 155 | 51 => 119 | 20 => 20 | 213 => 156 | 46 => 137 | 232 => 166 | 233 => 167 | n => n, fun | 17 => 0 | 18 => 1 | 19 => 2 | n => n⟩
theorem witM : Go.Proofs.LaysM.n171 Tryd.prog witM_ren := {
  mixed := by kernel_rfl
  f129 := Tryd.func104.trans (congrArg some (by kernel_rfl))
  f171 := Tryd.func50.trans (congrArg some (by kernel_rfl))
  f243 := Tryd.func72.trans (congrArg some (by kernel_rfl))
  f246 := Tryd.func84.trans (congrArg some (by kernel_rfl))
  f283 := Tryd.func90.trans (congrArg some (by kernel_rfl))
  f284 := Tryd.func91.trans (congrArg some (by kernel_rfl))
  f285 := Tryd.func92.trans (congrArg some (by kernel_rfl))
  f286 := Tryd.func93.trans (congrArg some (by kernel_rfl))
  f317 := Tryd.func105.trans (congrArg some (by kernel_rfl))
  f318 := Tryd.func106.trans (congrArg some (by kernel_rfl))
  f319 := Tryd.func107.trans (congrArg some (by kernel_rfl))
  f320 := Tryd.func108.trans (congrArg some (by kernel_rfl))
  f337 := Tryd.func115.trans (congrArg some (by kernel_rfl))
  f338 := Tryd.func116.trans (congrArg some (by kernel_rfl))
  t0 := Tryd.underlying0
  a0 := Tryd.isAgg0
  z0 := Tryd.sizeOf0
  v0 := Tryd.zeroValue0
  t2 := Tryd.underlying2
  a2 := Tryd.isAgg2
  z2 := Tryd.sizeOf2
  v2 := Tryd.zeroValue2
  t3 := Tryd.underlying3
  a3 := Tryd.isAgg3
  z3 := Tryd.sizeOf3
  v3 := Tryd.zeroValue3
  t4 := Tryd.underlying4
  a4 := Tryd.isAgg4
  z4 := Tryd.sizeOf4
  v4 := Tryd.zeroValue4
  t5 := Tryd.underlying5
  a5 := Tryd.isAgg5
  z5 := Tryd.sizeOf5
  v5 := Tryd.zeroValue5
  t9 := Tryd.underlying9
  a9 := Tryd.isAgg9
  z9 := Tryd.sizeOf9
  v9 := Tryd.zeroValue9
  t20 := Tryd.underlying20
  a20 := Tryd.isAgg20
  z20 := Tryd.sizeOf20
  v20 := Tryd.zeroValue20
  t37 := Tryd.underlying28
  a37 := Tryd.isAgg28
  z37 := Tryd.sizeOf28
  v37 := Tryd.zeroValue28
  t46 := Tryd.underlying137
  a46 := Tryd.isAgg137
  z46 := Tryd.sizeOf137
  v46 := Tryd.zeroValue137
  t51 := Tryd.underlying119
  a51 := Tryd.isAgg119
  z51 := Tryd.sizeOf119
  v51 := Tryd.zeroValue119
  t53 := Tryd.underlying63
  a53 := Tryd.isAgg63
  z53 := Tryd.sizeOf63
  v53 := Tryd.zeroValue63
  t171 := Tryd.underlying138
  a171 := Tryd.isAgg138
  z171 := Tryd.sizeOf138
  v171 := Tryd.zeroValue138
  t173 := Tryd.underlying141
  a173 := Tryd.isAgg141
  z173 := Tryd.sizeOf141
  v173 := Tryd.zeroValue141
  t212 := Tryd.underlying155
  a212 := Tryd.isAgg155
  z212 := Tryd.sizeOf155
  v212 := Tryd.zeroValue155
  t213 := Tryd.underlying156
  a213 := Tryd.isAgg156
  z213 := Tryd.sizeOf156
  t232 := Tryd.underlying166
  a232 := Tryd.isAgg166
  z232 := Tryd.sizeOf166
  v232 := Tryd.zeroValue166
  t233 := Tryd.underlying167
  a233 := Tryd.isAgg167
  z233 := Tryd.sizeOf167
  v233 := Tryd.zeroValue167
  g17 := by kernel_rfl
  g18 := by kernel_rfl
  g19 := by kernel_rfl
  i0 := by kernel_rfl
  i2 := by kernel_rfl
  i3 := by kernel_rfl
  i4 := by kernel_rfl
  i5 := by kernel_rfl
  i9 := by kernel_rfl
  i20 := by kernel_rfl
  i37 := by kernel_rfl
  i46 := by kernel_rfl
  i51 := by kernel_rfl
  i53 := by kernel_rfl
  i171 := by kernel_rfl
  i173 := by kernel_rfl
  i212 := by kernel_rfl
  i232 := by kernel_rfl
  i233 := by kernel_rfl
  m17 := by kernel_rfl
  m18 := by kernel_rfl
  m19 := by kernel_rfl }
def witS_ren : Go.Shelf.Ren := ⟨fun | 171 => 50 | 243 => 72 | 246 => 84 | 283 => 90 | 284 => 91 | 285 => 92 | 286 => 93 | 129 => 104 | 317 => 105 | 318 => 106 | 319 => 107 | 320 => 108 | 337 => 115 | 338 => 116 | n => n, fun | 3 => 3 | 9 => 9 | 2 => 2 | 4 => 4 | 171 => 138 | 0 => 0 | 53 => 63 | 37 => 28 | 5 => 5 | 173 => 141 | 212 => 155 | 51 => 119 | 20 => 20 | 213 => 156 | 46 => 137 | 232 => 166 | 233 => 167 | n => n, fun | 17 => 0 | 18 => 1 | 19 => 2 | n => n⟩
theorem witS : Go.Proofs.Lays.n171 Tryd.prog witS_ren := {
  mixed := by kernel_rfl
  f129 := Tryd.func104.trans (congrArg some (by kernel_rfl))
  f171 := Tryd.func50.trans (congrArg some (by kernel_rfl))
  f243 := Tryd.func72.trans (congrArg some (by kernel_rfl))
  f246 := Tryd.func84.trans (congrArg some (by kernel_rfl))
  f283 := Tryd.func90.trans (congrArg some (by kernel_rfl))
  f284 := Tryd.func91.trans (congrArg some (by kernel_rfl))
  f285 := Tryd.func92.trans (congrArg some (by kernel_rfl))
  f286 := Tryd.func93.trans (congrArg some (by kernel_rfl))
  f317 := Tryd.func105.trans (congrArg some (by kernel_rfl))
  f318 := Tryd.func106.trans (congrArg some (by kernel_rfl))
  f319 := Tryd.func107.trans (congrArg some (by kernel_rfl))
  f320 := Tryd.func108.trans (congrArg some (by kernel_rfl))
  f337 := Tryd.func115.trans (congrArg some (by kernel_rfl))
  f338 := Tryd.func116.trans (congrArg some (by kernel_rfl))
  t0 := Tryd.underlying0
  a0 := Tryd.isAgg0
  z0 := Tryd.sizeOf0
  v0 := Tryd.zeroValue0
  t2 := Tryd.underlying2
  a2 := Tryd.isAgg2
  z2 := Tryd.sizeOf2
  v2 := Tryd.zeroValue2
  t3 := Tryd.underlying3
  a3 := Tryd.isAgg3
  z3 := Tryd.sizeOf3
  v3 := Tryd.zeroValue3
  t4 := Tryd.underlying4
  a4 := Tryd.isAgg4
  z4 := Tryd.sizeOf4
  v4 := Tryd.zeroValue4
  t5 := Tryd.underlying5
  a5 := Tryd.isAgg5
  z5 := Tryd.sizeOf5
  v5 := Tryd.zeroValue5
  t9 := Tryd.underlying9
  a9 := Tryd.isAgg9
  z9 := Tryd.sizeOf9
  v9 := Tryd.zeroValue9
  t20 := Tryd.underlying20
  a20 := Tryd.isAgg20
  z20 := Tryd.sizeOf20
  v20 := Tryd.zeroValue20
  t37 := Tryd.underlying28
  a37 := Tryd.isAgg28
  z37 := Tryd.sizeOf28
  v37 := Tryd.zeroValue28
  t46 := Tryd.underlying137
  a46 := Tryd.isAgg137
  z46 := Tryd.sizeOf137
  v46 := Tryd.zeroValue137
  t51 := Tryd.underlying119
  a51 := Tryd.isAgg119
  z51 := Tryd.sizeOf119
  v51 := Tryd.zeroValue119
  t53 := Tryd.underlying63
  a53 := Tryd.isAgg63
  z53 := Tryd.sizeOf63
  v53 := Tryd.zeroValue63
  t171 := Tryd.underlying138
  a171 := Tryd.isAgg138
  z171 := Tryd.sizeOf138
  v171 := Tryd.zeroValue138
  t173 := Tryd.underlying141
  a173 := Tryd.isAgg141
  z173 := Tryd.sizeOf141
  v173 := Tryd.zeroValue141
  t212 := Tryd.underlying155
  a212 := Tryd.isAgg155
  z212 := Tryd.sizeOf155
  v212 := Tryd.zeroValue155
  t213 := Tryd.underlying156
  a213 := Tryd.isAgg156
  z213 := Tryd.sizeOf156
  t232 := Tryd.underlying166
  a232 := Tryd.isAgg166
  z232 := Tryd.sizeOf166
  v232 := Tryd.zeroValue166
  t233 := Tryd.underlying167
  a233 := Tryd.isAgg167
  z233 := Tryd.sizeOf167
  v233 := Tryd.zeroValue167
  g17 := by kernel_rfl
  g18 := by kernel_rfl
  g19 := by kernel_rfl }
theorem itoa_any (n : Int) (h0 : -9223372036854775808 ≤ n) (h1 : n ≤ 9223372036854775807) (w : World) (htab : Lib.TabIs Tryd.prog w "internal/strconv.uint64pow10" .u64 Lib.pow10Tab) :
    Calls Tryd.prog 50 #[.int .i64 n] w fun e w' => e = .returned (.string ⟨(Lib.itoa n).toArray⟩) ∧ ∃ k os, w' = Go.Sort.grow (w.drewN k) os := Any.strconv_Itoa witM n h0 h1 w htab
theorem itoa_small (i : Nat) (hi : i < 100) (w : World) :
    Calls Tryd.prog 50 #[.int .i64 (i : Int)] w fun e w' => e = .returned (.string ⟨(Lib.decDigits i).toArray⟩) ∧ w' = w := Any.strconv_Itoa_small witS i hi w
end Go.Proofs.YtahigmjpeicemaaDoor

/- A file system, plainly: names with files' numbers, what is pending, a plan. -/
namespace Go.Proofs.YtahigmjpeicemaaDoor
open Go.RowKit Go.Maps

/-- What was done to a directory: a name went, a name has a file. -/
structure SfA where
  gone : List UInt8
  name : List UInt8
  file : Option Nat
/-- A file system: each file is its bytes, and how many of them are synced. -/
structure SfS where
  room : Int
  dir : List (List UInt8 × Nat)
  old : List (List UInt8 × Nat)
  pend : List SfA
  left : Int
  fault : Int
  fls : List (List UInt8 × Nat)
def sfIns (x : List UInt8 × Nat) : List (List UInt8 × Nat) → List (List UInt8 × Nat)
  | [] => [x]
  | y :: r => if bytesBefore x.1 y.1 then x :: y :: r else y :: sfIns x r
def sfDel (s : List UInt8) (l : List (List UInt8 × Nat)) : List (List UInt8 × Nat) := l.filter fun p => !(p.1 == s)
def sfPut (x : List UInt8 × Nat) (l : List (List UInt8 × Nat)) : List (List UInt8 × Nat) := sfIns x (sfDel x.1 l)
def sfDo (l : List (List UInt8 × Nat)) (a : SfA) : List (List UInt8 × Nat) := match a.file with
  | none => sfDel a.gone l
  | some i => sfPut (a.name, i) (sfDel a.gone l)
def sfLook (s : List UInt8) (l : List (List UInt8 × Nat)) : Option Nat := (l.find? fun p => p.1 == s).map (·.2)
/-- A file. -/
def SfS.fl (s : SfS) (i : Nat) : List UInt8 × Nat := s.fls.getD i ([], 0)

/-! as a map's reading -/
def sfE (bl : Nat → Nat) (p : List UInt8 × Nat) : Lit × DataW Unit := (.string p.1, .lit (.int .i64 (bl p.2 : Int)))
def sfD (bl : Nat → Nat) (l : List (List UInt8 × Nat)) : DataW Unit := .map (l.map (sfE bl))
theorem sfE_ins (bl : Nat → Nat) (x : List UInt8 × Nat) : ∀ l, (sfIns x l).map (sfE bl) = DataW.insert (sfE bl x) (l.map (sfE bl))
  | [] => rfl
  | y :: r => by
    have ih := sfE_ins bl x r
    rw [sfIns, List.map_cons, DataW.insert]
    have e : (sfE bl x).1.before (sfE bl y).1 = bytesBefore x.1 y.1 := rfl
    rw [e]
    split
    · rfl
    · rw [List.map_cons, ih]
theorem sfE_del (bl : Nat → Nat) (s : List UInt8) : ∀ l, (sfDel s l).map (sfE bl) = (l.map (sfE bl)).filter (fun p => !p.1.sameKey (.string s))
  | [] => rfl
  | y :: r => by
    have ih := sfE_del bl s r
    have e : (sfE bl y).1.sameKey (.string s) = (y.1 == s) := rfl
    unfold sfDel at ih ⊢
    rw [List.map_cons, List.filter_cons, List.filter_cons, e]
    split
    · rw [List.map_cons, ih]
    · exact ih
theorem sfD_del (bl : Nat → Nat) (s : List UInt8) (l : List (List UInt8 × Nat)) : (sfD bl l).del (.string s) = sfD bl (sfDel s l) := by
  unfold sfD; rw [sfE_del]; rfl
theorem sfD_put (bl : Nat → Nat) (x : List UInt8 × Nat) (l : List (List UInt8 × Nat)) : (sfD bl l).put (.string x.1) (.lit (.int .i64 (bl x.2 : Int))) = sfD bl (sfPut x l) := by
  unfold sfD sfPut; rw [sfE_ins, sfE_del]; rfl
theorem sfE_find (bl : Nat → Nat) (s : List UInt8) : ∀ l : List (List UInt8 × Nat), (l.map (sfE bl)).find? (fun p => p.1.sameKey (.string s)) = (l.find? fun p => p.1 == s).map (sfE bl)
  | [] => rfl
  | y :: r => by
    have ih := sfE_find bl s r
    have e : (sfE bl y).1.sameKey (.string s) = (y.1 == s) := rfl
    rw [List.map_cons, List.find?_cons, List.find?_cons, e]
    split
    · rfl
    · exact ih
theorem sfD_at (bl : Nat → Nat) (s : List UInt8) (l : List (List UInt8 × Nat)) (z : DataW Unit) : (sfD bl l).atKey (.string s) z = match sfLook s l with | none => z | some i => .lit (.int .i64 (bl i : Int)) := by
  unfold sfD sfLook DataW.atKey
  simp only [sfE_find]
  cases l.find? fun p => p.1 == s <;> rfl
theorem sfD_has (bl : Nat → Nat) (s : List UInt8) (l : List (List UInt8 × Nat)) : Maps.has (sfD bl l) (.string s) = (sfLook s l).isSome := by
  unfold sfD sfLook
  rw [Maps.has_eq]
  induction l with
  | nil => rfl
  | cons y r ih =>
    have e : (sfE bl y).1.sameKey (.string s) = (y.1 == s) := rfl
    rw [List.map_cons, List.any_cons, List.find?_cons, e]
    cases h : y.1 == s with
    | true => rfl
    | false => simpa using ih
theorem sfD_size (bl : Nat → Nat) (l : List (List UInt8 × Nat)) : Maps.size (sfD bl l) = l.length := by unfold sfD; rw [Maps.size_eq, List.length_map]
theorem sfD_congr {bl bl' : Nat → Nat} {l : List (List UInt8 × Nat)} (h : ∀ p ∈ l, bl p.2 = bl' p.2) : sfD bl l = sfD bl' l := by
  unfold sfD
  congr 1
  exact List.map_congr_left fun p hp => by unfold sfE; rw [h p hp]
/-- A map's element: a file's place, or none. -/
def ptrE : Value → Option (DataW Unit × List MemPlace)
  | .pointer (some ⟨b, 0, none⟩) => some (.lit (.int .i64 (b : Int)), [])
  | .pointer none => some (.nil, [])
  | _ => none
def sfPv (bl : Nat → Nat) : Option Nat → Value
  | none => .pointer none
  | some i => .pointer (some ⟨bl i, 0, none⟩)
theorem ptrE_inv {v : Value} {y : DataW Unit × List MemPlace} (h : ptrE v = some y) : (v = .pointer none ∧ y = (.nil, [])) ∨ ∃ b : Nat, v = .pointer (some ⟨b, 0, none⟩) ∧ y = (.lit (.int .i64 (b : Int)), []) := by
  unfold ptrE at h
  split at h
  · cases h; exact .inr ⟨_, rfl, rfl⟩
  · cases h; exact .inl ⟨rfl, rfl⟩
  · cases h
theorem ptrE_pv {bl : Nat → Nat} {o : Option Nat} {v : Value} {ps : List MemPlace} (h : ptrE v = some ((match o with | none => (.nil : DataW Unit) | some i => .lit (.int .i64 (bl i : Int))), ps)) : v = sfPv bl o := by
  rcases ptrE_inv h with ⟨rfl, e⟩ | ⟨b, rfl, e⟩
  · cases o with
    | none => rfl
    | some i => simp at e
  · cases o with
    | none => simp at e
    | some i =>
      simp at e
      obtain ⟨e, _⟩ := e
      have : bl i = b := by omega
      show _ = Value.pointer (some ⟨bl i, 0, none⟩)
      rw [this]
theorem keyedS : Keyed Tryd.prog 9 := string_keyed Tryd.underlying9
theorem keyS (s : List UInt8) (h : s.length ≤ maxLen) : keyOf Tryd.prog 9 (.string ⟨s.toArray⟩) = some (.string s) := by
  have := WideMaps.keyOf_string_mk (P := Tryd.prog) Tryd.underlying9 (s := ⟨s.toArray⟩) (by simpa [ByteArray.size] using h)
  simpa using this
theorem zeroPtr (w : World) : (zeroValue 98).run Tryd.prog w = .ok (.pointer none) w := by kernel_rfl
/-- A directory in memory. -/
def SfMap (w : World) (m : Nat) (bl : Nat → Nat) (l : List (List UInt8 × Nat)) : Prop := w.ownsMap Tryd.prog 9 ptrE m l.length (sfD bl l)
theorem SfMap.of {w : World} {m n : Nat} {bl : Nat → Nat} {l : List (List UInt8 × Nat)} {D : DataW Unit} (h : w.ownsMap Tryd.prog 9 ptrE m n D) (hD : D = sfD bl l) : SfMap w m bl l := by
  subst hD
  obtain ⟨es, clock, h1, h2, h3, h4⟩ := h
  refine ⟨es, clock, h1, h2, ?_, h4⟩
  have := sfD_size bl l
  rw [h4, Maps.size_eq, length_read] at this
  omega
theorem SfMap.keep {w w' : World} {m : Nat} {bl : Nat → Nat} {l : List (List UInt8 × Nat)} (h : SfMap w m bl l) (hk : w'.heap[m]? = w.heap[m]?) : SfMap w' m bl l := by
  obtain ⟨es, clock, h1, r⟩ := h
  exact ⟨es, clock, hk.trans h1, r⟩
theorem SfMap.isMap {w : World} {m : Nat} {bl : Nat → Nat} {l : List (List UInt8 × Nat)} (h : SfMap w m bl l) : ∃ es clock, w.heap[m]? = some (.map es clock) := by
  obtain ⟨es, clock, h1, _⟩ := h
  exact ⟨es, clock, h1⟩
theorem SfMap.congr {w : World} {m : Nat} {bl bl' : Nat → Nat} {l : List (List UInt8 × Nat)} (h : SfMap w m bl l) (hb : ∀ p ∈ l, bl p.2 = bl' p.2) : SfMap w m bl' l := by
  unfold SfMap at h ⊢; rw [← sfD_congr hb]; exact h
theorem SfMap.look {w : World} {m : Nat} {bl : Nat → Nat} {l : List (List UInt8 × Nat)} (h : SfMap w m bl l) (s : List UInt8) (hs : s.length ≤ maxLen) :
    (Instr.lookup 89 (.map (some m)) (.string ⟨s.toArray⟩) false).run Tryd.prog w = .ok (sfPv bl (sfLook s l)) w := by
  obtain ⟨v, ps, hr, hv⟩ := World.ownsMap.lookup h keyedS Tryd.underlying89 (zeroPtr w) (zd := .nil) (zp := []) rfl (keyS s hs)
  rw [sfD_at] at hv
  rw [hr, ptrE_pv hv]
theorem SfMap.put {w : World} {m : Nat} {bl : Nat → Nat} {l : List (List UInt8 × Nat)} (h : SfMap w m bl l) (s : List UInt8) (hs : s.length ≤ maxLen) (i : Nat) (hn : l.length < maxLen) :
    ∃ w', (Instr.mapUpdate 89 (.map (some m)) (.string ⟨s.toArray⟩) (.pointer (some ⟨bl i, 0, none⟩))).run Tryd.prog w = .ok () w' ∧ SfMap w' m bl (sfPut (s, i) l) ∧ w.mapTurned w' m := by
  obtain ⟨w', h1, h2, h3⟩ := World.ownsMap.store h keyedS Tryd.underlying89 hn (keyS s hs) (val := .pointer (some ⟨bl i, 0, none⟩)) (d := .lit (.int .i64 (bl i : Int))) (ps := []) rfl
  exact ⟨w', h1, .of h2 (sfD_put bl (s, i) l), h3⟩
theorem SfMap.del {w : World} {m : Nat} {bl : Nat → Nat} {l : List (List UInt8 × Nat)} (h : SfMap w m bl l) (s : List UInt8) (hs : s.length ≤ maxLen) (ty : TypeId) :
    ∃ w', (Builtin.delete_ #[89, 9] ty #[.map (some m), .string ⟨s.toArray⟩]).run Tryd.prog w = .ok (.tuple #[]) w' ∧ SfMap w' m bl (sfDel s l) ∧ w.mapTurned w' m := by
  obtain ⟨w', h1, h2, h3⟩ := World.ownsMap.drop h keyedS Tryd.underlying89 (keyS s hs) ty
  exact ⟨w', h1, .of h2 (sfD_del bl s l), h3⟩
theorem SfMap.len {w : World} {m : Nat} {bl : Nat → Nat} {l : List (List UInt8 × Nat)} (h : SfMap w m bl l) (ty : TypeId) : (Builtin.len_ #[89] ty #[.map (some m)]).run Tryd.prog w = .ok (.int .i64 (l.length : Int)) w := by
  have := World.ownsMap.len h Tryd.underlying89 ty
  rw [sfD_size] at this
  exact this
theorem SfMap.clear {w : World} {m : Nat} {bl : Nat → Nat} {l : List (List UInt8 × Nat)} (h : SfMap w m bl l) (ty : TypeId) :
    ∃ w', (Builtin.clear_ #[89] ty #[.map (some m)]).run Tryd.prog w = .ok (.tuple #[]) w' ∧ SfMap w' m bl [] ∧ w.mapTurned w' m := by
  obtain ⟨es, clock, hb, F, hs, hD⟩ := h
  refine ⟨ChangeMaps.setBlock w m (.map #[] clock), ?_, ⟨#[], clock, ChangeMaps.heap_setBlock_same hb _, ⟨by simp, MapKept.stamped_empty clock, by simp⟩, Nat.le_refl _, rfl⟩, ⟨es, clock, _, _, hb, rfl⟩⟩
  simp [Builtin.clear_, run_underlying Tryd.underlying89, MapKept.run_getObj_map hb, MapKept.run_setObj_map _ hb, Result.andThen, ChangeMaps.setBlock]
end Go.Proofs.YtahigmjpeicemaaDoor

/- Append to a row whose capacity may end ahead of its block, with where the new row lies; what a call touches, as a set of blocks. -/
namespace Go.Proofs.YtahigmjpeicemaaDoor
open Go.RowKit

/-- Nothing that was there has turned but blocks of O. -/
structure Onl (O : Nat → Prop) (w w' : World) : Prop where
  os : w'.os = w.os
  tape : w'.tape = w.tape
  output : w'.output = w.output
  size : w.heap.size ≤ w'.heap.size
  block : ∀ k, k < w.heap.size → ¬ O k → w'.heap[k]? = w.heap[k]?
/-- O, and what is new. -/
def Grw (O : Nat → Prop) (w w' : World) (k : Nat) : Prop := O k ∨ (w.heap.size ≤ k ∧ k < w'.heap.size)
theorem Onl.refl (O : Nat → Prop) (w : World) : Onl O w w := ⟨rfl, rfl, rfl, Nat.le_refl _, fun _ _ _ => rfl⟩
theorem Onl.trans {O : Nat → Prop} {w w1 w2 : World} (h : Onl O w w1) (h' : Onl (Grw O w w1) w1 w2) : Onl O w w2 :=
  ⟨h'.os.trans h.os, h'.tape.trans h.tape, h'.output.trans h.output, Nat.le_trans h.size h'.size, fun k hk ho => (h'.block k (Nat.lt_of_lt_of_le hk h.size) (fun q => q.elim ho (fun r => by omega))).trans (h.block k hk ho)⟩
theorem Onl.mono {O O' : Nat → Prop} {w w' : World} (h : Onl O w w') (hO : ∀ k, O k → O' k) : Onl O' w w' := ⟨h.os, h.tape, h.output, h.size, fun k hk ho => h.block k hk (fun q => ho (hO k q))⟩
theorem Onl.then {O : Nat → Prop} {w w1 w2 : World} (h : Onl O w w1) (h' : Onl O w1 w2) : Onl O w w2 := h.trans (h'.mono fun _ q => .inl q)
theorem Onl.below {O : Nat → Prop} {w w' : World} {base : Nat} (h : Onl O w w') (hb : base ≤ w.heap.size) (hO : ∀ k, O k → base ≤ k) : Below base w w' := ⟨h.os, h.tape, h.output, h.size, fun k hk => h.block k (by omega) (fun q => by have := hO k q; omega)⟩
theorem onl_of_below {O : Nat → Prop} {w w' : World} (h : Below w.heap.size w w') : Onl O w w' := ⟨h.os, h.tape, h.output, h.size, fun k hk _ => h.block k hk⟩
theorem Grw.lt {O : Nat → Prop} {w w' : World} (h : ∀ k, O k → k < w.heap.size) (hs : w.heap.size ≤ w'.heap.size) : ∀ k, Grw O w w' k → k < w'.heap.size := fun k hk => hk.elim (fun q => Nat.lt_of_lt_of_le (h k q) hs) (fun q => q.2)
theorem Grw.trans {O : Nat → Prop} {w w1 w2 : World} (h1 : w.heap.size ≤ w1.heap.size) (h2 : w1.heap.size ≤ w2.heap.size) : ∀ k, Grw (Grw O w w1) w1 w2 k → Grw O w w2 k := fun k hk => by
  rcases hk with (q | q) | q
  · exact .inl q
  · exact .inr ⟨q.1, by omega⟩
  · exact .inr ⟨by omega, q.2⟩
theorem Onl.set {O : Nat → Prop} {w : World} {a : Addr} (h : O a.block) (v : Value) : Onl O w (w.setCell a v) := by
  have hb := (Below.refl 0 w).setCell (p := a) (Nat.zero_le _) v
  exact ⟨hb.os, hb.tape, hb.output, hb.size, fun k _ ho => Below.heap_setCell _ _ _ _ (fun e => ho (e ▸ h))⟩
theorem Onl.alloc {O : Nat → Prop} {w : World} (o : Obj) : Onl O w (w.alloc o) := onl_of_below ((Below.refl _ _).alloc (Nat.le_refl _) _)
theorem Onl.grown {O : Nat → Prop} {w w' : World} {row : Option Nat} (h : w.grownBy w' row) (hr : ∀ k, row = some k → O k) : Onl O w w' := ⟨h.os, h.tape, h.output, h.size, fun k hk ho => h.block k hk (fun e => ho (hr k e.symm))⟩
/-- A row of one's own, in a block that may go on behind its capacity. -/
def GOwn (w : World) (e : TypeId) (size : Nat) (v : Value) (n : Nat) (xs : List Value) : Prop :=
  xs.length = n * size ∧ ((v = .slice none 0 0 ∧ n = 0) ∨ ∃ g cap cur, v = .slice (some ⟨g, 0, none⟩) n cap ∧ w.heap[g]? = some (.cells cur e (0, 0)) ∧ n ≤ cap ∧ cap ≤ maxLen ∧ cap * size ≤ cur.size ∧ cur.toList.take (n * size) = xs)
theorem GOwn.nil (w : World) (e : TypeId) (size : Nat) : GOwn w e size (.slice none 0 0) 0 [] := ⟨by simp, .inl ⟨rfl, rfl⟩⟩
theorem GOwn.keep {w w' : World} {e : TypeId} {size : Nat} {v : Value} {n : Nat} {xs : List Value} (h : GOwn w e size v n xs) (hk : ∀ k, v.ownBlock = some k → w'.heap[k]? = w.heap[k]?) : GOwn w' e size v n xs := by
  refine ⟨h.1, ?_⟩
  rcases h.2 with h2 | ⟨g, cap, cur, rfl, h3, r⟩
  · exact .inl h2
  · exact .inr ⟨g, cap, cur, rfl, (hk g rfl).trans h3, r⟩
theorem GOwn.block {w : World} {e : TypeId} {size : Nat} {v : Value} {n : Nat} {xs : List Value} (h : GOwn w e size v n xs) {k : Nat} (hk : v.ownBlock = some k) : ∃ cur, w.heap[k]? = some (.cells cur e (0, 0)) := by
  rcases h.2 with ⟨rfl, _⟩ | ⟨g, cap, cur, rfl, h3, r⟩
  · simp [Value.ownBlock] at hk
  · obtain rfl : g = k := by simpa [Value.ownBlock] using hk
    exact ⟨cur, h3⟩
theorem GOwn.form {w : World} {e : TypeId} {size : Nat} {v : Value} {n : Nat} {xs : List Value} (h : GOwn w e size v n xs) : ∃ a cap, v = .slice a n cap ∧ n ≤ cap ∧ cap ≤ maxLen ∧ (∀ b, a = some b → b = ⟨b.block, 0, none⟩) ∧ (a = none → n = 0 ∧ cap = 0) := by
  rcases h.2 with ⟨rfl, rfl⟩ | ⟨g, cap, cur, rfl, h3, h4, h5, _⟩
  · exact ⟨none, 0, rfl, Nat.le_refl _, Nat.zero_le _, (fun b hb => by cases hb), (fun _ => ⟨rfl, rfl⟩)⟩
  · exact ⟨_, cap, rfl, h4, h5, fun b hb => by cases hb; rfl, fun hb => by cases hb⟩
theorem GOwn.cells {w : World} {e : TypeId} {size : Nat} {v : Value} {n : Nat} {xs : List Value} (h : GOwn w e size v n xs) {g : Nat} (hg : v.ownBlock = some g) : ∀ j u, xs[j]? = some u → w.cell? ((⟨g, 0, none⟩ : Addr).add j) = some u := by
  intro j u hj
  rcases h.2 with ⟨rfl, _⟩ | ⟨g', cap, cur, rfl, h3, h4, h5, h6, h7⟩
  · simp [Value.ownBlock] at hg
  · obtain rfl : g' = g := by simpa [Value.ownBlock] using hg
    have ea : (⟨g', 0, none⟩ : Addr).add j = ⟨g', j, none⟩ := by simp [Addr.add]; omega
    rw [ea]
    rw [← h7, List.getElem?_take] at hj
    split at hj
    · simp only [World.cell?, h3]
      rw [Array.getElem?_toList] at hj
      simpa using hj
    · cases hj
/-- Bytes: what the slice reads. -/
theorem gown_reads {w : World} {v : Value} {l : List UInt8} (h : GOwn w 5 1 v l.length (l.map bc)) : Reads w v l := by
  have hc := @GOwn.cells _ _ _ _ _ _ h
  rcases h.2 with ⟨rfl, h0⟩ | ⟨g, cap, cur, rfl, h3, h4, h5, h6, h7⟩
  · exact .inl ⟨List.length_eq_zero_iff.1 h0, none, 0, rfl, fun _ => rfl⟩
  · rcases Nat.eq_zero_or_pos l.length with h0 | h0
    · exact .inl ⟨List.length_eq_zero_iff.1 h0, _, cap, by rw [h0], fun q => by cases q⟩
    · refine .inr ⟨g, 0, cap, rfl, h0, h4, h5, (Array.getElem?_eq_some_iff.1 h3).1, fun j hj => ?_⟩
      have := hc (g := g) rfl j (bc l[j]) (by simp [hj])
      have ea : (⟨g, 0, none⟩ : Addr).add j = ⟨g, 0 + j, none⟩ := by simp [Addr.add]; omega
      rw [ea] at this
      exact this
/-- Where what is appended stands. -/
def GSrc (w : World) (size : Nat) (vx : Value) (m : Nat) (news : List Value) : Prop :=
  news.length = m * size ∧ ((vx = .slice none 0 0 ∧ m = 0) ∨ ∃ a c, vx = .slice (some a) m c ∧ ∀ j u, news[j]? = some u → w.cell? (a.add j) = some u)
theorem GOwn.src {w : World} {e : TypeId} {size : Nat} {v : Value} {n : Nat} {xs : List Value} (h : GOwn w e size v n xs) : GSrc w size v n xs := by
  have hc := @GOwn.cells _ _ _ _ _ _ h
  refine ⟨h.1, ?_⟩
  rcases h.2 with h2 | ⟨g, cap, cur, rfl, r⟩
  · exact .inl h2
  · exact .inr ⟨_, cap, rfl, hc rfl⟩
theorem reads_src {w : World} {v : Value} {l : List UInt8} (h : Reads w v l) : GSrc w 1 v l.length (l.map bc) := by
  refine ⟨by simp, ?_⟩
  rcases h with ⟨rfl, a, cap, rfl, hn⟩ | ⟨b, off, cap, rfl, h2, h3, h4, h5, h6⟩
  · cases a with
    | none => exact .inl ⟨by rw [hn rfl], rfl⟩
    | some a => exact .inr ⟨a, cap, rfl, fun j u hj => by simp at hj⟩
  · exact .inr ⟨_, cap, rfl, newsR h6⟩
theorem run_gapp {P : Program} {w : World} (t ty e : TypeId) (i : TypeInfo) (z : Value) (size bytes : Nat) (ht : P.underlying t = some (.slice e)) (hi : P.info? e = some i) (hz : i.zero = some z)
    (hsize : i.size = size) (hby : i.bytes = bytes) (hzs : z.cells.size = size)
    (v : Value) (n : Nat) (xs : List Value) (hown : GOwn w e size v n xs) (vx : Value) (m : Nat) (news : List Value) (hx : GSrc w size vx m news) (h1 : ∀ u ∈ news, u.oneCell' = true)
    (h63 : n + m ≤ maxLen) (hbytes : (n + m) * bytes ≤ 140737488355328) :
    ∃ v' w', (Builtin.append_ #[t, t] ty #[v, vx]).run P w = .ok v' w' ∧ GOwn w' e size v' (n + m) (xs ++ news) ∧ w.grownBy w' v.ownBlock ∧ (∀ k, v'.ownBlock = some k → v.ownBlock = some k ∨ (w.heap.size ≤ k ∧ k < w'.heap.size)) := by
  subst hsize
  subst hby
  have hsmall : n + m ≤ 9223372036854775807 := by simp only [maxLen] at h63; omega
  obtain ⟨hl, hx⟩ := hx
  have hlen : (xs ++ news).length = (n + m) * i.size := by rw [List.length_append, hown.1, hl, Nat.add_mul]
  have grown : ∀ (old : Nat), old < n + m → ∀ (row : Option Nat),
      GOwn (w.drew.alloc (.cells (xs.toArray ++ news.toArray ++ Builtin.zeroCells z.cells (grownCap w (n + m) old e - (n + m))) e)) e i.size
        (.slice (some ⟨w.heap.size, 0, none⟩) (n + m) (grownCap w (n + m) old e)) (n + m) (xs ++ news) ∧
      w.grownBy (w.drew.alloc (.cells (xs.toArray ++ news.toArray ++ Builtin.zeroCells z.cells (grownCap w (n + m) old e - (n + m))) e)) row := by
    intro old ho row
    have hge := grownCap_ge w (n + m) old e
    have hcm : grownCap w (n + m) old e ≤ maxLen := grownCap_le_maxLen w (n + m) old e h63
    refine ⟨⟨hlen, .inr ⟨w.heap.size, _, _, rfl, heap_alloc_new w.drew _, hge, hcm, ?_, ?_⟩⟩, ⟨rfl, rfl, rfl, by simp, fun k hk _ => Below.heap_alloc w.drew _ k hk⟩⟩
    · simp only [Array.size_append, List.size_toArray, size_zeroCells, hzs, hown.1, hl, ← Nat.add_mul]
      exact Nat.mul_le_mul_right _ (by omega)
    · simp only [Array.toList_append, List.append_assoc]
      rw [← List.append_assoc, ← hlen]
      exact List.take_left
  rcases hx with ⟨rfl, rfl⟩ | ⟨a, c, rfl, hnews⟩
  · have hn : news = [] := List.eq_nil_of_length_eq_zero (by simpa using hl)
    subst hn
    rw [Nat.add_zero, List.append_nil]
    refine ⟨v, w, ?_, hown, ⟨rfl, rfl, rfl, Nat.le_refl _, fun _ _ _ => rfl⟩, fun k hk => .inl hk⟩
    rcases hown.2 with ⟨rfl, rfl⟩ | ⟨g, cap, cur, rfl, hg, hnc, hcm, hcs, htake⟩
    · simp [Builtin.append_, run_underlying ht, sizeOf, typeInfo, hi, Builtin.lenOf, Builtin.firstCells]
    · have hst := run_storeCells_at P g (n * i.size) e [] 0 cur w hg (by have := Nat.mul_le_mul_right i.size hnc; simp; omega) (by simp)
      simp only [Nat.add_zero] at hst
      simp [Builtin.append_, run_underlying ht, sizeOf, typeInfo, hi, Builtin.lenOf, hnc, Builtin.firstCells, storeCells]
  · rcases hown.2 with ⟨rfl, rfl⟩ | ⟨g, cap, cur, rfl, hg, hnc, hcm, hcs, htake⟩
    · have hxn : xs = [] := List.eq_nil_of_length_eq_zero (by simpa using hown.1)
      subst hxn
      by_cases hm : m = 0
      · subst hm
        have hn : news = [] := List.eq_nil_of_length_eq_zero (by simpa using hl)
        subst hn
        refine ⟨.slice none 0 0, w, ?_, hown, ⟨rfl, rfl, rfl, Nat.le_refl _, fun _ _ _ => rfl⟩, fun k hk => by simp [Value.ownBlock] at hk⟩
        simp [Builtin.append_, run_underlying ht, sizeOf, typeInfo, hi, Builtin.lenOf, Builtin.firstCells, loadCells, loadCellsFrom]
      · have hr := run_append_nil (P := P) w t ty e i z ht hi hz a m c news hl hnews (by omega) (by omega) (by have hb := hbytes; simp only [Nat.zero_add] at hb; omega)
        have hgr := grown 0 (by omega) (Value.ownBlock (.slice none 0 0))
        simp only [Nat.zero_add, List.nil_append, Array.empty_append] at hgr ⊢
        exact ⟨_, _, hr, hgr.1, hgr.2, fun k hk => .inr (by simp [Value.ownBlock] at hk; simp; omega)⟩
    · by_cases hroom : n + m ≤ cap
      · have hfit : n * i.size + news.length ≤ cur.size := by rw [hl, ← Nat.add_mul]; exact Nat.le_trans (Nat.mul_le_mul_right _ hroom) hcs
        have hr := run_append_room (P := P) w t ty e i ht hi g n cap cur hg a m c news hl hnews h1 hroom hfit
        refine ⟨_, _, hr, ⟨hlen, .inr ⟨g, cap, _, rfl, setRow_heap w g cur _ e _ hg, hroom, hcm, ?_, ?_⟩⟩, ⟨rfl, rfl, rfl, by simp, fun k _ hk => setRow_other w g k _ (fun e => hk (by simp [Value.ownBlock, e]))⟩, fun k hk => .inl hk⟩
        · simp only [List.size_toArray, List.length_append, List.length_take, List.length_drop, Array.length_toList]
          omega
        · rw [htake, ← hlen]
          exact List.take_left
      · have holds : ∀ j u, xs[j]? = some u → w.cell? ((⟨g, 0, none⟩ : Addr).add j) = some u := hown.cells (g := g) rfl
        have hr := run_append_grow (P := P) w t ty e i z ht hi hz ⟨g, 0, none⟩ n cap xs hown.1 holds a m c news hl hnews (by omega) (by omega) (growslice_fits (by omega) hbytes)
        have hgr := grown cap (by omega) (Value.ownBlock (.slice (some ⟨g, 0, none⟩) n cap))
        exact ⟨_, _, hr, hgr.1, hgr.2, fun k hk => .inr (by simp [Value.ownBlock] at hk; simp; omega)⟩
/-- Bytes. -/
def BOwn (w : World) (v : Value) (l : List UInt8) : Prop := GOwn w 5 1 v l.length (l.map bc)
theorem BOwn.reads {w : World} {v : Value} {l : List UInt8} (h : BOwn w v l) : Reads w v l := gown_reads h
theorem run_bapp {w : World} (ty : TypeId) (v vx : Value) (L l : List UInt8) (h : BOwn w v L) (hr : Reads w vx l) (hlen : L.length + l.length ≤ 140737488355328) :
    ∃ v' w', (Builtin.append_ #[28, 28] ty #[v, vx]).run Tryd.prog w = .ok v' w' ∧ BOwn w' v' (L ++ l) ∧ w.grownBy w' v.ownBlock ∧ (∀ k, v'.ownBlock = some k → v.ownBlock = some k ∨ (w.heap.size ≤ k ∧ k < w'.heap.size)) := by
  obtain ⟨i0, hi, hz0, hz1, hz2⟩ := info_parts info5
  obtain ⟨v', w', h1, h2, h3, h4⟩ := run_gapp (P := Tryd.prog) 28 ty 5 i0 (.int .u8 0) 1 1 Tryd.underlying28 hi hz0 hz1 hz2 rfl v L.length (L.map bc) h vx l.length (l.map bc) (reads_src hr) one_bc (by simp [maxLen]; omega) (by omega)
  exact ⟨v', w', h1, by unfold BOwn; rw [List.length_append, List.map_append]; exact h2, h3, h4⟩
theorem BOwn.cut {w : World} {g n cap : Nat} {l : List UInt8} (h : BOwn w (.slice (some ⟨g, 0, none⟩) n cap) l) {c : Nat} (hc : c ≤ l.length) : BOwn w (.slice (some ⟨g, 0, none⟩) c c) (l.take c) := by
  rcases h.2 with ⟨h2, _⟩ | ⟨g', cap', cur, h2, h3, h4, h5, h6, h7⟩
  · cases h2
  · have hl : (l.take c).length = c := by simp; omega
    simp at h2
    obtain ⟨rfl, rfl, rfl⟩ := h2
    unfold BOwn
    rw [hl]
    refine ⟨by simp; omega, .inr ⟨g, c, cur, rfl, h3, Nat.le_refl _, by omega, by omega, ?_⟩⟩
    rw [Nat.mul_one] at h7 ⊢
    rw [List.map_take, ← h7, List.take_take]
    congr 1; omega
end Go.Proofs.YtahigmjpeicemaaDoor

/- Pieces of bytes that a slice reads. -/
namespace Go.Proofs.YtahigmjpeicemaaDoor
open Go.RowKit

theorem Reads.take {w : World} {a : Option Addr} {cap : Nat} {l : List UInt8} (h : Reads w (.slice a l.length cap) l) {c : Nat} (hc : c ≤ l.length) : Reads w (.slice a c cap) (l.take c) := by
  rcases h with ⟨rfl, a', cap', hv, hn⟩ | ⟨b, off, cap', hv, h2, h3, h4, h5, h6⟩
  · have : c = 0 := by simpa using hc
    subst this
    simp at hv
    obtain ⟨rfl, rfl⟩ := hv
    exact .inl ⟨rfl, _, _, rfl, hn⟩
  · simp at hv
    obtain ⟨rfl, rfl⟩ := hv
    exact reads_take c hc h3 h4 h5 h6
theorem Reads.cap {w : World} {a : Option Addr} {n cap : Nat} {l : List UInt8} (h : Reads w (.slice a n cap) l) (h0 : 0 < l.length) : l.length ≤ cap := by
  rcases h with ⟨rfl, _⟩ | ⟨b, off, cap', hv, h2, h3, h4, h5, h6⟩
  · simp at h0
  · simp at hv; omega
theorem Reads.drop {w : World} {a : Option Addr} {cap : Nat} {l : List UInt8} (h : Reads w (.slice a l.length cap) l) {c : Nat} (hc : c ≤ l.length) (b off : Nat) (ha : a = some ⟨b, off, none⟩) :
    (c < cap → Reads w (.slice (some ⟨b, off + c, none⟩) (l.length - c) (cap - c)) (l.drop c)) ∧ (¬ c < cap → l.drop c = []) := by
  rcases h with ⟨rfl, a', cap', hv, hn⟩ | ⟨b', off', cap', hv, h2, h3, h4, h5, h6⟩
  · have : c = 0 := by simpa using hc
    subst this
    refine ⟨fun _ => .inl ⟨rfl, _, _, rfl, fun h => by cases h⟩, fun _ => rfl⟩
  · simp at hv
    obtain ⟨hv1, rfl⟩ := hv
    rw [ha] at hv1
    simp at hv1
    obtain ⟨rfl, rfl⟩ := hv1
    have hl : (l.drop c).length = l.length - c := by simp
    refine ⟨fun hcc => ?_, fun hcc => List.drop_eq_nil_of_le (by omega)⟩
    rcases Nat.eq_zero_or_pos (l.length - c) with h0 | h0
    · left; exact ⟨List.length_eq_zero_iff.1 (by omega), _, _, by rw [h0], fun h => by cases h⟩
    · right
      refine ⟨b, off + c, cap - c, by rw [hl], by omega, by omega, by omega, h5, fun j hj => ?_⟩
      rw [Nat.add_assoc, h6 (c + j) (by omega)]
      simp
theorem reads_nil {w : World} {a : Option Addr} {cap : Nat} (h : a = none → cap = 0) : Reads w (.slice a 0 cap) [] := .inl ⟨rfl, _, _, rfl, h⟩
end Go.Proofs.YtahigmjpeicemaaDoor
