/- AQS AQM RS KL FL17, joined. -/
import Derived.Test.YtoenijflijfogaaGreatRC15
import Derived.Test.YtoenijflijfogaaGreatRC16
import Derived.Test.YtoenijflijfogaaGreatRC24
import Derived.Test.YtoenijflijfogaaGreatRC26
import Derived.Shelf.SlGeneric
import Derived.Shelf.SortM.Plain
import Derived.Shelf.SortM.SortNone
import Derived.Sort.OwnSorted
import Derived.Maps.OwnSet
import Derived.StringKeys
import Derived.Maps.RangeWalk
import Derived.Maps.Ext
import Derived.Test.YtoenijflijfogaaGreatRows
import Derived.WalkKit
import Derived.Deep.RegionHeld3
/- slices.Sort of texts at this program (written by mkask.py, for one seat). -/
namespace Go.Proofs.YtoenijflijfogaaGreat
open Go.Shelf Go.Sort Go.RowKit Go.Maps

def akSort_ren : Go.Shelf.Ren := ⟨fun | 6 => 57 | 8 => 76 | 9 => 75 | 19 => 99 | 20 => 100 | 21 => 90 | 22 => 91 | 23 => 92 | 24 => 93 | 25 => 94 | 26 => 95 | 27 => 96 | 28 => 97 | 29 => 98 | 36 => 112 | 31 => 113 | 32 => 114 | 37 => 115 | 38 => 116 | 39 => 117 | 41 => 126 | n => n, fun | 27 => 26 | 29 => 9 | 3 => 3 | 32 => 127 | 26 => 26 | 0 => 0 | 44 => 156 | 46 => 32 | 4 => 4 | 36 => 148 | 35 => 147 | 41 => 153 | 5 => 5 | 9 => 9 | 53 => 163 | 57 => 167 | 63 => 173 | 64 => 174 | n => n, fun | n => n⟩
theorem akSort : Go.Proofs.SlLaysM.n6 Tryz.prog akSort_ren := {
  mixed := by kernel_rfl
  f6 := ⟨Tryz.f57.name, by decide, Tryz.func57.trans (congrArg some (by kernel_rfl))⟩
  f8 := Tryz.func76.trans (congrArg some (by kernel_rfl))
  f9 := ⟨Tryz.f75.name, by decide, Tryz.func75.trans (congrArg some (by kernel_rfl))⟩
  f19 := Tryz.func99.trans (congrArg some (by kernel_rfl))
  f20 := Tryz.func100.trans (congrArg some (by kernel_rfl))
  f21 := ⟨Tryz.f90.name, by decide, Tryz.func90.trans (congrArg some (by kernel_rfl))⟩
  f22 := ⟨Tryz.f91.name, by decide, Tryz.func91.trans (congrArg some (by kernel_rfl))⟩
  f23 := ⟨Tryz.f92.name, by decide, Tryz.func92.trans (congrArg some (by kernel_rfl))⟩
  f24 := ⟨Tryz.f93.name, by decide, Tryz.func93.trans (congrArg some (by kernel_rfl))⟩
  f25 := ⟨Tryz.f94.name, by decide, Tryz.func94.trans (congrArg some (by kernel_rfl))⟩
  f26 := ⟨Tryz.f95.name, by decide, Tryz.func95.trans (congrArg some (by kernel_rfl))⟩
  f27 := ⟨Tryz.f96.name, by decide, Tryz.func96.trans (congrArg some (by kernel_rfl))⟩
  f28 := ⟨Tryz.f97.name, by decide, Tryz.func97.trans (congrArg some (by kernel_rfl))⟩
  f29 := ⟨Tryz.f98.name, by decide, Tryz.func98.trans (congrArg some (by kernel_rfl))⟩
  f31 := Tryz.func113.trans (congrArg some (by kernel_rfl))
  f32 := Tryz.func114.trans (congrArg some (by kernel_rfl))
  f36 := ⟨Tryz.f112.name, by decide, Tryz.func112.trans (congrArg some (by kernel_rfl))⟩
  f37 := ⟨Tryz.f115.name, by decide, Tryz.func115.trans (congrArg some (by kernel_rfl))⟩
  f38 := ⟨Tryz.f116.name, by decide, Tryz.func116.trans (congrArg some (by kernel_rfl))⟩
  f39 := ⟨Tryz.f117.name, by decide, Tryz.func117.trans (congrArg some (by kernel_rfl))⟩
  f41 := ⟨Tryz.f126.name, by decide, Tryz.func126.trans (congrArg some (by kernel_rfl))⟩
  t0 := Tryz.underlying0
  a0 := Tryz.isAgg0
  z0 := Tryz.sizeOf0
  v0 := Tryz.zeroValue0
  t3 := Tryz.underlying3
  a3 := Tryz.isAgg3
  z3 := Tryz.sizeOf3
  v3 := Tryz.zeroValue3
  t4 := Tryz.underlying4
  a4 := Tryz.isAgg4
  z4 := Tryz.sizeOf4
  v4 := Tryz.zeroValue4
  t5 := Tryz.underlying5
  a5 := Tryz.isAgg5
  z5 := Tryz.sizeOf5
  v5 := Tryz.zeroValue5
  t9 := Tryz.underlying9
  a9 := Tryz.isAgg9
  z9 := Tryz.sizeOf9
  v9 := Tryz.zeroValue9
  t26 := Tryz.underlying26
  a26 := Tryz.isAgg26
  z26 := Tryz.sizeOf26
  v26 := Tryz.zeroValue26
  t27 := Tryz.underlying26
  a27 := Tryz.isAgg26
  z27 := Tryz.sizeOf26
  v27 := Tryz.zeroValue26
  t29 := Tryz.underlying9
  a29 := Tryz.isAgg9
  z29 := Tryz.sizeOf9
  v29 := Tryz.zeroValue9
  t32 := Tryz.underlying127
  a32 := Tryz.isAgg127
  z32 := Tryz.sizeOf127
  v32 := Tryz.zeroValue127
  t35 := Tryz.underlying147
  a35 := Tryz.isAgg147
  z35 := Tryz.sizeOf147
  v35 := Tryz.zeroValue147
  t36 := Tryz.underlying148
  a36 := Tryz.isAgg148
  z36 := Tryz.sizeOf148
  v36 := Tryz.zeroValue148
  t41 := Tryz.underlying153
  a41 := Tryz.isAgg153
  z41 := Tryz.sizeOf153
  v41 := Tryz.zeroValue153
  t44 := Tryz.underlying156
  a44 := Tryz.isAgg156
  z44 := Tryz.sizeOf156
  v44 := Tryz.zeroValue156
  t46 := Tryz.underlying32
  a46 := Tryz.isAgg32
  z46 := Tryz.sizeOf32
  v46 := Tryz.zeroValue32
  t53 := Tryz.underlying163
  a53 := Tryz.isAgg163
  z53 := Tryz.sizeOf163
  v53 := Tryz.zeroValue163
  t57 := Tryz.underlying167
  a57 := Tryz.isAgg167
  z57 := Tryz.sizeOf167
  v57 := Tryz.zeroValue167
  t63 := Tryz.underlying173
  a63 := Tryz.isAgg173
  z63 := Tryz.sizeOf173
  v63 := Tryz.zeroValue173
  t64 := Tryz.underlying174
  a64 := Tryz.isAgg174
  z64 := Tryz.sizeOf174
  v64 := Tryz.zeroValue174 }
/-- The library's sort, of texts of one's own. -/
theorem sortS_any (v : Value) (ss : List (List UInt8)) (base : Nat) (w : World) (hO : w.ownsRow base 9 1 v ss.length (ss.map encStr)) (hb : base ≤ w.heap.size) (hl : ss.length ≤ 1000000) :
    Calls Tryz.prog 57 #[v] w fun e w' => e = .returned (.tuple #[]) ∧ w'.ownsRow base 9 1 v ss.length ((ss.mergeSort fun x y => decide (x ≤ y)).map encStr) ∧ Below base w w' := by
  have hO2 := hO
  rcases hO with ⟨h1, ⟨rfl, h2⟩ | ⟨g, cap, cur, rfl, hg, hw, hc, hm, hs, ht⟩⟩
  · refine (AnyM.slices_Sort_string_none akSort none 0 w).mono ?_
    rintro e w' ⟨rfl, rfl⟩
    have : ss = [] := List.length_eq_zero_iff.1 h2
    subst this
    exact ⟨rfl, by simpa using hO2, Below.refl _ _⟩
  · refine (AnyM.slices_Sort_string akSort g 0 cap ss w (holds_of_block hw (by rw [Nat.mul_one] at ht; exact ht)) (Array.getElem?_eq_some_iff.1 hw).1 (by omega)).mono ?_
    rintro e w' ⟨rfl, n, os, rfl⟩
    exact ⟨rfl, ownsRow_sorted (by simp) hg hw hc hm hs, (Below.refl _ _).grown (grownBy_sorted _) hb (fun j hj => by cases hj; exact hg)⟩
end Go.Proofs.YtoenijflijfogaaGreat

/- Maps of texts to values of any type, plainly. -/
namespace Go.Proofs.YtoenijflijfogaaGreat
open Go.RowKit Go.Maps

/-- A map of texts, plainly: its entries in the order of their texts. -/
abbrev VL := List (List UInt8 × Value)
def vIns (x : List UInt8 × Value) : VL → VL
  | [] => [x]
  | y :: r => if bytesBefore x.1 y.1 then x :: y :: r else y :: vIns x r
def vDel (s : List UInt8) (l : VL) : VL := l.filter fun p => !(p.1 == s)
def vPut (x : List UInt8 × Value) (l : VL) : VL := vIns x (vDel x.1 l)
def vLook (s : List UInt8) (l : VL) : Option Value := (l.find? fun p => p.1 == s).map (·.2)
def vE (p : List UInt8 × Value) : Lit × DataW Value := (.string p.1, .held p.2)
def vD (l : VL) : DataW Value := .map (l.map vE)
def anyE (v : Value) : Option (DataW Value × List MemPlace) := some (.held v, [])
theorem vE_ins (x : List UInt8 × Value) : ∀ l : VL, (vIns x l).map vE = DataW.insert (vE x) (l.map vE)
  | [] => rfl
  | y :: r => by
    have ih := vE_ins x r
    rw [vIns, List.map_cons, DataW.insert]
    have e : (vE x).1.before (vE y).1 = bytesBefore x.1 y.1 := rfl
    rw [e]
    split
    · rfl
    · rw [List.map_cons, ih]
theorem vE_del (s : List UInt8) : ∀ l : VL, (vDel s l).map vE = (l.map vE).filter (fun p => !p.1.sameKey (.string s))
  | [] => rfl
  | y :: r => by
    have ih := vE_del s r
    have e : (vE y).1.sameKey (.string s) = (y.1 == s) := rfl
    unfold vDel at ih ⊢
    rw [List.map_cons, List.filter_cons, List.filter_cons, e]
    split
    · rw [List.map_cons, ih]
    · exact ih
theorem vD_put (x : List UInt8 × Value) (l : VL) : (vD l).put (.string x.1) (.held x.2) = vD (vPut x l) := by
  unfold vD vPut; rw [vE_ins, vE_del]; rfl
theorem vE_find (s : List UInt8) : ∀ l : VL, (l.map vE).find? (fun p => p.1.sameKey (.string s)) = (l.find? fun p => p.1 == s).map vE
  | [] => rfl
  | y :: r => by
    have ih := vE_find s r
    have e : (vE y).1.sameKey (.string s) = (y.1 == s) := rfl
    rw [List.map_cons, List.find?_cons, List.find?_cons, e]
    split
    · rfl
    · exact ih
theorem vD_at (s : List UInt8) (l : VL) (z : DataW Value) : (vD l).atKey (.string s) z = match vLook s l with | none => z | some v => .held v := by
  unfold vD vLook DataW.atKey
  simp only [vE_find]
  cases l.find? fun p => p.1 == s <;> rfl
theorem vD_has (s : List UInt8) (l : VL) : Maps.has (vD l) (.string s) = (vLook s l).isSome := by
  unfold vD vLook
  rw [Maps.has_eq]
  induction l with
  | nil => rfl
  | cons y r ih =>
    have e : (vE y).1.sameKey (.string s) = (y.1 == s) := rfl
    rw [List.map_cons, List.any_cons, List.find?_cons, e]
    cases h : y.1 == s with
    | true => rfl
    | false => simpa using ih
theorem vD_size (l : VL) : Maps.size (vD l) = l.length := by unfold vD; rw [Maps.size_eq, List.length_map]
theorem anyE_inv {v : Value} {d : Value} {ps : List MemPlace} (h : anyE v = some (.held d, ps)) : v = d := by
  unfold anyE at h
  simp only [Option.some.injEq, Prod.mk.injEq, DataW.held.injEq] at h
  exact h.1
theorem keyedS : Keyed Tryz.prog 9 := string_keyed Tryz.underlying9
theorem keyS (s : List UInt8) (h : s.length ≤ maxLen) : keyOf Tryz.prog 9 (.string ⟨s.toArray⟩) = some (.string s) := by
  have := WideMaps.keyOf_string_mk (P := Tryz.prog) Tryz.underlying9 (s := ⟨s.toArray⟩) (by simpa [ByteArray.size] using h)
  simpa using this
theorem keyS_inv {key : Value} {kl : Lit} (h : keyOf Tryz.prog 9 key = some kl) : ∃ s : List UInt8, key = .string ⟨s.toArray⟩ ∧ kl = .string s ∧ s.length ≤ maxLen := by
  rw [keyOf_string Tryz.underlying9] at h
  cases key <;> simp [mapKey, Tryz.underlying9] at h
  obtain ⟨h1, rfl⟩ := h
  rename_i b
  obtain ⟨d⟩ := b
  exact ⟨d.toList, by rw [Array.toArray_toList], rfl, by simpa [ByteArray.size] using h1⟩
theorem bb_le : ∀ (a b : List UInt8), bytesBefore a b = true → a ≤ b
  | [], b, _ => by simp
  | _ :: _, [], h => by simp [bytesBefore] at h
  | x :: a, y :: b, h => by
    simp only [bytesBefore, Bool.or_eq_true, decide_eq_true_eq, Bool.and_eq_true, beq_iff_eq] at h
    rcases h with h | ⟨rfl, h⟩
    · exact List.le_of_lt (List.cons_lt_cons_iff.2 (.inl h))
    · exact List.cons_le_cons_iff.2 (.inr ⟨rfl, bb_le a b h⟩)
/-- A map of texts in memory. -/
def VMap (w : World) (m : Nat) (l : VL) : Prop := w.ownsMap Tryz.prog 9 anyE m l.length (vD l)
theorem VMap.of {w : World} {m n : Nat} {l : VL} {D : DataW Value} (h : w.ownsMap Tryz.prog 9 anyE m n D) (hD : D = vD l) : VMap w m l := by
  subst hD
  obtain ⟨es, clock, h1, h2, h3, h4⟩ := h
  refine ⟨es, clock, h1, h2, ?_, h4⟩
  have := vD_size l
  rw [h4, Maps.size_eq, length_read] at this
  omega
theorem VMap.keep {w w' : World} {m : Nat} {l : VL} (h : VMap w m l) (hk : w'.heap[m]? = w.heap[m]?) : VMap w' m l := by
  obtain ⟨es, clock, h1, r⟩ := h
  exact ⟨es, clock, hk.trans h1, r⟩
theorem VMap.isMap {w : World} {m : Nat} {l : VL} (h : VMap w m l) : ∃ es clock, w.heap[m]? = some (.map es clock) := by
  obtain ⟨es, clock, h1, _⟩ := h
  exact ⟨es, clock, h1⟩
theorem VMap.apart {w : World} {m : Nat} {l : VL} (h : VMap w m l) : l.Pairwise (fun p q => bytesBefore p.1 q.1 = true) := by
  obtain ⟨es, he, hp, _⟩ := World.ownsMap.canon h keyedS
  unfold vD at he
  cases he
  exact (List.pairwise_map.1 hp)
theorem VMap.new (w : World) : VMap (w.alloc (.map #[] 0)) w.heap.size [] := World.ownsMap_made _ _ _ _
/-- A look into a map: the value, or the elements' zero value. -/
theorem VMap.look {w : World} {m : Nat} {l : VL} (h : VMap w m l) {t e : TypeId} (ht : Tryz.prog.underlying t = some (.map 9 e)) {z : Value} (hz : (zeroValue e).run Tryz.prog w = .ok z w) (s : List UInt8) (hs : s.length ≤ maxLen) :
    (Instr.lookup t (.map (some m)) (.string ⟨s.toArray⟩) false).run Tryz.prog w = .ok ((vLook s l).getD z) w := by
  obtain ⟨v, ps, hr, hv⟩ := World.ownsMap.lookup h keyedS ht hz (zd := .held z) (zp := []) rfl (keyS s hs)
  rw [vD_at] at hv
  rw [hr]
  cases hk : vLook s l with
  | none => rw [hk] at hv; rw [anyE_inv hv]; rfl
  | some x => rw [hk] at hv; rw [anyE_inv hv]; rfl
theorem VMap.put {w : World} {m : Nat} {l : VL} (h : VMap w m l) {t e : TypeId} (ht : Tryz.prog.underlying t = some (.map 9 e)) (s : List UInt8) (hs : s.length ≤ maxLen) (v : Value) (hn : l.length < maxLen) :
    ∃ w', (Instr.mapUpdate t (.map (some m)) (.string ⟨s.toArray⟩) v).run Tryz.prog w = .ok () w' ∧ VMap w' m (vPut (s, v) l) ∧ w.mapTurned w' m := by
  obtain ⟨w', h1, h2, h3⟩ := World.ownsMap.store h keyedS ht hn (keyS s hs) (val := v) (d := .held v) (ps := []) rfl
  exact ⟨w', h1, .of h2 (vD_put (s, v) l), h3⟩
theorem vlook_mem {s : List UInt8} {v : Value} : ∀ {l : VL}, vLook s l = some v → (s, v) ∈ l
  | y :: r, h => by
    unfold vLook at h
    rw [List.find?_cons] at h
    by_cases e : y.1 == s
    · rw [e] at h
      simp at h e
      subst h e
      simp
    · rw [Bool.not_eq_true] at e
      rw [e] at h
      exact List.mem_cons_of_mem _ (vlook_mem h)
theorem vmem_look {l : VL} (hp : l.Pairwise (fun p q => p.1 ≠ q.1)) {p : List UInt8 × Value} (h : p ∈ l) : vLook p.1 l = some p.2 := by
  induction l with
  | nil => cases h
  | cons y r ih =>
    obtain ⟨h1, h2⟩ := List.pairwise_cons.1 hp
    unfold vLook
    rw [List.find?_cons]
    rcases List.mem_cons.1 h with rfl | hm
    · simp
    · have : (y.1 == p.1) = false := by simpa using h1 p hm
      rw [this]
      exact ih h2 hm
/-- The step of a range over a map of texts. -/
theorem wpList_next_v {w : World} {ops : Array Oper} {rest : List Oper} {o : Oper} {a : Act} {Q : Exit → Act → World → Prop} (hg : o.guard = none) (it : Operand) (hop : o.op = Op.next it false) (m r n : Nat) (l : VL) (left : Lit → Bool) (cnt : Nat)
    (hit : a.eval it = .pointer (some ⟨r, 0, none⟩)) (h : w.ranges Tryz.prog 9 anyE m r n (vD l) left cnt)
    (hDone : (∀ kl, left kl = false) → wpList Tryz.prog ops Q rest (a.put o.dst (.tuple #[.bool false])) w)
    (hMore : ∀ (s : List UInt8) (v : Value) (w' : World) (cnt' : Nat), s.length ≤ maxLen → vLook s l = some v → left (.string s) = true → w'.ranges Tryz.prog 9 anyE m r n (vD l) (fun z => left z && !z.sameKey (.string s)) cnt' → cnt' < cnt →
      w.grownBy w' (some r) → w'.heap.size = w.heap.size → (Instr.entry (.pointer (some ⟨r, 0, none⟩))).run Tryz.prog w' = .ok (.tuple #[.string ⟨s.toArray⟩, v]) w' → wpList Tryz.prog ops Q rest (a.put o.dst (.tuple #[.bool true, .string ⟨s.toArray⟩, v])) w') :
    wpList Tryz.prog ops Q (o :: rest) a w := by
  refine wpList_plain hg fun K' hK' => ?_
  unfold Oper.wp
  rcases h.next keyedS o.type with ⟨h0, hl, hrun⟩ | ⟨key, v, kl, y, w', cnt', hkey, hlk, hv, hat, hrun, hrg, hlt, hgr, hsz, hen⟩
  · simp [execOp, hop, hit, hrun, Result.andThen]
    exact hK' _ _ (hDone hl)
  · obtain ⟨s, rfl, rfl, hs⟩ := keyS_inv hkey
    have h1 := hat .nil
    have h2 := hat (.lit (.bool true))
    rw [vD_at] at h1 h2
    cases hk : vLook s l with
    | none => rw [hk] at h1 h2; rw [← h1] at h2; cases h2
    | some i =>
      rw [hk] at h1
      have hpv : v = i := by
        refine anyE_inv (ps := y.2) ?_
        rw [hv]
        exact congrArg some (Prod.ext h1.symm rfl)
      subst hpv
      simp [execOp, hop, hit, hrun, Result.andThen]
      exact hK' _ _ (hMore s v w' cnt' hs hk hlk hrg hlt hgr hsz hen)
/-! what is put into a sorted map -/
theorem vDel_none {s : List UInt8} {l : VL} (h : ∀ p ∈ l, p.1 ≠ s) : vDel s l = l := List.filter_eq_self.2 fun p hp => by simpa using h p hp
end Go.Proofs.YtoenijflijfogaaGreat

/- A drawn region's walk may hold on to more, as it goes on. -/
namespace Go.Proofs.YtoenijflijfogaaGreat
open Go.RowKit

end Go.Proofs.YtoenijflijfogaaGreat

/- The walk of KeyTotal. -/
namespace Go.Proofs.YtoenijflijfogaaGreat
open Go.RowKit

theorem less_tr (l : List UInt8) : ∀ m n, Op.bytesLess l m = true → Op.bytesLess m n = true → Op.bytesLess l n = true := by
  induction l with
  | nil => intro m n h1 h2; cases n with
    | nil => cases m <;> simp [Op.bytesLess] at h2
    | cons z n => rfl
  | cons x l ih =>
    intro m n h1 h2
    cases m with
    | nil => simp [Op.bytesLess] at h1
    | cons y m =>
      cases n with
      | nil => simp [Op.bytesLess] at h2
      | cons z n =>
        rcases Nat.lt_trichotomy x.toNat y.toNat with a | a | a
        · rcases Nat.lt_trichotomy y.toNat z.toNat with b | b | b
          · exact less_lt _ _ (by omega)
          · exact less_lt _ _ (by omega)
          · rw [less_gt _ _ b] at h2; simp at h2
        · obtain rfl := u8_eq a
          rcases Nat.lt_trichotomy x.toNat z.toNat with b | b | b
          · exact less_lt _ _ b
          · obtain rfl := u8_eq b
            rw [less_same] at h1 h2 ⊢; exact ih m n h1 h2
          · rw [less_gt _ _ b] at h2; simp at h2
        · rw [less_gt _ _ a] at h1; simp at h1
theorem cmpL_less (L M : List ByteArray) : Op.bytesLess (jn L) (jn M) = decide (cmpL L M < 0) := by
  unfold jn
  rw [jb_less]
  by_cases h : cmpL L M = 0
  · rw [if_pos h, h]; rfl
  · rw [if_neg h]
theorem jn_inj {L M : List ByteArray} (h : jn L = jn M) : L = M := (jb_inj L M [] [] h).1
end Go.Proofs.YtoenijflijfogaaGreat

/- The contracts of slices.swapRangeCmpFunc and rotateCmpFunc of items (written by mkfl17.py). -/
namespace Go.Proofs.YtoenijflijfogaaGreat
open Go.RowKit Go.Shelf

/-- The nine cells of an item. -/
def NineAt (V : World) (g o : Nat) (P : It) (pa : Option Addr) (pn pc : Nat) : Prop :=
  V.cell? ⟨g, o, none⟩ = some (.slice pa pn pc) ∧ V.cell? ⟨g, o + 1, none⟩ = some (.int .i64 P.f) ∧ V.cell? ⟨g, o + 2, none⟩ = some (.int .i64 (P.g : Int)) ∧ V.cell? ⟨g, o + 3, none⟩ = some (.int .u64 P.a.c) ∧ V.cell? ⟨g, o + 4, none⟩ = some (.bool P.a.o) ∧ V.cell? ⟨g, o + 5, none⟩ = some (.int .i64 (hi P.a.s)) ∧ V.cell? ⟨g, o + 6, none⟩ = some (.int .u64 (lo P.a.s)) ∧ V.cell? ⟨g, o + 7, none⟩ = some (.int .i64 P.a.mn) ∧ V.cell? ⟨g, o + 8, none⟩ = some (.int .i64 P.a.mx)
theorem PmI.nine {w : World} {base g n cap : Nat} {its0 l : List It} {W : World} (h : PmI w base g n cap its0 l W) {X : Nat} (hX : X < n) : ∃ (P : It) (pa : Option Addr) (pn pc : Nat), l[X]? = some P ∧ c9 P = [.slice pa pn pc, .int .i64 P.f, .int .i64 (P.g : Int), .int .u64 P.a.c, .bool P.a.o, .int .i64 (hi P.a.s), .int .u64 (lo P.a.s), .int .i64 P.a.mn, .int .i64 P.a.mx] ∧ ∀ V, Below W.heap.size W V → NineAt V g (X * 9) P pa pn pc := by
  have hl := h.len
  have hXl : X < l.length := by omega
  obtain ⟨pa, pc, hpv, _⟩ := (h.s l[X] (List.getElem_mem hXl)).1.form
  refine ⟨l[X], pa, l[X].D.length, pc, List.getElem?_eq_getElem hXl, by unfold c9; rw [hpv], fun V hV => ?_⟩
  have hgl : g < W.heap.size := (World.ownsRow.lt h.r g rfl).2
  have q := fun t (ht : t < 9) => (hV.cell (p := ⟨g, X * 9 + t, none⟩) hgl).trans (h.cells hXl ht)
  have q0 := q 0 (by decide)
  simp only [c9, List.getElem_cons_zero, Nat.add_zero] at q0
  rw [hpv] at q0
  exact ⟨q0, q 1 (by decide), q 2 (by decide), q 3 (by decide), q 4 (by decide), q 5 (by decide), q 6 (by decide), q 7 (by decide), q 8 (by decide)⟩
end Go.Proofs.YtoenijflijfogaaGreat
