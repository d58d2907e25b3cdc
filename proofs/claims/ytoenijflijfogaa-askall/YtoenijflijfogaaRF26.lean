/- AQM RS KL FL17 FL18, joined. -/
import Derived.Test.YtoenijflijfogaaRF15
import Derived.Test.YtoenijflijfogaaRF16
import Derived.Test.YtoenijflijfogaaRF24
import Derived.Test.YtoenijflijfogaaRF25
import Derived.Maps.OwnSet
import Derived.StringKeys
import Derived.Maps.RangeWalk
import Derived.Maps.Ext
import Derived.Test.YtoenijflijfogaaRows
import Derived.WalkKit
import Derived.Deep.RegionHeld3
/- Maps of texts to values of any type, plainly. -/
namespace Go.Proofs.Ytoenijflijfogaa
open Go.RowKit Go.Maps

/-- A map of texts, plainly: its entries in the order of their texts. -/
abbrev VL := List (List UInt8 × Value)
def vIns (x : List UInt8 × Value) : VL → VL
  | [] => [x]
  | y :: r => if bytesBefore x.1 y.1 then x :: y :: r else y :: vIns x r
def vDel (s : List UInt8) (l : VL) : VL := l.filter fun p => !(p.1 == s)
def vPut (x : List UInt8 × Value) (l : VL) : VL := vIns x (vDel x.1 l)
def vLook (s : List UInt8) (l : VL) : Option Value := (l.find? fun p => p.1 == s).map (·.2)
def vE (p : List UInt8 × Value) : Lit × DataW Value := (.string p.1, .held p.2)
def vD (l : VL) : DataW Value := .map (l.map vE)
def anyE (v : Value) : Option (DataW Value × List MemPlace) := some (.held v, [])
theorem vE_ins (x : List UInt8 × Value) : ∀ l : VL, (vIns x l).map vE = DataW.insert (vE x) (l.map vE)
  | [] => rfl
  | y :: r => by
    have ih := vE_ins x r
    rw [vIns, List.map_cons, DataW.insert]
    have e : (vE x).1.before (vE y).1 = bytesBefore x.1 y.1 := rfl
    rw [e]
    split
    · rfl
    · rw [List.map_cons, ih]
theorem vE_del (s : List UInt8) : ∀ l : VL, (vDel s l).map vE = (l.map vE).filter (fun p => !p.1.sameKey (.string s))
  | [] => rfl
  | y :: r => by
    have ih := vE_del s r
    have e : (vE y).1.sameKey (.string s) = (y.1 == s) := rfl
    unfold vDel at ih ⊢
    rw [List.map_cons, List.filter_cons, List.filter_cons, e]
    split
    · rw [List.map_cons, ih]
    · exact ih
theorem vD_put (x : List UInt8 × Value) (l : VL) : (vD l).put (.string x.1) (.held x.2) = vD (vPut x l) := by
  unfold vD vPut; rw [vE_ins, vE_del]; rfl
theorem vE_find (s : List UInt8) : ∀ l : VL, (l.map vE).find? (fun p => p.1.sameKey (.string s)) = (l.find? fun p => p.1 == s).map vE
  | [] => rfl
  | y :: r => by
    have ih := vE_find s r
    have e : (vE y).1.sameKey (.string s) = (y.1 == s) := rfl
    rw [List.map_cons, List.find?_cons, List.find?_cons, e]
    split
    · rfl
    · exact ih
theorem vD_at (s : List UInt8) (l : VL) (z : DataW Value) : (vD l).atKey (.string s) z = match vLook s l with | none => z | some v => .held v := by
  unfold vD vLook DataW.atKey
  simp only [vE_find]
  cases l.find? fun p => p.1 == s <;> rfl
theorem vD_has (s : List UInt8) (l : VL) : Maps.has (vD l) (.string s) = (vLook s l).isSome := by
  unfold vD vLook
  rw [Maps.has_eq]
  induction l with
  | nil => rfl
  | cons y r ih =>
    have e : (vE y).1.sameKey (.string s) = (y.1 == s) := rfl
    rw [List.map_cons, List.any_cons, List.find?_cons, e]
    cases h : y.1 == s with
    | true => rfl
    | false => simpa using ih
theorem vD_size (l : VL) : Maps.size (vD l) = l.length := by unfold vD; rw [Maps.size_eq, List.length_map]
theorem anyE_inv {v : Value} {d : Value} {ps : List MemPlace} (h : anyE v = some (.held d, ps)) : v = d := by
  unfold anyE at h
  simp only [Option.some.injEq, Prod.mk.injEq, DataW.held.injEq] at h
  exact h.1
theorem keyedS : Keyed Try.prog 9 := string_keyed Try.underlying9
theorem keyS (s : List UInt8) (h : s.length ≤ maxLen) : keyOf Try.prog 9 (.string ⟨s.toArray⟩) = some (.string s) := by
  have := WideMaps.keyOf_string_mk (P := Try.prog) Try.underlying9 (s := ⟨s.toArray⟩) (by simpa [ByteArray.size] using h)
  simpa using this
theorem keyS_inv {key : Value} {kl : Lit} (h : keyOf Try.prog 9 key = some kl) : ∃ s : List UInt8, key = .string ⟨s.toArray⟩ ∧ kl = .string s ∧ s.length ≤ maxLen := by
  rw [keyOf_string Try.underlying9] at h
  cases key <;> simp [mapKey, Try.underlying9] at h
  obtain ⟨h1, rfl⟩ := h
  rename_i b
  obtain ⟨d⟩ := b
  exact ⟨d.toList, by rw [Array.toArray_toList], rfl, by simpa [ByteArray.size] using h1⟩
theorem bb_le : ∀ (a b : List UInt8), bytesBefore a b = true → a ≤ b
  | [], b, _ => by simp
  | _ :: _, [], h => by simp [bytesBefore] at h
  | x :: a, y :: b, h => by
    simp only [bytesBefore, Bool.or_eq_true, decide_eq_true_eq, Bool.and_eq_true, beq_iff_eq] at h
    rcases h with h | ⟨rfl, h⟩
    · exact List.le_of_lt (List.cons_lt_cons_iff.2 (.inl h))
    · exact List.cons_le_cons_iff.2 (.inr ⟨rfl, bb_le a b h⟩)
/-- A map of texts in memory. -/
def VMap (w : World) (m : Nat) (l : VL) : Prop := w.ownsMap Try.prog 9 anyE m l.length (vD l)
theorem VMap.of {w : World} {m n : Nat} {l : VL} {D : DataW Value} (h : w.ownsMap Try.prog 9 anyE m n D) (hD : D = vD l) : VMap w m l := by
  subst hD
  obtain ⟨es, clock, h1, h2, h3, h4⟩ := h
  refine ⟨es, clock, h1, h2, ?_, h4⟩
  have := vD_size l
  rw [h4, Maps.size_eq, length_read] at this
  omega
theorem VMap.keep {w w' : World} {m : Nat} {l : VL} (h : VMap w m l) (hk : w'.heap[m]? = w.heap[m]?) : VMap w' m l := by
  obtain ⟨es, clock, h1, r⟩ := h
  exact ⟨es, clock, hk.trans h1, r⟩
theorem VMap.isMap {w : World} {m : Nat} {l : VL} (h : VMap w m l) : ∃ es clock, w.heap[m]? = some (.map es clock) := by
  obtain ⟨es, clock, h1, _⟩ := h
  exact ⟨es, clock, h1⟩
theorem VMap.apart {w : World} {m : Nat} {l : VL} (h : VMap w m l) : l.Pairwise (fun p q => bytesBefore p.1 q.1 = true) := by
  obtain ⟨es, he, hp, _⟩ := World.ownsMap.canon h keyedS
  unfold vD at he
  cases he
  exact (List.pairwise_map.1 hp)
theorem VMap.new (w : World) : VMap (w.alloc (.map #[] 0)) w.heap.size [] := World.ownsMap_made _ _ _ _
/-- A look into a map: the value, or the elements' zero value. -/
theorem VMap.look {w : World} {m : Nat} {l : VL} (h : VMap w m l) {t e : TypeId} (ht : Try.prog.underlying t = some (.map 9 e)) {z : Value} (hz : (zeroValue e).run Try.prog w = .ok z w) (s : List UInt8) (hs : s.length ≤ maxLen) :
    (Instr.lookup t (.map (some m)) (.string ⟨s.toArray⟩) false).run Try.prog w = .ok ((vLook s l).getD z) w := by
  obtain ⟨v, ps, hr, hv⟩ := World.ownsMap.lookup h keyedS ht hz (zd := .held z) (zp := []) rfl (keyS s hs)
  rw [vD_at] at hv
  rw [hr]
  cases hk : vLook s l with
  | none => rw [hk] at hv; rw [anyE_inv hv]; rfl
  | some x => rw [hk] at hv; rw [anyE_inv hv]; rfl
theorem VMap.put {w : World} {m : Nat} {l : VL} (h : VMap w m l) {t e : TypeId} (ht : Try.prog.underlying t = some (.map 9 e)) (s : List UInt8) (hs : s.length ≤ maxLen) (v : Value) (hn : l.length < maxLen) :
    ∃ w', (Instr.mapUpdate t (.map (some m)) (.string ⟨s.toArray⟩) v).run Try.prog w = .ok () w' ∧ VMap w' m (vPut (s, v) l) ∧ w.mapTurned w' m := by
  obtain ⟨w', h1, h2, h3⟩ := World.ownsMap.store h keyedS ht hn (keyS s hs) (val := v) (d := .held v) (ps := []) rfl
  exact ⟨w', h1, .of h2 (vD_put (s, v) l), h3⟩
theorem vlook_mem {s : List UInt8} {v : Value} : ∀ {l : VL}, vLook s l = some v → (s, v) ∈ l
  | y :: r, h => by
    unfold vLook at h
    rw [List.find?_cons] at h
    by_cases e : y.1 == s
    · rw [e] at h
      simp at h e
      subst h e
      simp
    · rw [Bool.not_eq_true] at e
      rw [e] at h
      exact List.mem_cons_of_mem _ (vlook_mem h)
theorem vmem_look {l : VL} (hp : l.Pairwise (fun p q => p.1 ≠ q.1)) {p : List UInt8 × Value} (h : p ∈ l) : vLook p.1 l = some p.2 := by
  induction l with
  | nil => cases h
  | cons y r ih =>
    obtain ⟨h1, h2⟩ := List.pairwise_cons.1 hp
    unfold vLook
    rw [List.find?_cons]
    rcases List.mem_cons.1 h with rfl | hm
    · simp
    · have : (y.1 == p.1) = false := by simpa using h1 p hm
      rw [this]
      exact ih h2 hm
/-- The step of a range over a map of texts. -/
theorem wpList_next_v {w : World} {ops : Array Oper} {rest : List Oper} {o : Oper} {a : Act} {Q : Exit → Act → World → Prop} (hg : o.guard = none) (it : Operand) (hop : o.op = Op.next it false) (m r n : Nat) (l : VL) (left : Lit → Bool) (cnt : Nat)
    (hit : a.eval it = .pointer (some ⟨r, 0, none⟩)) (h : w.ranges Try.prog 9 anyE m r n (vD l) left cnt)
    (hDone : (∀ kl, left kl = false) → wpList Try.prog ops Q rest (a.put o.dst (.tuple #[.bool false])) w)
    (hMore : ∀ (s : List UInt8) (v : Value) (w' : World) (cnt' : Nat), s.length ≤ maxLen → vLook s l = some v → left (.string s) = true → w'.ranges Try.prog 9 anyE m r n (vD l) (fun z => left z && !z.sameKey (.string s)) cnt' → cnt' < cnt →
      w.grownBy w' (some r) → w'.heap.size = w.heap.size → (Instr.entry (.pointer (some ⟨r, 0, none⟩))).run Try.prog w' = .ok (.tuple #[.string ⟨s.toArray⟩, v]) w' → wpList Try.prog ops Q rest (a.put o.dst (.tuple #[.bool true, .string ⟨s.toArray⟩, v])) w') :
    wpList Try.prog ops Q (o :: rest) a w := by
  refine wpList_plain hg fun K' hK' => ?_
  unfold Oper.wp
  rcases h.next keyedS o.type with ⟨h0, hl, hrun⟩ | ⟨key, v, kl, y, w', cnt', hkey, hlk, hv, hat, hrun, hrg, hlt, hgr, hsz, hen⟩
  · simp [execOp, hop, hit, hrun, Result.andThen]
    exact hK' _ _ (hDone hl)
  · obtain ⟨s, rfl, rfl, hs⟩ := keyS_inv hkey
    have h1 := hat .nil
    have h2 := hat (.lit (.bool true))
    rw [vD_at] at h1 h2
    cases hk : vLook s l with
    | none => rw [hk] at h1 h2; rw [← h1] at h2; cases h2
    | some i =>
      rw [hk] at h1
      have hpv : v = i := by
        refine anyE_inv (ps := y.2) ?_
        rw [hv]
        exact congrArg some (Prod.ext h1.symm rfl)
      subst hpv
      simp [execOp, hop, hit, hrun, Result.andThen]
      exact hK' _ _ (hMore s v w' cnt' hs hk hlk hrg hlt hgr hsz hen)
/-! what is put into a sorted map -/
theorem vDel_none {s : List UInt8} {l : VL} (h : ∀ p ∈ l, p.1 ≠ s) : vDel s l = l := List.filter_eq_self.2 fun p hp => by simpa using h p hp
end Go.Proofs.Ytoenijflijfogaa

/- A drawn region's walk may hold on to more, as it goes on. -/
namespace Go.Proofs.Ytoenijflijfogaa
open Go.RowKit

end Go.Proofs.Ytoenijflijfogaa

/- The walk of KeyTotal. -/
namespace Go.Proofs.Ytoenijflijfogaa
open Go.RowKit

theorem less_tr (l : List UInt8) : ∀ m n, Op.bytesLess l m = true → Op.bytesLess m n = true → Op.bytesLess l n = true := by
  induction l with
  | nil => intro m n h1 h2; cases n with
    | nil => cases m <;> simp [Op.bytesLess] at h2
    | cons z n => rfl
  | cons x l ih =>
    intro m n h1 h2
    cases m with
    | nil => simp [Op.bytesLess] at h1
    | cons y m =>
      cases n with
      | nil => simp [Op.bytesLess] at h2
      | cons z n =>
        rcases Nat.lt_trichotomy x.toNat y.toNat with a | a | a
        · rcases Nat.lt_trichotomy y.toNat z.toNat with b | b | b
          · exact less_lt _ _ (by omega)
          · exact less_lt _ _ (by omega)
          · rw [less_gt _ _ b] at h2; simp at h2
        · obtain rfl := u8_eq a
          rcases Nat.lt_trichotomy x.toNat z.toNat with b | b | b
          · exact less_lt _ _ b
          · obtain rfl := u8_eq b
            rw [less_same] at h1 h2 ⊢; exact ih m n h1 h2
          · rw [less_gt _ _ b] at h2; simp at h2
        · rw [less_gt _ _ a] at h1; simp at h1
theorem cmpL_less (L M : List ByteArray) : Op.bytesLess (jn L) (jn M) = decide (cmpL L M < 0) := by
  unfold jn
  rw [jb_less]
  by_cases h : cmpL L M = 0
  · rw [if_pos h, h]; rfl
  · rw [if_neg h]
theorem jn_inj {L M : List ByteArray} (h : jn L = jn M) : L = M := (jb_inj L M [] [] h).1
end Go.Proofs.Ytoenijflijfogaa

/- The contracts of slices.swapRangeCmpFunc and rotateCmpFunc of items (written by mkfl17.py). -/
namespace Go.Proofs.Ytoenijflijfogaa
open Go.RowKit Go.Shelf

/-- The nine cells of an item. -/
def NineAt (V : World) (g o : Nat) (P : It) (pa : Option Addr) (pn pc : Nat) : Prop :=
  V.cell? ⟨g, o, none⟩ = some (.slice pa pn pc) ∧ V.cell? ⟨g, o + 1, none⟩ = some (.int .i64 P.f) ∧ V.cell? ⟨g, o + 2, none⟩ = some (.int .i64 (P.g : Int)) ∧ V.cell? ⟨g, o + 3, none⟩ = some (.int .u64 P.a.c) ∧ V.cell? ⟨g, o + 4, none⟩ = some (.bool P.a.o) ∧ V.cell? ⟨g, o + 5, none⟩ = some (.int .i64 (hi P.a.s)) ∧ V.cell? ⟨g, o + 6, none⟩ = some (.int .u64 (lo P.a.s)) ∧ V.cell? ⟨g, o + 7, none⟩ = some (.int .i64 P.a.mn) ∧ V.cell? ⟨g, o + 8, none⟩ = some (.int .i64 P.a.mx)
theorem PmI.nine {w : World} {base g n cap : Nat} {its0 l : List It} {W : World} (h : PmI w base g n cap its0 l W) {X : Nat} (hX : X < n) : ∃ (P : It) (pa : Option Addr) (pn pc : Nat), l[X]? = some P ∧ c9 P = [.slice pa pn pc, .int .i64 P.f, .int .i64 (P.g : Int), .int .u64 P.a.c, .bool P.a.o, .int .i64 (hi P.a.s), .int .u64 (lo P.a.s), .int .i64 P.a.mn, .int .i64 P.a.mx] ∧ ∀ V, Below W.heap.size W V → NineAt V g (X * 9) P pa pn pc := by
  have hl := h.len
  have hXl : X < l.length := by omega
  obtain ⟨pa, pc, hpv, _⟩ := (h.s l[X] (List.getElem_mem hXl)).1.form
  refine ⟨l[X], pa, l[X].D.length, pc, List.getElem?_eq_getElem hXl, by unfold c9; rw [hpv], fun V hV => ?_⟩
  have hgl : g < W.heap.size := (World.ownsRow.lt h.r g rfl).2
  have q := fun t (ht : t < 9) => (hV.cell (p := ⟨g, X * 9 + t, none⟩) hgl).trans (h.cells hXl ht)
  have q0 := q 0 (by decide)
  simp only [c9, List.getElem_cons_zero, Nat.add_zero] at q0
  rw [hpv] at q0
  exact ⟨q0, q 1 (by decide), q 2 (by decide), q 3 (by decide), q 4 (by decide), q 5 (by decide), q 6 (by decide), q 7 (by decide), q 8 (by decide)⟩
end Go.Proofs.Ytoenijflijfogaa

/- The contract of slices.symMergeCmpFunc of items (written by mkfl17.py). -/
namespace Go.Proofs.Ytoenijflijfogaa
open Go.RowKit Go.Shelf

end Go.Proofs.Ytoenijflijfogaa
