/- RI MG15 MG16 MG18, joined. -/
import Derived.Test.YtiamjcgfmfbnoaaQG3
import Derived.Test.YtiamjcgfmfbnoaaQG8
import Derived.Test.YtiamjcgfmfbnoaaQG19
import Derived.Lib.SmallJoins
import Derived.BigQuiet
import Derived.Deep.QuietTactic
/- A drawn region by what each of its operations yields, in whatever order they come: one goal for each operation. -/
namespace Go.Proofs.Ytiamjcgfmfbnoaa
open Go.RowKit

/-- How many have not come up. -/
def unl : List Bool → Nat
  | [] => 0
  | b :: l => (if b then 0 else 1) + unl l
theorem unl_set : ∀ (l : List Bool) (i : Nat), l[i]? = some false → unl (l.set i true) + 1 = unl l
  | [], i, h => by simp at h
  | b :: l, 0, h => by simp at h; subst h; simp [unl]; omega
  | b :: l, i + 1, h => by
    simp at h
    have := unl_set l i (by simpa using h)
    simp only [List.set_cons_succ, unl]; omega
theorem unl_zero : ∀ (l : List Bool) (i : Nat), unl l = 0 → l[i]? ≠ some false
  | [], i, _ => by simp
  | b :: l, 0, h => by
    intro e; simp at e; subst e; simp [unl] at h
  | b :: l, i + 1, h => by
    simp only [unl] at h
    have := unl_zero l i (by omega)
    simpa using this
theorem getD_false {listed : Array Bool} {i : Nat} (h : listed.getD i true = false) : listed.toList[i]? = some false := by
  rcases Nat.lt_or_ge i listed.size with hl | hl
  · simp [hl] at h; simp [hl, h]
  · simp [Array.getElem?_eq_none hl] at h
theorem unl_rep : ∀ n, unl (List.replicate n false) = n
  | 0 => rfl
  | n + 1 => by rw [List.replicate_succ, unl, unl_rep n]; simp; omega
theorem wpAny_inv {P : Program} {md : Region.Mode} {ops : Array Oper} {Q : Exit → Act → World → Prop} (I : Array Bool → Act → World → Prop)
    (step : ∀ listed a w i, I listed a w → i ∈ Region.ready md ops listed → wpOp P ops Q i (I (listed.setIfInBounds i true)) a w)
    (done : ∀ listed a w, I listed a w → Region.ready md ops listed = [] → Q .normal a w) :
    ∀ (fuel : Nat) (listed : Array Bool) (a : Act) (w : World), unl listed.toList ≤ fuel → I listed a w → wpAny P md ops Q fuel listed a w
  | 0, listed, a, w, hf, hI => by
    have hr : Region.ready md ops listed = [] := by
      rw [List.eq_nil_iff_forall_not_mem]
      intro i hi
      exact unl_zero _ i (by omega) (getD_false (mem_ready.1 hi).1)
    exact ⟨hr, done _ _ _ hI hr⟩
  | fuel + 1, listed, a, w, hf, hI => ⟨done _ _ _ hI, fun i hi => wpOp_mono (fun a' w' h' => wpAny_inv I step done fuel _ a' w' (by
      have := unl_set _ i (getD_false (mem_ready.1 hi).1)
      simp only [Array.toList_setIfInBounds]; omega) h') (step _ _ _ i hI hi)⟩

def upd (f : Nat → Value) (d : Nat) (v : Value) : Nat → Value := fun k => cond (Nat.beq k d) v (f k)
theorem upd_same (f : Nat → Value) (d : Nat) (v : Value) : upd f d v d = v := by simp [upd]
theorem upd_ne (f : Nat → Value) {d k : Nat} (v : Value) (h : k ≠ d) : upd f d v k = f k := by
  unfold upd
  have : Nat.beq k d = false := by
    cases e : Nat.beq k d
    · rfl
    · exact absurd (Nat.eq_of_beq_eq_true e) h
  rw [this]; rfl
/-- A frame with open slots. -/
def tmOf (D : List Nat) (f : Nat → Value) : Nat → List Value → List Value
  | _, [] => []
  | k, x :: xs => cond (D.contains k) (f k) x :: tmOf D f (k + 1) xs
def frF (D : List Nat) (a0 : Act) (f : Nat → Value) : Act := ⟨(tmOf D f 0 a0.tmps.toList).toArray, a0.defers⟩
theorem tmOf_self (D : List Nat) (g : Nat → Value) : ∀ (l : List Value) (k : Nat), (∀ j (h : j < l.length), g (k + j) = l[j]) → tmOf D g k l = l
  | [], _, _ => rfl
  | x :: l, k, h => by
    have h0 := h 0 (by simp)
    simp at h0
    rw [tmOf, tmOf_self D g l (k + 1) (fun j hj => by have := h (j + 1) (by simpa using hj); simpa [Nat.add_assoc, Nat.add_comm 1 j] using this), h0]
    cases D.contains k <;> rfl
theorem frF_self (D : List Nat) (a0 : Act) : frF D a0 (fun k => a0.tmps.getD k undef) = a0 := by
  unfold frF
  rw [tmOf_self D _ _ 0 (fun j hj => by
    have hj' : j < a0.tmps.size := by simpa using hj
    simp [hj'])]
theorem tmOf_upd_lt (D : List Nat) (f : Nat → Value) (d : Nat) (v : Value) : ∀ (l : List Value) (k : Nat), d < k → tmOf D (upd f d v) k l = tmOf D f k l
  | [], _, _ => rfl
  | x :: l, k, h => by rw [tmOf, tmOf, tmOf_upd_lt D f d v l (k + 1) (by omega), upd_ne f v (by omega)]
theorem tmOf_upd (D : List Nat) (f : Nat → Value) (d : Nat) (v : Value) (hd : D.contains d = true) : ∀ (l : List Value) (k : Nat), k ≤ d → tmOf D (upd f d v) k l = (tmOf D f k l).set (d - k) v
  | [], _, _ => rfl
  | x :: l, k, h => by
    rcases Nat.lt_or_eq_of_le h with h1 | h1
    · rw [tmOf, tmOf, tmOf_upd D f d v hd l (k + 1) (by omega), upd_ne f v (by omega), show d - k = (d - (k + 1)) + 1 by omega, List.set_cons_succ]
    · subst h1
      rw [tmOf, tmOf, tmOf_upd_lt D f k v l (k + 1) (by omega), upd_same, Nat.sub_self, List.set_cons_zero, hd]; rfl
theorem tmOf_out (D : List Nat) (f : Nat → Value) (d : Nat) (v : Value) (hd : D.contains d = false) : ∀ (l : List Value) (k : Nat), tmOf D (upd f d v) k l = tmOf D f k l
  | [], _ => rfl
  | x :: l, k => by
    rw [tmOf, tmOf, tmOf_out D f d v hd l (k + 1)]
    by_cases e : k = d
    · subst e; rw [hd]; rfl
    · rw [upd_ne f v e]
/-- Where an operation's value lies. -/
def dstO (o : Oper) (j : Nat) : Nat := match o.dst with | some d => d | none => 1000 + j
def dstN (ops : Array Oper) (j : Nat) : Nat := match ops[j]? with | some o => dstO o j | none => 0
/-- What it waits for. -/
def depsO (md : Region.Mode) (o : Oper) : List Nat := (o.after.toList.filter fun e => Region.binds md e).map (·.on)
def okO (D : List Nat) (md : Region.Mode) (o : Oper) (j : Nat) : Bool := (match o.dst with | some d => D.contains d | none => !D.contains (1000 + j)) && (depsO md o).all (fun k => decide (k < j))
def okOs (D : List Nat) (md : Region.Mode) : List Oper → Nat → Bool
  | [], _ => true
  | o :: l, j => okO D md o j && okOs D md l (j + 1)
def dsts : List Oper → Nat → List Nat
  | [], _ => []
  | o :: l, j => dstO o j :: dsts l (j + 1)
def nodupB : List Nat → Bool
  | [] => true
  | x :: l => !l.contains x && nodupB l
theorem okOs_at {D : List Nat} {md : Region.Mode} : ∀ (l : List Oper) (k : Nat), okOs D md l k = true → ∀ j (h : j < l.length), okO D md l[j] (k + j) = true
  | [], _, _, j, h => by simp at h
  | o :: l, k, h0, j, h => by
    simp only [okOs, Bool.and_eq_true] at h0
    cases j with
    | zero => exact h0.1
    | succ j => have := okOs_at l (k + 1) h0.2 j (by simpa using h); simpa [Nat.add_assoc, Nat.add_comm 1 j] using this
theorem dsts_len : ∀ (l : List Oper) (k : Nat), (dsts l k).length = l.length
  | [], _ => rfl
  | _ :: l, k => by simp [dsts, dsts_len l (k + 1)]
theorem dsts_at : ∀ (l : List Oper) (k j : Nat) (h : j < l.length), (dsts l k)[j]'(by rw [dsts_len]; exact h) = dstO l[j] (k + j)
  | o :: l, k, 0, _ => rfl
  | o :: l, k, j + 1, h => by
    have := dsts_at l (k + 1) j (by simpa using h)
    simp only [dsts, List.getElem_cons_succ]
    rw [this, Nat.add_assoc, Nat.add_comm 1 j]
theorem nodupB_ne : ∀ (l : List Nat), nodupB l = true → ∀ i j (hi : i < l.length) (hj : j < l.length), i ≠ j → l[i] ≠ l[j]
  | [], _, i, _, hi, _, _ => by simp at hi
  | x :: l, h, i, j, hi, hj, hne => by
    simp only [nodupB, Bool.and_eq_true, Bool.not_eq_true', List.contains_eq_mem, decide_eq_false_iff_not] at h
    match i, j, hi, hj, hne with
    | 0, 0, _, _, hne => exact absurd rfl hne
    | 0, j + 1, _, hj, _ =>
      intro e
      simp only [List.getElem_cons_zero, List.getElem_cons_succ] at e
      exact h.1 (by rw [e]; exact List.getElem_mem _)
    | i + 1, 0, hi, _, _ =>
      intro e
      simp only [List.getElem_cons_zero, List.getElem_cons_succ] at e
      exact h.1 (by rw [← e]; exact List.getElem_mem _)
    | i + 1, j + 1, hi, hj, hne => exact nodupB_ne l h.2 i j (by simpa using hi) (by simpa using hj) (by omega)
section
variable {P : Program} {ops : Array Oper} {Q : Exit → Act → World → Prop} (D : List Nat) (a0 : Act) (w0 : World) (R : World → World → Prop) (V : Nat → Value → World → Prop)
/-- Each of these operations, once, wherever it comes. -/
def AllSt (P : Program) (ops : Array Oper) (Q : Exit → Act → World → Prop) (is : List Nat) : Prop :=
  ∀ i ∈ is, ∀ o, ops[i]? = some o → ∀ f w, Below w0.heap.size w0 w → (∀ j ∈ depsO .any o, V j (f (dstN ops j)) w) →
    wpOp P ops Q i (fun a' w' => ∃ v, a' = (frF D a0 f).put o.dst v ∧ Below w0.heap.size w w' ∧ R w w' ∧ V i v w') (frF D a0 f) w
variable {D a0 w0 R V}
theorem AllSt.nil : AllSt D a0 w0 R V P ops Q [] := fun i h => by cases h
theorem AllSt.cons {i : Nat} {o : Oper} {ds : List Nat} {is : List Nat} (ho : ops[i]? = some o) (hds : depsO .any o = ds)
    (h : ∀ (f : Nat → Value) (w : World) (K : Act → World → Prop), Hid (Below w0.heap.size w0 w) → (∀ j ∈ ds, V j (f (dstN ops j)) w) →
      Shut (∀ v w', Below w0.heap.size w w' → R w w' → V i v w' → K ((frF D a0 f).put o.dst v) w') →
      if Region.wanted o (yielded ops (frF D a0 f).tmps) = true then Oper.wp P o (frF D a0 f) w K Q else K ((frF D a0 f).put o.dst undef) w)
    (hs : AllSt D a0 w0 R V P ops Q is) : AllSt D a0 w0 R V P ops Q (i :: is) := fun j hj o' ho' f w hB hd => by
  rcases List.mem_cons.1 hj with rfl | hj
  · rw [ho] at ho'
    obtain rfl : o = o' := by simpa using ho'
    exact wpOp_step ho (fun K' hK => h f w K' hB (hds ▸ hd) (fun v w' h1 h2 h3 => hK _ _ ⟨v, rfl, h1, h2, h3⟩))
  · exact hs j hj o' ho' f w hB hd
/-- A drawn region. -/
theorem region_inv {id : Nat} (hm : P.follows .mixedOrders = true) (D : List Nat) (R : World → World → Prop) (V : Nat → Value → World → Prop)
    (hV : ∀ j v w w', R w w' → V j v w → V j v w') (hok : okOs D .any ops.toList 0 = true) (hnd : nodupB (dsts ops.toList 0) = true)
    (steps : AllSt D a0 w0 R V P ops Q (List.range ops.size))
    (done : ∀ f w, Below w0.heap.size w0 w → (∀ j, j < ops.size → V j (f (dstN ops j)) w) → Q .normal (frF D a0 f) w) : (Code.region id ops true).wp P Q a0 w0 := by
  refine wp_region_any hm (wpAny_inv (fun listed a w => listed.size = ops.size ∧ ∃ f, a = frF D a0 f ∧ Below w0.heap.size w0 w ∧ ∀ j, listed.getD j false = true → V j (f (dstN ops j)) w) ?_ ?_ _ _ _ _ (by simp [unl_rep]) ⟨by simp, fun k => a0.tmps.getD k undef, (frF_self D a0).symm, (Below.refl _ _).drew, fun j hj => ?_⟩)
  · rintro listed a w i ⟨hsz, f, rfl, hB, hL⟩ hi
    obtain ⟨h0, o, ho, hall⟩ := mem_ready.1 hi
    have hil : i < ops.size := (Array.getElem?_eq_some_iff.1 ho).1
    have hge : ops.toList[i]'(by simpa using hil) = o := by
      have := (Array.getElem?_eq_some_iff.1 ho).2
      simpa using this
    have hko := okOs_at _ 0 hok i (by simpa using hil)
    rw [hge, Nat.zero_add] at hko
    have hdn : dstN ops i = dstO o i := by simp [dstN, ho]
    refine wpOp_mono ?_ (steps i (List.mem_range.2 hil) o ho f w hB (fun j hj => ?_))
    · rintro a' w' ⟨v, rfl, hB', hR, hVi⟩
      refine ⟨by simp [hsz], upd f (dstN ops i) v, ?_, hB.trans hB', fun j hj => ?_⟩
      · rw [hdn]
        unfold okO at hko
        unfold dstO
        cases hd : o.dst with
        | none =>
          simp only [hd, Bool.and_eq_true, Bool.not_eq_true'] at hko
          show frF D a0 f = _
          unfold frF
          rw [tmOf_out D f _ v hko.1]
        | some d =>
          simp only [hd, Bool.and_eq_true] at hko
          show (⟨(tmOf D f 0 a0.tmps.toList).toArray.setIfInBounds d v, a0.defers⟩ : Act) = _
          unfold frF
          rw [tmOf_upd D f d v hko.1 _ 0 (Nat.zero_le _)]
          simp
      · by_cases e : j = i
        · subst e; rw [upd_same]; exact hVi
        · have hj2 : listed.getD j false = true := by
            rw [getD_set_ne false (Ne.symm e)] at hj; exact hj
          have hjl : j < ops.size := by
            rw [← hsz]
            rcases Nat.lt_or_ge j listed.size with h | h
            · exact h
            · simp [Array.getElem?_eq_none h] at hj2
          have hne : dstN ops j ≠ dstN ops i := by
            have h1 := nodupB_ne _ hnd j i (by rw [dsts_len]; simpa using hjl) (by rw [dsts_len]; simpa using hil) e
            rw [dsts_at _ 0 j (by simpa using hjl), dsts_at _ 0 i (by simpa using hil)] at h1
            simpa [dstN, hjl, hil] using h1
          rw [upd_ne f v hne]
          exact hV _ _ _ _ hR (hL j hj2)
    · unfold depsO at hj
      obtain ⟨e, he, rfl⟩ := List.mem_map.1 hj
      obtain ⟨he1, he2⟩ := List.mem_filter.1 he
      exact hL _ (hall e (by simpa using he1) (by simpa using he2))
  · rintro listed a w ⟨hsz, f, rfl, hB, hL⟩ hr
    refine done f w hB (fun j hj => hL j ?_)
    induction j using Nat.strongRecOn with
    | _ j ih =>
      cases hb : listed.getD j false with
      | true => rfl
      | false =>
        exfalso
        have hjl : j < listed.size := by omega
        have hb' : listed.getD j true = false := by simpa [hjl] using hb
        have hko := okOs_at _ 0 hok j (by simpa using hj)
        rw [Nat.zero_add] at hko
        have hmem : j ∈ Region.ready .any ops listed := by
          rw [mem_ready]
          refine ⟨hb', ops[j], by simp [hj], fun e he hbd => ?_⟩
          unfold okO at hko
          rw [Bool.and_eq_true, List.all_eq_true] at hko
          have hlt := hko.2 e.on (by
            unfold depsO
            rw [List.mem_map]
            exact ⟨e, List.mem_filter.2 ⟨by simpa using he, hbd⟩, rfl⟩)
          simp only [decide_eq_true_eq] at hlt
          exact ih e.on hlt (by omega)
        rw [hr] at hmem
        cases hmem
  · exfalso
    rcases Nat.lt_or_ge j ops.size with h | h
    · simp [h] at hj
    · simp [h] at hj
end
end Go.Proofs.Ytiamjcgfmfbnoaa

/- What the fixed calls of layer 14's 'alive' come to. -/
namespace Go.Proofs.Ytiamjcgfmfbnoaa
open Go.RowKit Go.Joins

def ag1 : Ag := ⟨1, false, 0, 0, 0⟩
theorem cn1 : CnOk ag1 := ⟨by decide, by decide⟩
/-- What is kept from one operation of a region to the next. -/
structure Rm (w w' : World) : Prop where
  s : w.heap.size ≤ w'.heap.size
  c : ∀ a v, w.cell? a = some v → w'.cell? a = some v
  h : ∀ g s, w.shape? g = some s → w'.shape? g = some s
theorem Rm.of_below {w w' : World} (h : Below w.heap.size w w') : Rm w w' := ⟨h.size, fun _ _ q => (h.cell (cell_block q).1).trans q, fun g s q => by
  have hl : g < w.heap.size := by
    rcases Nat.lt_or_ge g w.heap.size with h' | h'
    · exact h'
    · unfold World.shape? at q; rw [Array.getElem?_eq_none h'] at q; cases q
  unfold World.shape? at q ⊢
  rw [h.block g hl]; exact q⟩
theorem Reads.rm {w w' : World} {v : Value} {l : List UInt8} (h : Reads w v l) (r : Rm w w') : Reads w' v l := by
  rcases h with h | ⟨b, off, cap, h1, h2, h3, h4, h5, h6⟩
  · exact .inl h
  · exact .inr ⟨b, off, cap, h1, h2, h3, h4, Nat.lt_of_lt_of_le h5 r.s, fun j hj => r.c _ _ (h6 j hj)⟩
theorem EReads.rm {w w' : World} {v : Value} {L : List En} (h : EReads w v L) (r : Rm w w') : EReads w' v L := by
  obtain ⟨a, cap, rfl, h1, h2, h3⟩ := h
  refine ⟨a, cap, rfl, h1, h2, ?_⟩
  rcases h3 with h3 | ⟨b, off, h4, h5, h6⟩
  · exact .inl h3
  · refine .inr ⟨b, off, h4, Nat.lt_of_lt_of_le h5 r.s, fun j hj => ?_⟩
    obtain ⟨kv, g1, g2, g3⟩ := h6 j hj
    exact ⟨kv, fun i hi => r.c _ _ (g1 i hi), g2.rm r, g3⟩
/-- What an operation yields. -/
inductive Sp
  | raw (x : UInt8)
  | byt (x : UInt8)
  | agg
  | ent (x : UInt8)
  | row (x y : UInt8)
def spOk (n0 : Nat) : Sp → Value → World → Prop
  | .raw x, v, w => ∃ g, v = .slice (some ⟨g, 0, none⟩) 1 1 ∧ n0 ≤ g ∧ w.shape? g = some (5, 1) ∧ w.cell? ⟨g, 0, none⟩ = some (bc x)
  | .byt x, v, w => ∃ g, v = .slice (some ⟨g, 0, none⟩) 1 1 ∧ Reads w v [x]
  | .agg, v, _ => v = .agg #[.int .u64 1, .bool false, .int .i64 0, .int .u64 0, .int .i64 0, .int .i64 0]
  | .ent x, v, w => ∃ g, v = .agg #[.slice (some ⟨g, 0, none⟩) 1 1, .int .u64 1, .bool false, .int .i64 0, .int .u64 0, .int .i64 0, .int .i64 0] ∧ Reads w (.slice (some ⟨g, 0, none⟩) 1 1) [x]
  | .row x y, v, w => ∃ g, v = .slice (some ⟨g, 0, none⟩) 2 2 ∧ EReads w v [([x], ag1), ([y], ag1)]
theorem spOk.rm {n0 : Nat} (s : Sp) (v : Value) (w w' : World) (r : Rm w w') (h : spOk n0 s v w) : spOk n0 s v w' := by
  cases s with
  | raw x => obtain ⟨g, h1, h2, h3, h4⟩ := h; exact ⟨g, h1, h2, r.h _ _ h3, r.c _ _ h4⟩
  | byt x => obtain ⟨g, h1, h2⟩ := h; exact ⟨g, h1, h2.rm r⟩
  | agg => exact h
  | ent x => obtain ⟨g, h1, h2⟩ := h; exact ⟨g, h1, h2.rm r⟩
  | row x y => obtain ⟨g, h1, h2⟩ := h; exact ⟨g, h1, h2.rm r⟩
def frz : Obj → Obj
  | .cells c e (lo, hi) => .cells c e (if (lo == hi) = true then (1, 2) else (min lo 1, max hi 2))
  | o => o
theorem freeze_heap (w : World) (g k : Nat) : (w.freeze ⟨g, 1, none⟩ 1).heap[k]? = if g = k then (w.heap[k]?).map frz else w.heap[k]? := by
  unfold World.freeze
  rw [if_neg (by decide)]
  show (w.heap.modify g _)[k]? = _
  rw [Array.getElem?_modify]
  rfl
/-- The mark of a constant text's bytes. -/
theorem run_mark {w : World} {g : Nat} (h : w.shape? g = some (5, 1)) : ∃ w', (convert 36 36 (.slice (some ⟨g, 0, none⟩) 1 1)).run Try.prog w = .ok (.slice (some ⟨g, 0, none⟩) 1 1) w' ∧ Rm w w' ∧ ∀ B, B ≤ g → Below B w w' := by
  refine ⟨w.freeze ⟨g, 1, none⟩ 1, ?_, ?_, ?_⟩
  · simp [convert, run_underlying Try.underlying36, run_underlying Try.underlying5, markStringish, h]
  · refine ⟨by simp [World.freeze], fun a v q => ?_, fun k s q => ?_⟩
    · unfold World.cell? at q ⊢
      rw [freeze_heap]
      cases hk : w.heap[a.block]? with
      | none => rw [hk] at q; cases q
      | some o =>
        rw [hk] at q
        by_cases e : g = a.block
        · rw [if_pos e]
          cases o with
          | cells c el fr =>
            obtain ⟨f1, f2⟩ := fr
            exact q
          | _ => cases q
        · rw [if_neg e]; exact q
    · unfold World.shape? at q ⊢
      rw [freeze_heap]
      cases hk : w.heap[k]? with
      | none => rw [hk] at q; cases q
      | some o =>
        rw [hk] at q
        by_cases e : g = k
        · rw [if_pos e]
          cases o with
          | cells c el fr =>
            obtain ⟨f1, f2⟩ := fr
            exact q
          | _ => cases q
        · rw [if_neg e]; exact q
  · intro B hB
    exact ⟨rfl, rfl, rfl, by simp [World.freeze], fun k hk => by rw [freeze_heap, if_neg (by omega)]⟩
theorem two_rows (w : World) (kv kv' : Value) (x y : UInt8) (h : Reads w kv [x]) (h' : Reads w kv' [y]) : EReads (w.alloc (.cells #[kv, .int .u64 1, .bool false, .int .i64 0, .int .u64 0, .int .i64 0, .int .i64 0, kv', .int .u64 1, .bool false, .int .i64 0, .int .u64 0, .int .i64 0, .int .i64 0] 43)) (.slice (some ⟨w.heap.size, 0, none⟩) 2 2) [([x], ag1), ([y], ag1)] := by
  have hb := (Below.refl w.heap.size w).alloc (Nat.le_refl _) (.cells #[kv, .int .u64 1, .bool false, .int .i64 0, .int .u64 0, .int .i64 0, .int .i64 0, kv', .int .u64 1, .bool false, .int .i64 0, .int .u64 0, .int .i64 0, .int .i64 0] 43)
  refine ⟨_, 2, rfl, by simp, by simp [maxLen], .inr ⟨w.heap.size, 0, rfl, by simp, fun j hj => ?_⟩⟩
  have hj2 : j < 2 := hj
  match j, hj2 with
  | 0, _ =>
    refine ⟨kv, fun i hi => ?_, h.below hb, cn1⟩
    rw [cell_of_block (heap_alloc_new _ _)]
    match i, hi with
    | 0, _ | 1, _ | 2, _ | 3, _ | 4, _ | 5, _ | 6, _ => rfl
  | 1, _ =>
    refine ⟨kv', fun i hi => ?_, h'.below hb, cn1⟩
    rw [cell_of_block (heap_alloc_new _ _)]
    match i, hi with
    | 0, _ | 1, _ | 2, _ | 3, _ | 4, _ | 5, _ | 6, _ => rfl
def alS : List Sp := [.raw 97, .byt 97, .agg, .ent 97, .raw 99, .byt 99, .agg, .ent 99, .row 97 99, .raw 98, .byt 98, .agg, .ent 98, .raw 99, .byt 99, .agg, .ent 99, .row 98 99, .row 97 99, .row 98 99]
/-- The rows of 'alive'. -/
def alR : List (List En) := [[([97], ag1), ([99], ag1)], [([98], ag1), ([99], ag1)]]
theorem alR_ok : rowsF alR = 0 := by decide
theorem alR_len : ∀ r ∈ alR, r.length ≤ 100000 := by decide
theorem alR_key : ∀ r ∈ alR, ∀ x ∈ r, x.1.length ≤ 100000 := by
  intro r hr x hx
  simp only [alR, List.mem_cons, List.not_mem_nil, or_false] at hr
  rcases hr with rfl | rfl <;> (simp only [List.mem_cons, List.not_mem_nil, or_false] at hx; rcases hx with rfl | rfl <;> decide)
theorem alR_seq : seqF alR = [(([97], 0), ag1), (([98], 1), ag1), (([99], 0), ag1), (([99], 1), ag1)] := by
  refine pw_unique (seqF_pw alR_ok) ?_ ((srtG_perm _).trans ?_)
  · simp only [List.pairwise_cons, List.Pairwise.nil, List.mem_cons, List.not_mem_nil, or_false, and_true]
    unfold ltG
    refine ⟨?_, ?_, ?_, ?_⟩
    · rintro a (rfl | rfl | rfl) <;> decide
    · rintro a (rfl | rfl) <;> decide
    · rintro a rfl; decide
    · intro a h; cases h
  · exact List.Perm.cons _ (List.Perm.swap _ _ _)
theorem alR_all : allF alR = [([97], ag1), ([98], ag1), ([99], mrg ag1 ag1)] := by unfold allF; rw [alR_seq]; rfl
theorem three_of {α : Type} : ∀ {xs : List α}, xs.length = 3 → ∃ a b c, xs = [a, b, c]
  | [a, b, c], _ => ⟨a, b, c, rfl⟩
theorem two_lists {w : World} {a b : Value} {L M : List En} (ha : EReads w a L) (hb : EReads w b M) : RReads (w.alloc (.cells #[a, b] 25)) (.slice (some ⟨w.heap.size, 0, none⟩) 2 2) [L, M] := by
  have hbl := (Below.refl w.heap.size w).alloc (Nat.le_refl _) (.cells #[a, b] 25)
  refine ⟨_, 2, rfl, by simp, by simp [maxLen], .inr ⟨w.heap.size, 0, rfl, by simp, fun j hj => ?_⟩⟩
  have hj2 : j < 2 := hj
  match j, hj2 with
  | 0, _ => exact ⟨a, by rw [cell_of_block (heap_alloc_new _ _)]; rfl, ha.below hbl⟩
  | 1, _ => exact ⟨b, by rw [cell_of_block (heap_alloc_new _ _)]; rfl, hb.below hbl⟩
theorem one_list {w : World} {a : Value} {L : List En} (ha : EReads w a L) : RReads (w.alloc (.cells #[a] 25)) (.slice (some ⟨w.heap.size, 0, none⟩) 1 1) [L] := by
  have hbl := (Below.refl w.heap.size w).alloc (Nat.le_refl _) (.cells #[a] 25)
  refine ⟨_, 1, rfl, by simp, by simp [maxLen], .inr ⟨w.heap.size, 0, rfl, by simp, fun j hj => ?_⟩⟩
  have hj2 : j < 1 := hj
  match j, hj2 with
  | 0, _ => exact ⟨a, by rw [cell_of_block (heap_alloc_new _ _)]; rfl, ha.below hbl⟩
/-- Those that are none. -/
def alN : List (List En) := [[([99], ag1), ([97], ag1)]]
theorem alN_bad : rowsF alN = 50 := by decide
theorem alN_len : ∀ r ∈ alN, r.length ≤ 100000 := by decide
theorem alN_key : ∀ r ∈ alN, ∀ x ∈ r, x.1.length ≤ 100000 := by
  intro r hr x hx
  simp only [alN, List.mem_cons, List.not_mem_nil, or_false] at hr
  subst hr
  simp only [List.mem_cons, List.not_mem_nil, or_false] at hx
  rcases hx with rfl | rfl <;> decide
def alV (n0 : Nat) (j : Nat) (v : Value) (w : World) : Prop := spOk n0 (alS.getD j .agg) v w
end Go.Proofs.Ytiamjcgfmfbnoaa

/- The contract of Great. -/
namespace Go.Proofs.Ytiamjcgfmfbnoaa
open Go.RowKit

def okRow (r : List En) : Prop := r.length ≤ 60 ∧ ∀ x ∈ r, x.1.length ≤ 300
def GtPost (rs : List (List En)) (w : World) (e : Ending) (w' : World) : Prop := ∃ g : Bool, e = .returned (.bool g) ∧ (g = false → rs.length ≤ 20 ∧ ∀ r ∈ rs, okRow r) ∧ w' = w
theorem eReads_key {w : World} {a : Option Addr} {n cap : Nat} {L : List En} (h : EReads w (.slice a n cap) L) {k : Nat} (hk : k < L.length) : ∃ b off sa sc, a = some ⟨b, off, none⟩ ∧ w.cell? ⟨b, off + k * 7, none⟩ = some (.slice sa L[k].1.length sc) := by
  obtain ⟨b, off, cap', hv, _⟩ := eReads_some h (by omega)
  simp at hv
  obtain ⟨rfl, rfl, rfl⟩ := hv
  obtain ⟨kv, hc, hr, _⟩ := eReads_at h hk rfl
  obtain ⟨sa, sc, rfl, _⟩ := hr.form
  exact ⟨b, off, sa, sc, rfl, hc 0 (by decide)⟩
end Go.Proofs.Ytiamjcgfmfbnoaa

/- The contract of the reference's Same, where both lists hold the same. -/
namespace Go.Proofs.Ytiamjcgfmfbnoaa
open Go.RowKit

/-- A slice reads these entries (nothing is told of their counts). -/
def ERd (w : World) (v : Value) (L : List En) : Prop :=
  ∃ a cap, v = .slice a L.length cap ∧ L.length ≤ cap ∧ cap ≤ maxLen ∧ (L = [] ∨ ∃ b off, a = some ⟨b, off, none⟩ ∧ b < w.heap.size ∧ ∀ j (hj : j < L.length), ∃ kv, (∀ i (hi : i < 7), w.cell? ⟨b, off + j * 7 + i, none⟩ = some ((c7 ⟨kv, L[j].1, L[j].2⟩)[i]'hi)) ∧ Reads w kv L[j].1)
theorem ERd.below {w w' : World} {v : Value} {L : List En} (h : ERd w v L) (hb : Below w.heap.size w w') : ERd w' v L := by
  obtain ⟨a, cap, rfl, h1, h2, h3⟩ := h
  refine ⟨a, cap, rfl, h1, h2, ?_⟩
  rcases h3 with h3 | ⟨b, off, h4, h5, h6⟩
  · exact .inl h3
  · refine .inr ⟨b, off, h4, Nat.lt_of_lt_of_le h5 hb.size, fun j hj => ?_⟩
    obtain ⟨kv, g1, g2⟩ := h6 j hj
    exact ⟨kv, fun i hi => (hb.cell (p := ⟨b, off + j * 7 + i, none⟩) h5).trans (g1 i hi), g2.below hb⟩
theorem EReads.rd {w : World} {v : Value} {L : List En} (h : EReads w v L) : ERd w v L := by
  obtain ⟨a, cap, rfl, h1, h2, h3⟩ := h
  refine ⟨a, cap, rfl, h1, h2, ?_⟩
  rcases h3 with h3 | ⟨b, off, h4, h5, h6⟩
  · exact .inl h3
  · refine .inr ⟨b, off, h4, h5, fun j hj => ?_⟩
    obtain ⟨kv, g1, g2, g3⟩ := h6 j hj
    exact ⟨kv, fun i hi => by rw [show off + j * 7 + i = off + (7 * j + i) by omega]; exact g1 i hi, g2⟩
theorem EOwn.rd {w : World} {base : Nat} {v : Value} {xs : List Ev} (h : EOwn w base v xs) : ERd w v (xs.map evE) := by
  obtain ⟨a, cap, rfl, h1, h2, h3⟩ := h.at
  refine ⟨a, cap, by simp, by simpa using h1, h2, ?_⟩
  rcases Nat.eq_zero_or_pos xs.length with h0 | h0
  · exact .inl (by rw [List.length_eq_zero_iff.1 h0]; rfl)
  · obtain ⟨g, rfl, _, h5, h6⟩ := h3 h0
    refine .inr ⟨g, 0, rfl, h5, fun j hj => ?_⟩
    simp at hj
    have e : (xs.map evE)[j]'(by simpa using hj) = evE xs[j] := by simp
    rw [e]
    refine ⟨xs[j].kv, fun i hi => ?_, (h.2 _ (List.getElem_mem hj)).reads⟩
    rw [show 0 + j * 7 + i = 7 * j + i by omega]
    exact (h6 j hj i hi).1
set_option maxRecDepth 100000 in
set_option maxHeartbeats 2000000 in
theorem same_true (va vb : Value) (L : List En) (w : World) (hA : ERd w va L) (hB : ERd w vb L) :
    Calls Try.prog 12 #[va, vb] w fun e w' => e = .returned (.bool true) ∧ Below w.heap.size w w' := by
  obtain ⟨a, ca, rfl, hca, hma, hA3⟩ := hA
  obtain ⟨b, cb, rfl, hcb, hmb, hB3⟩ := hB
  unfold maxLen at hma hmb
  have HA3 : Hid _ := hA3
  have HB3 : Hid _ := hB3
  clear hA3 hB3
  go_enter Try.func12, Try.ntmps12
  go_wp2_with fail
  go_loopw [5] (fun i wr => ∃ k : Nat, k ≤ L.length ∧ i = .int .i64 (k : Int) ∧ Hid (Below w.heap.size w wr)) (fun i _ => L.length - (intOf i).toNat)
  case atStart => exact ⟨0, by omega, rfl, Below.refl _ _⟩
  case round =>
    obtain ⟨k, hk, rfl, HW⟩ := hrel
    by_cases hlt : k < L.length
    · obtain ⟨bA, oA, rfl, hbA, hA⟩ := HA3.out.resolve_left (fun h => by rw [h] at hlt; simp at hlt)
      obtain ⟨bB, oB, rfl, hbB, hB⟩ := HB3.out.resolve_left (fun h => by rw [h] at hlt; simp at hlt)
      obtain ⟨kv, hc, hR⟩ := hA k hlt
      obtain ⟨kv', hc', hR'⟩ := hB k hlt
      obtain ⟨X, HX⟩ := hid_ex L[k]
      rw [← HX.out] at hR hR' hc hc'
      have hq : ∀ i (hi : i < 7), wr.cell? ⟨bA, oA + k * 7 + i, none⟩ = some ((c7 ⟨kv, X.1, X.2⟩)[i]'hi) := fun i hi => (HW.out.cell (p := ⟨bA, _, none⟩) hbA).trans (hc i hi)
      have hq' : ∀ i (hi : i < 7), wr.cell? ⟨bB, oB + k * 7 + i, none⟩ = some ((c7 ⟨kv', X.1, X.2⟩)[i]'hi) := fun i hi => (HW.out.cell (p := ⟨bB, _, none⟩) hbB).trans (hc' i hi)
      obtain ⟨ak, ck, rfl, _⟩ := hR.form
      obtain ⟨al, cl, rfl, _⟩ := hR'.form
      have c0 := hq 0 (by decide)
      have c1 := hq (1 + 0) (by decide)
      have c2 := hq (1 + 1) (by decide)
      have c3 := hq (1 + 2) (by decide)
      have c4 := hq (1 + 3) (by decide)
      have c5 := hq (1 + 4) (by decide)
      have c6 := hq (1 + 5) (by decide)
      have d0 := hq' 0 (by decide)
      have d1 := hq' (1 + 0) (by decide)
      have d2 := hq' (1 + 1) (by decide)
      have d3 := hq' (1 + 2) (by decide)
      have d4 := hq' (1 + 3) (by decide)
      have d5 := hq' (1 + 4) (by decide)
      have d6 := hq' (1 + 5) (by decide)
      simp only [c7, List.getElem_cons_zero, List.getElem_cons_succ, Nat.add_zero, Nat.reduceAdd] at c0 c1 c2 c3 c4 c5 c6 d0 d1 d2 d3 d4 d5 d6
      have hq1 : ∀ n, (convert 36 9 (.slice ak X.1.length ck)).run Try.prog (wr.drewN n) = .ok (.string ⟨X.1.toArray⟩) (wr.drewN n) := fun n => reads_text (hR.below (below_drewN HW.out n))
      have hq2 : ∀ n, (convert 36 9 (.slice al X.1.length cl)).run Try.prog (wr.drewN n) = .ok (.string ⟨X.1.toArray⟩) (wr.drewN n) := fun n => reads_text (hR'.below (below_drewN HW.out n))
      clear hq hq' hc hc'
      go_wp2_with fail
      go_quiet (fail)
      have HW2 : Hid (Below w.heap.size w (wr.drewN nq)) := below_drewN HW.out nq
      clear hq1 hq2
      go_wp2_with fail
      go_roundw
      case rel => exact ⟨k + 1, by omega, by go_num, HW2⟩
      case measure => simp [intOf]; omega
    · go_wp2_with fail
      go_ret
      exact ⟨rfl, HW.out⟩
end Go.Proofs.Ytiamjcgfmfbnoaa
