/- A drawn region by what each of its operations yields, in whatever order they come: one goal for each operation. -/
import Derived.Test.YtdamlnpfpfpeeaaC0
namespace Go.Proofs.Ytdamlnpfpfpeeaa
open Go.RowKit

/-- How many have not come up. -/
def unl : List Bool → Nat
  | [] => 0
  | b :: l => (if b then 0 else 1) + unl l
theorem unl_set : ∀ (l : List Bool) (i : Nat), l[i]? = some false → unl (l.set i true) + 1 = unl l
  | [], i, h => by simp at h
  | b :: l, 0, h => by simp at h; subst h; simp [unl]; omega
  | b :: l, i + 1, h => by
    simp at h
    have := unl_set l i (by simpa using h)
    simp only [List.set_cons_succ, unl]; omega
theorem unl_zero : ∀ (l : List Bool) (i : Nat), unl l = 0 → l[i]? ≠ some false
  | [], i, _ => by simp
  | b :: l, 0, h => by
    intro e; simp at e; subst e; simp [unl] at h
  | b :: l, i + 1, h => by
    simp only [unl] at h
    have := unl_zero l i (by omega)
    simpa using this
theorem getD_false {listed : Array Bool} {i : Nat} (h : listed.getD i true = false) : listed.toList[i]? = some false := by
  rcases Nat.lt_or_ge i listed.size with hl | hl
  · simp [hl] at h; simp [hl, h]
  · simp [Array.getElem?_eq_none hl] at h
theorem unl_rep : ∀ n, unl (List.replicate n false) = n
  | 0 => rfl
  | n + 1 => by rw [List.replicate_succ, unl, unl_rep n]; simp; omega
theorem wpAny_inv {P : Program} {md : Region.Mode} {ops : Array Oper} {Q : Exit → Act → World → Prop} (I : Array Bool → Act → World → Prop)
    (step : ∀ listed a w i, I listed a w → i ∈ Region.ready md ops listed → wpOp P ops Q i (I (listed.setIfInBounds i true)) a w)
    (done : ∀ listed a w, I listed a w → Region.ready md ops listed = [] → Q .normal a w) :
    ∀ (fuel : Nat) (listed : Array Bool) (a : Act) (w : World), unl listed.toList ≤ fuel → I listed a w → wpAny P md ops Q fuel listed a w
  | 0, listed, a, w, hf, hI => by
    have hr : Region.ready md ops listed = [] := by
      rw [List.eq_nil_iff_forall_not_mem]
      intro i hi
      exact unl_zero _ i (by omega) (getD_false (mem_ready.1 hi).1)
    exact ⟨hr, done _ _ _ hI hr⟩
  | fuel + 1, listed, a, w, hf, hI => ⟨done _ _ _ hI, fun i hi => wpOp_mono (fun a' w' h' => wpAny_inv I step done fuel _ a' w' (by
      have := unl_set _ i (getD_false (mem_ready.1 hi).1)
      simp only [Array.toList_setIfInBounds]; omega) h') (step _ _ _ i hI hi)⟩

def upd (f : Nat → Value) (d : Nat) (v : Value) : Nat → Value := fun k => cond (Nat.beq k d) v (f k)
theorem upd_same (f : Nat → Value) (d : Nat) (v : Value) : upd f d v d = v := by simp [upd]
theorem upd_ne (f : Nat → Value) {d k : Nat} (v : Value) (h : k ≠ d) : upd f d v k = f k := by
  unfold upd
  have : Nat.beq k d = false := by
    cases e : Nat.beq k d
    · rfl
    · exact absurd (Nat.eq_of_beq_eq_true e) h
  rw [this]; rfl
/-- A frame with open slots. -/
def tmOf (D : List Nat) (f : Nat → Value) : Nat → List Value → List Value
  | _, [] => []
  | k, x :: xs => cond (D.contains k) (f k) x :: tmOf D f (k + 1) xs
def frF (D : List Nat) (a0 : Act) (f : Nat → Value) : Act := ⟨(tmOf D f 0 a0.tmps.toList).toArray, a0.defers⟩
theorem tmOf_self (D : List Nat) (g : Nat → Value) : ∀ (l : List Value) (k : Nat), (∀ j (h : j < l.length), g (k + j) = l[j]) → tmOf D g k l = l
  | [], _, _ => rfl
  | x :: l, k, h => by
    have h0 := h 0 (by simp)
    simp at h0
    rw [tmOf, tmOf_self D g l (k + 1) (fun j hj => by have := h (j + 1) (by simpa using hj); simpa [Nat.add_assoc, Nat.add_comm 1 j] using this), h0]
    cases D.contains k <;> rfl
theorem frF_self (D : List Nat) (a0 : Act) : frF D a0 (fun k => a0.tmps.getD k undef) = a0 := by
  unfold frF
  rw [tmOf_self D _ _ 0 (fun j hj => by
    have hj' : j < a0.tmps.size := by simpa using hj
    simp [hj'])]
theorem tmOf_upd_lt (D : List Nat) (f : Nat → Value) (d : Nat) (v : Value) : ∀ (l : List Value) (k : Nat), d < k → tmOf D (upd f d v) k l = tmOf D f k l
  | [], _, _ => rfl
  | x :: l, k, h => by rw [tmOf, tmOf, tmOf_upd_lt D f d v l (k + 1) (by omega), upd_ne f v (by omega)]
theorem tmOf_upd (D : List Nat) (f : Nat → Value) (d : Nat) (v : Value) (hd : D.contains d = true) : ∀ (l : List Value) (k : Nat), k ≤ d → tmOf D (upd f d v) k l = (tmOf D f k l).set (d - k) v
  | [], _, _ => rfl
  | x :: l, k, h => by
    rcases Nat.lt_or_eq_of_le h with h1 | h1
    · rw [tmOf, tmOf, tmOf_upd D f d v hd l (k + 1) (by omega), upd_ne f v (by omega), show d - k = (d - (k + 1)) + 1 by omega, List.set_cons_succ]
    · subst h1
      rw [tmOf, tmOf, tmOf_upd_lt D f k v l (k + 1) (by omega), upd_same, Nat.sub_self, List.set_cons_zero, hd]; rfl
theorem tmOf_out (D : List Nat) (f : Nat → Value) (d : Nat) (v : Value) (hd : D.contains d = false) : ∀ (l : List Value) (k : Nat), tmOf D (upd f d v) k l = tmOf D f k l
  | [], _ => rfl
  | x :: l, k => by
    rw [tmOf, tmOf, tmOf_out D f d v hd l (k + 1)]
    by_cases e : k = d
    · subst e; rw [hd]; rfl
    · rw [upd_ne f v e]
/-- Where an operation's value lies. -/
def dstO (o : Oper) (j : Nat) : Nat := match o.dst with | some d => d | none => 1000 + j
def dstN (ops : Array Oper) (j : Nat) : Nat := match ops[j]? with | some o => dstO o j | none => 0
/-- What it waits for. -/
def depsO (md : Region.Mode) (o : Oper) : List Nat := (o.after.toList.filter fun e => Region.binds md e).map (·.on)
def okO (D : List Nat) (md : Region.Mode) (o : Oper) (j : Nat) : Bool := (match o.dst with | some d => D.contains d | none => !D.contains (1000 + j)) && (depsO md o).all (fun k => decide (k < j))
def okOs (D : List Nat) (md : Region.Mode) : List Oper → Nat → Bool
  | [], _ => true
  | o :: l, j => okO D md o j && okOs D md l (j + 1)
def dsts : List Oper → Nat → List Nat
  | [], _ => []
  | o :: l, j => dstO o j :: dsts l (j + 1)
def nodupB : List Nat → Bool
  | [] => true
  | x :: l => !l.contains x && nodupB l
theorem okOs_at {D : List Nat} {md : Region.Mode} : ∀ (l : List Oper) (k : Nat), okOs D md l k = true → ∀ j (h : j < l.length), okO D md l[j] (k + j) = true
  | [], _, _, j, h => by simp at h
  | o :: l, k, h0, j, h => by
    simp only [okOs, Bool.and_eq_true] at h0
    cases j with
    | zero => exact h0.1
    | succ j => have := okOs_at l (k + 1) h0.2 j (by simpa using h); simpa [Nat.add_assoc, Nat.add_comm 1 j] using this
theorem dsts_len : ∀ (l : List Oper) (k : Nat), (dsts l k).length = l.length
  | [], _ => rfl
  | _ :: l, k => by simp [dsts, dsts_len l (k + 1)]
theorem dsts_at : ∀ (l : List Oper) (k j : Nat) (h : j < l.length), (dsts l k)[j]'(by rw [dsts_len]; exact h) = dstO l[j] (k + j)
  | o :: l, k, 0, _ => rfl
  | o :: l, k, j + 1, h => by
    have := dsts_at l (k + 1) j (by simpa using h)
    simp only [dsts, List.getElem_cons_succ]
    rw [this, Nat.add_assoc, Nat.add_comm 1 j]
theorem nodupB_ne : ∀ (l : List Nat), nodupB l = true → ∀ i j (hi : i < l.length) (hj : j < l.length), i ≠ j → l[i] ≠ l[j]
  | [], _, i, _, hi, _, _ => by simp at hi
  | x :: l, h, i, j, hi, hj, hne => by
    simp only [nodupB, Bool.and_eq_true, Bool.not_eq_true', List.contains_eq_mem, decide_eq_false_iff_not] at h
    match i, j, hi, hj, hne with
    | 0, 0, _, _, hne => exact absurd rfl hne
    | 0, j + 1, _, hj, _ =>
      intro e
      simp only [List.getElem_cons_zero, List.getElem_cons_succ] at e
      exact h.1 (by rw [e]; exact List.getElem_mem _)
    | i + 1, 0, hi, _, _ =>
      intro e
      simp only [List.getElem_cons_zero, List.getElem_cons_succ] at e
      exact h.1 (by rw [← e]; exact List.getElem_mem _)
    | i + 1, j + 1, hi, hj, hne => exact nodupB_ne l h.2 i j (by simpa using hi) (by simpa using hj) (by omega)
section
variable {P : Program} {ops : Array Oper} {Q : Exit → Act → World → Prop} (D : List Nat) (a0 : Act) (w0 : World) (R : World → World → Prop) (V : Nat → Value → World → Prop)
/-- Each of these operations, once, wherever it comes. -/
def AllSt (P : Program) (ops : Array Oper) (Q : Exit → Act → World → Prop) (is : List Nat) : Prop :=
  ∀ i ∈ is, ∀ o, ops[i]? = some o → ∀ f w, Below w0.heap.size w0 w → (∀ j ∈ depsO .any o, V j (f (dstN ops j)) w) →
    wpOp P ops Q i (fun a' w' => ∃ v, a' = (frF D a0 f).put o.dst v ∧ Below w0.heap.size w w' ∧ R w w' ∧ V i v w') (frF D a0 f) w
variable {D a0 w0 R V}
theorem AllSt.nil : AllSt D a0 w0 R V P ops Q [] := fun i h => by cases h
theorem AllSt.cons {i : Nat} {o : Oper} {ds : List Nat} {is : List Nat} (ho : ops[i]? = some o) (hds : depsO .any o = ds)
    (h : ∀ (f : Nat → Value) (w : World) (K : Act → World → Prop), Hid (Below w0.heap.size w0 w) → (∀ j ∈ ds, V j (f (dstN ops j)) w) →
      Shut (∀ v w', Below w0.heap.size w w' → R w w' → V i v w' → K ((frF D a0 f).put o.dst v) w') →
      if Region.wanted o (yielded ops (frF D a0 f).tmps) = true then Oper.wp P o (frF D a0 f) w K Q else K ((frF D a0 f).put o.dst undef) w)
    (hs : AllSt D a0 w0 R V P ops Q is) : AllSt D a0 w0 R V P ops Q (i :: is) := fun j hj o' ho' f w hB hd => by
  rcases List.mem_cons.1 hj with rfl | hj
  · rw [ho] at ho'
    obtain rfl : o = o' := by simpa using ho'
    exact wpOp_step ho (fun K' hK => h f w K' hB (hds ▸ hd) (fun v w' h1 h2 h3 => hK _ _ ⟨v, rfl, h1, h2, h3⟩))
  · exact hs j hj o' ho' f w hB hd
/-- A drawn region. -/
theorem region_inv {id : Nat} (hm : P.follows .mixedOrders = true) (D : List Nat) (R : World → World → Prop) (V : Nat → Value → World → Prop)
    (hV : ∀ j v w w', R w w' → V j v w → V j v w') (hok : okOs D .any ops.toList 0 = true) (hnd : nodupB (dsts ops.toList 0) = true)
    (steps : AllSt D a0 w0 R V P ops Q (List.range ops.size))
    (done : ∀ f w, Below w0.heap.size w0 w → (∀ j, j < ops.size → V j (f (dstN ops j)) w) → Q .normal (frF D a0 f) w) : (Code.region id ops true).wp P Q a0 w0 := by
  refine wp_region_any hm (wpAny_inv (fun listed a w => listed.size = ops.size ∧ ∃ f, a = frF D a0 f ∧ Below w0.heap.size w0 w ∧ ∀ j, listed.getD j false = true → V j (f (dstN ops j)) w) ?_ ?_ _ _ _ _ (by simp [unl_rep]) ⟨by simp, fun k => a0.tmps.getD k undef, (frF_self D a0).symm, (Below.refl _ _).drew, fun j hj => ?_⟩)
  · rintro listed a w i ⟨hsz, f, rfl, hB, hL⟩ hi
    obtain ⟨h0, o, ho, hall⟩ := mem_ready.1 hi
    have hil : i < ops.size := (Array.getElem?_eq_some_iff.1 ho).1
    have hge : ops.toList[i]'(by simpa using hil) = o := by
      have := (Array.getElem?_eq_some_iff.1 ho).2
      simpa using this
    have hko := okOs_at _ 0 hok i (by simpa using hil)
    rw [hge, Nat.zero_add] at hko
    have hdn : dstN ops i = dstO o i := by simp [dstN, ho]
    refine wpOp_mono ?_ (steps i (List.mem_range.2 hil) o ho f w hB (fun j hj => ?_))
    · rintro a' w' ⟨v, rfl, hB', hR, hVi⟩
      refine ⟨by simp [hsz], upd f (dstN ops i) v, ?_, hB.trans hB', fun j hj => ?_⟩
      · rw [hdn]
        unfold okO at hko
        unfold dstO
        cases hd : o.dst with
        | none =>
          simp only [hd, Bool.and_eq_true, Bool.not_eq_true'] at hko
          show frF D a0 f = _
          unfold frF
          rw [tmOf_out D f _ v hko.1]
        | some d =>
          simp only [hd, Bool.and_eq_true] at hko
          show (⟨(tmOf D f 0 a0.tmps.toList).toArray.setIfInBounds d v, a0.defers⟩ : Act) = _
          unfold frF
          rw [tmOf_upd D f d v hko.1 _ 0 (Nat.zero_le _)]
          simp
      · by_cases e : j = i
        · subst e; rw [upd_same]; exact hVi
        · have hj2 : listed.getD j false = true := by
            rw [getD_set_ne false (Ne.symm e)] at hj; exact hj
          have hjl : j < ops.size := by
            rw [← hsz]
            rcases Nat.lt_or_ge j listed.size with h | h
            · exact h
            · simp [Array.getElem?_eq_none h] at hj2
          have hne : dstN ops j ≠ dstN ops i := by
            have h1 := nodupB_ne _ hnd j i (by rw [dsts_len]; simpa using hjl) (by rw [dsts_len]; simpa using hil) e
            rw [dsts_at _ 0 j (by simpa using hjl), dsts_at _ 0 i (by simpa using hil)] at h1
            simpa [dstN, hjl, hil] using h1
          rw [upd_ne f v hne]
          exact hV _ _ _ _ hR (hL j hj2)
    · unfold depsO at hj
      obtain ⟨e, he, rfl⟩ := List.mem_map.1 hj
      obtain ⟨he1, he2⟩ := List.mem_filter.1 he
      exact hL _ (hall e (by simpa using he1) (by simpa using he2))
  · rintro listed a w ⟨hsz, f, rfl, hB, hL⟩ hr
    refine done f w hB (fun j hj => hL j ?_)
    induction j using Nat.strongRecOn with
    | _ j ih =>
      cases hb : listed.getD j false with
      | true => rfl
      | false =>
        exfalso
        have hjl : j < listed.size := by omega
        have hb' : listed.getD j true = false := by simpa [hjl] using hb
        have hko := okOs_at _ 0 hok j (by simpa using hj)
        rw [Nat.zero_add] at hko
        have hmem : j ∈ Region.ready .any ops listed := by
          rw [mem_ready]
          refine ⟨hb', ops[j], by simp [hj], fun e he hbd => ?_⟩
          unfold okO at hko
          rw [Bool.and_eq_true, List.all_eq_true] at hko
          have hlt := hko.2 e.on (by
            unfold depsO
            rw [List.mem_map]
            exact ⟨e, List.mem_filter.2 ⟨by simpa using he, hbd⟩, rfl⟩)
          simp only [decide_eq_true_eq] at hlt
          exact ih e.on hlt (by omega)
        rw [hr] at hmem
        cases hmem
  · exfalso
    rcases Nat.lt_or_ge j ops.size with h | h
    · simp [h] at hj
    · simp [h] at hj
end
end Go.Proofs.Ytdamlnpfpfpeeaa
