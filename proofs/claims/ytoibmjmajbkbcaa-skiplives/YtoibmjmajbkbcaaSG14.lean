/- RI RI2 SS XD1, joined. -/
import Derived.Test.YtoibmjmajbkbcaaSG1
import Derived.Test.YtoibmjmajbkbcaaSG13
import Derived.Deep.MidRow
/- A drawn region by what each of its operations yields, in whatever order they come: one goal for each operation. -/
namespace Go.Proofs.Ytoibmjmajbkbcaa
open Go.RowKit

/-- How many have not come up. -/
def unl : List Bool → Nat
  | [] => 0
  | b :: l => (if b then 0 else 1) + unl l
theorem unl_set : ∀ (l : List Bool) (i : Nat), l[i]? = some false → unl (l.set i true) + 1 = unl l
  | [], i, h => by simp at h
  | b :: l, 0, h => by simp at h; subst h; simp [unl]; omega
  | b :: l, i + 1, h => by
    simp at h
    have := unl_set l i (by simpa using h)
    simp only [List.set_cons_succ, unl]; omega
theorem unl_zero : ∀ (l : List Bool) (i : Nat), unl l = 0 → l[i]? ≠ some false
  | [], i, _ => by simp
  | b :: l, 0, h => by
    intro e; simp at e; subst e; simp [unl] at h
  | b :: l, i + 1, h => by
    simp only [unl] at h
    have := unl_zero l i (by omega)
    simpa using this
theorem getD_false {listed : Array Bool} {i : Nat} (h : listed.getD i true = false) : listed.toList[i]? = some false := by
  rcases Nat.lt_or_ge i listed.size with hl | hl
  · simp [hl] at h; simp [hl, h]
  · simp [Array.getElem?_eq_none hl] at h
theorem unl_rep : ∀ n, unl (List.replicate n false) = n
  | 0 => rfl
  | n + 1 => by rw [List.replicate_succ, unl, unl_rep n]; simp; omega
theorem wpAny_inv {P : Program} {md : Region.Mode} {ops : Array Oper} {Q : Exit → Act → World → Prop} (I : Array Bool → Act → World → Prop)
    (step : ∀ listed a w i, I listed a w → i ∈ Region.ready md ops listed → wpOp P ops Q i (I (listed.setIfInBounds i true)) a w)
    (done : ∀ listed a w, I listed a w → Region.ready md ops listed = [] → Q .normal a w) :
    ∀ (fuel : Nat) (listed : Array Bool) (a : Act) (w : World), unl listed.toList ≤ fuel → I listed a w → wpAny P md ops Q fuel listed a w
  | 0, listed, a, w, hf, hI => by
    have hr : Region.ready md ops listed = [] := by
      rw [List.eq_nil_iff_forall_not_mem]
      intro i hi
      exact unl_zero _ i (by omega) (getD_false (mem_ready.1 hi).1)
    exact ⟨hr, done _ _ _ hI hr⟩
  | fuel + 1, listed, a, w, hf, hI => ⟨done _ _ _ hI, fun i hi => wpOp_mono (fun a' w' h' => wpAny_inv I step done fuel _ a' w' (by
      have := unl_set _ i (getD_false (mem_ready.1 hi).1)
      simp only [Array.toList_setIfInBounds]; omega) h') (step _ _ _ i hI hi)⟩

def upd (f : Nat → Value) (d : Nat) (v : Value) : Nat → Value := fun k => cond (Nat.beq k d) v (f k)
theorem upd_same (f : Nat → Value) (d : Nat) (v : Value) : upd f d v d = v := by simp [upd]
theorem upd_ne (f : Nat → Value) {d k : Nat} (v : Value) (h : k ≠ d) : upd f d v k = f k := by
  unfold upd
  have : Nat.beq k d = false := by
    cases e : Nat.beq k d
    · rfl
    · exact absurd (Nat.eq_of_beq_eq_true e) h
  rw [this]; rfl
/-- A frame with open slots. -/
def tmOf (D : List Nat) (f : Nat → Value) : Nat → List Value → List Value
  | _, [] => []
  | k, x :: xs => cond (D.contains k) (f k) x :: tmOf D f (k + 1) xs
def frF (D : List Nat) (a0 : Act) (f : Nat → Value) : Act := ⟨(tmOf D f 0 a0.tmps.toList).toArray, a0.defers⟩
theorem tmOf_self (D : List Nat) (g : Nat → Value) : ∀ (l : List Value) (k : Nat), (∀ j (h : j < l.length), g (k + j) = l[j]) → tmOf D g k l = l
  | [], _, _ => rfl
  | x :: l, k, h => by
    have h0 := h 0 (by simp)
    simp at h0
    rw [tmOf, tmOf_self D g l (k + 1) (fun j hj => by have := h (j + 1) (by simpa using hj); simpa [Nat.add_assoc, Nat.add_comm 1 j] using this), h0]
    cases D.contains k <;> rfl
theorem frF_self (D : List Nat) (a0 : Act) : frF D a0 (fun k => a0.tmps.getD k undef) = a0 := by
  unfold frF
  rw [tmOf_self D _ _ 0 (fun j hj => by
    have hj' : j < a0.tmps.size := by simpa using hj
    simp [hj'])]
theorem tmOf_upd_lt (D : List Nat) (f : Nat → Value) (d : Nat) (v : Value) : ∀ (l : List Value) (k : Nat), d < k → tmOf D (upd f d v) k l = tmOf D f k l
  | [], _, _ => rfl
  | x :: l, k, h => by rw [tmOf, tmOf, tmOf_upd_lt D f d v l (k + 1) (by omega), upd_ne f v (by omega)]
theorem tmOf_upd (D : List Nat) (f : Nat → Value) (d : Nat) (v : Value) (hd : D.contains d = true) : ∀ (l : List Value) (k : Nat), k ≤ d → tmOf D (upd f d v) k l = (tmOf D f k l).set (d - k) v
  | [], _, _ => rfl
  | x :: l, k, h => by
    rcases Nat.lt_or_eq_of_le h with h1 | h1
    · rw [tmOf, tmOf, tmOf_upd D f d v hd l (k + 1) (by omega), upd_ne f v (by omega), show d - k = (d - (k + 1)) + 1 by omega, List.set_cons_succ]
    · subst h1
      rw [tmOf, tmOf, tmOf_upd_lt D f k v l (k + 1) (by omega), upd_same, Nat.sub_self, List.set_cons_zero, hd]; rfl
theorem tmOf_out (D : List Nat) (f : Nat → Value) (d : Nat) (v : Value) (hd : D.contains d = false) : ∀ (l : List Value) (k : Nat), tmOf D (upd f d v) k l = tmOf D f k l
  | [], _ => rfl
  | x :: l, k => by
    rw [tmOf, tmOf, tmOf_out D f d v hd l (k + 1)]
    by_cases e : k = d
    · subst e; rw [hd]; rfl
    · rw [upd_ne f v e]
/-- Where an operation's value lies. -/
def dstO (o : Oper) (j : Nat) : Nat := match o.dst with | some d => d | none => 1000 + j
def dstN (ops : Array Oper) (j : Nat) : Nat := match ops[j]? with | some o => dstO o j | none => 0
/-- What it waits for. -/
def depsO (md : Region.Mode) (o : Oper) : List Nat := (o.after.toList.filter fun e => Region.binds md e).map (·.on)
def okO (D : List Nat) (md : Region.Mode) (o : Oper) (j : Nat) : Bool := (match o.dst with | some d => D.contains d | none => !D.contains (1000 + j)) && (depsO md o).all (fun k => decide (k < j))
def okOs (D : List Nat) (md : Region.Mode) : List Oper → Nat → Bool
  | [], _ => true
  | o :: l, j => okO D md o j && okOs D md l (j + 1)
def dsts : List Oper → Nat → List Nat
  | [], _ => []
  | o :: l, j => dstO o j :: dsts l (j + 1)
def nodupB : List Nat → Bool
  | [] => true
  | x :: l => !l.contains x && nodupB l
theorem okOs_at {D : List Nat} {md : Region.Mode} : ∀ (l : List Oper) (k : Nat), okOs D md l k = true → ∀ j (h : j < l.length), okO D md l[j] (k + j) = true
  | [], _, _, j, h => by simp at h
  | o :: l, k, h0, j, h => by
    simp only [okOs, Bool.and_eq_true] at h0
    cases j with
    | zero => exact h0.1
    | succ j => have := okOs_at l (k + 1) h0.2 j (by simpa using h); simpa [Nat.add_assoc, Nat.add_comm 1 j] using this
theorem dsts_len : ∀ (l : List Oper) (k : Nat), (dsts l k).length = l.length
  | [], _ => rfl
  | _ :: l, k => by simp [dsts, dsts_len l (k + 1)]
theorem dsts_at : ∀ (l : List Oper) (k j : Nat) (h : j < l.length), (dsts l k)[j]'(by rw [dsts_len]; exact h) = dstO l[j] (k + j)
  | o :: l, k, 0, _ => rfl
  | o :: l, k, j + 1, h => by
    have := dsts_at l (k + 1) j (by simpa using h)
    simp only [dsts, List.getElem_cons_succ]
    rw [this, Nat.add_assoc, Nat.add_comm 1 j]
theorem nodupB_ne : ∀ (l : List Nat), nodupB l = true → ∀ i j (hi : i < l.length) (hj : j < l.length), i ≠ j → l[i] ≠ l[j]
  | [], _, i, _, hi, _, _ => by simp at hi
  | x :: l, h, i, j, hi, hj, hne => by
    simp only [nodupB, Bool.and_eq_true, Bool.not_eq_true', List.contains_eq_mem, decide_eq_false_iff_not] at h
    match i, j, hi, hj, hne with
    | 0, 0, _, _, hne => exact absurd rfl hne
    | 0, j + 1, _, hj, _ =>
      intro e
      simp only [List.getElem_cons_zero, List.getElem_cons_succ] at e
      exact h.1 (by rw [e]; exact List.getElem_mem _)
    | i + 1, 0, hi, _, _ =>
      intro e
      simp only [List.getElem_cons_zero, List.getElem_cons_succ] at e
      exact h.1 (by rw [← e]; exact List.getElem_mem _)
    | i + 1, j + 1, hi, hj, hne => exact nodupB_ne l h.2 i j (by simpa using hi) (by simpa using hj) (by omega)
section
variable {P : Program} {ops : Array Oper} {Q : Exit → Act → World → Prop} (D : List Nat) (a0 : Act) (w0 : World) (R : World → World → Prop) (V : Nat → Value → World → Prop)
/-- Each of these operations, once, wherever it comes. -/
def AllSt (P : Program) (ops : Array Oper) (Q : Exit → Act → World → Prop) (is : List Nat) : Prop :=
  ∀ i ∈ is, ∀ o, ops[i]? = some o → ∀ f w, Below w0.heap.size w0 w → (∀ j ∈ depsO .any o, V j (f (dstN ops j)) w) →
    wpOp P ops Q i (fun a' w' => ∃ v, a' = (frF D a0 f).put o.dst v ∧ Below w0.heap.size w w' ∧ R w w' ∧ V i v w') (frF D a0 f) w
variable {D a0 w0 R V}
theorem AllSt.nil : AllSt D a0 w0 R V P ops Q [] := fun i h => by cases h
theorem AllSt.cons {i : Nat} {o : Oper} {ds : List Nat} {is : List Nat} (ho : ops[i]? = some o) (hds : depsO .any o = ds)
    (h : ∀ (f : Nat → Value) (w : World) (K : Act → World → Prop), Hid (Below w0.heap.size w0 w) → (∀ j ∈ ds, V j (f (dstN ops j)) w) →
      Shut (∀ v w', Below w0.heap.size w w' → R w w' → V i v w' → K ((frF D a0 f).put o.dst v) w') →
      if Region.wanted o (yielded ops (frF D a0 f).tmps) = true then Oper.wp P o (frF D a0 f) w K Q else K ((frF D a0 f).put o.dst undef) w)
    (hs : AllSt D a0 w0 R V P ops Q is) : AllSt D a0 w0 R V P ops Q (i :: is) := fun j hj o' ho' f w hB hd => by
  rcases List.mem_cons.1 hj with rfl | hj
  · rw [ho] at ho'
    obtain rfl : o = o' := by simpa using ho'
    exact wpOp_step ho (fun K' hK => h f w K' hB (hds ▸ hd) (fun v w' h1 h2 h3 => hK _ _ ⟨v, rfl, h1, h2, h3⟩))
  · exact hs j hj o' ho' f w hB hd
/-- A drawn region. -/
theorem region_inv {id : Nat} (hm : P.follows .mixedOrders = true) (D : List Nat) (R : World → World → Prop) (V : Nat → Value → World → Prop)
    (hV : ∀ j v w w', R w w' → V j v w → V j v w') (hok : okOs D .any ops.toList 0 = true) (hnd : nodupB (dsts ops.toList 0) = true)
    (steps : AllSt D a0 w0 R V P ops Q (List.range ops.size))
    (done : ∀ f w, Below w0.heap.size w0 w → (∀ j, j < ops.size → V j (f (dstN ops j)) w) → Q .normal (frF D a0 f) w) : (Code.region id ops true).wp P Q a0 w0 := by
  refine wp_region_any hm (wpAny_inv (fun listed a w => listed.size = ops.size ∧ ∃ f, a = frF D a0 f ∧ Below w0.heap.size w0 w ∧ ∀ j, listed.getD j false = true → V j (f (dstN ops j)) w) ?_ ?_ _ _ _ _ (by simp [unl_rep]) ⟨by simp, fun k => a0.tmps.getD k undef, (frF_self D a0).symm, (Below.refl _ _).drew, fun j hj => ?_⟩)
  · rintro listed a w i ⟨hsz, f, rfl, hB, hL⟩ hi
    obtain ⟨h0, o, ho, hall⟩ := mem_ready.1 hi
    have hil : i < ops.size := (Array.getElem?_eq_some_iff.1 ho).1
    have hge : ops.toList[i]'(by simpa using hil) = o := by
      have := (Array.getElem?_eq_some_iff.1 ho).2
      simpa using this
    have hko := okOs_at _ 0 hok i (by simpa using hil)
    rw [hge, Nat.zero_add] at hko
    have hdn : dstN ops i = dstO o i := by simp [dstN, ho]
    refine wpOp_mono ?_ (steps i (List.mem_range.2 hil) o ho f w hB (fun j hj => ?_))
    · rintro a' w' ⟨v, rfl, hB', hR, hVi⟩
      refine ⟨by simp [hsz], upd f (dstN ops i) v, ?_, hB.trans hB', fun j hj => ?_⟩
      · rw [hdn]
        unfold okO at hko
        unfold dstO
        cases hd : o.dst with
        | none =>
          simp only [hd, Bool.and_eq_true, Bool.not_eq_true'] at hko
          show frF D a0 f = _
          unfold frF
          rw [tmOf_out D f _ v hko.1]
        | some d =>
          simp only [hd, Bool.and_eq_true] at hko
          show (⟨(tmOf D f 0 a0.tmps.toList).toArray.setIfInBounds d v, a0.defers⟩ : Act) = _
          unfold frF
          rw [tmOf_upd D f d v hko.1 _ 0 (Nat.zero_le _)]
          simp
      · by_cases e : j = i
        · subst e; rw [upd_same]; exact hVi
        · have hj2 : listed.getD j false = true := by
            rw [getD_set_ne false (Ne.symm e)] at hj; exact hj
          have hjl : j < ops.size := by
            rw [← hsz]
            rcases Nat.lt_or_ge j listed.size with h | h
            · exact h
            · simp [Array.getElem?_eq_none h] at hj2
          have hne : dstN ops j ≠ dstN ops i := by
            have h1 := nodupB_ne _ hnd j i (by rw [dsts_len]; simpa using hjl) (by rw [dsts_len]; simpa using hil) e
            rw [dsts_at _ 0 j (by simpa using hjl), dsts_at _ 0 i (by simpa using hil)] at h1
            simpa [dstN, hjl, hil] using h1
          rw [upd_ne f v hne]
          exact hV _ _ _ _ hR (hL j hj2)
    · unfold depsO at hj
      obtain ⟨e, he, rfl⟩ := List.mem_map.1 hj
      obtain ⟨he1, he2⟩ := List.mem_filter.1 he
      exact hL _ (hall e (by simpa using he1) (by simpa using he2))
  · rintro listed a w ⟨hsz, f, rfl, hB, hL⟩ hr
    refine done f w hB (fun j hj => hL j ?_)
    induction j using Nat.strongRecOn with
    | _ j ih =>
      cases hb : listed.getD j false with
      | true => rfl
      | false =>
        exfalso
        have hjl : j < listed.size := by omega
        have hb' : listed.getD j true = false := by simpa [hjl] using hb
        have hko := okOs_at _ 0 hok j (by simpa using hj)
        rw [Nat.zero_add] at hko
        have hmem : j ∈ Region.ready .any ops listed := by
          rw [mem_ready]
          refine ⟨hb', ops[j], by simp [hj], fun e he hbd => ?_⟩
          unfold okO at hko
          rw [Bool.and_eq_true, List.all_eq_true] at hko
          have hlt := hko.2 e.on (by
            unfold depsO
            rw [List.mem_map]
            exact ⟨e, List.mem_filter.2 ⟨by simpa using he, hbd⟩, rfl⟩)
          simp only [decide_eq_true_eq] at hlt
          exact ih e.on hlt (by omega)
        rw [hr] at hmem
        cases hmem
  · exfalso
    rcases Nat.lt_or_ge j ops.size with h | h
    · simp [h] at hj
    · simp [h] at hj
end
end Go.Proofs.Ytoibmjmajbkbcaa

/- A drawn region with boxes that float among its operations, and stores into them: what each operation yields may speak of what others yielded; the boxes are apart. -/
namespace Go.Proofs.Ytoibmjmajbkbcaa
open Go.RowKit

section
variable {P : Program} {ops : Array Oper} {Q : Exit → Act → World → Prop} (D : List Nat) (a0 : Act) (w0 : World) (A : List Nat) (V : Nat → (Nat → Value) → World → Prop)
/-- What the operations have yielded. -/
def yl (ops : Array Oper) (f : Nat → Value) : Nat → Value := fun j => f (dstN ops j)
/-- Boxes are apart. -/
def Apt (A ds : List Nat) (g : Nat → Value) : Prop := ∀ i ∈ A, ∀ j ∈ A, i ∈ ds → j ∈ ds → i ≠ j → g i ≠ g j
def AllS2 (P : Program) (ops : Array Oper) (Q : Exit → Act → World → Prop) (is : List Nat) : Prop :=
  ∀ i ∈ is, ∀ o, ops[i]? = some o → ∀ f w, Below w0.heap.size w0 w → (∀ j ∈ depsO .any o, V j (yl ops f) w) → Apt A (depsO .any o) (yl ops f) →
    wpOp P ops Q i (fun a' w' => ∃ v, a' = (frF D a0 f).put o.dst v ∧ Below w0.heap.size w w' ∧ (∀ j, V j (yl ops f) w → V j (yl ops f) w') ∧ (∀ g', g' i = v → (∀ j ∈ depsO .any o, g' j = yl ops f j) → V i g' w') ∧ (i ∈ A → v = .pointer (some ⟨w.heap.size, 0, none⟩))) (frF D a0 f) w
variable {D a0 w0 A V}
theorem AllS2.nil : AllS2 D a0 w0 A V P ops Q [] := fun i h => by cases h
theorem AllS2.cons {i : Nat} {o : Oper} {ds : List Nat} {is : List Nat} (ho : ops[i]? = some o) (hds : depsO .any o = ds)
    (h : ∀ (f : Nat → Value) (w : World) (K : Act → World → Prop), Hid (Below w0.heap.size w0 w) → (∀ j ∈ ds, V j (yl ops f) w) → Hid (Apt A ds (yl ops f)) →
      Shut (∀ v w', Below w0.heap.size w w' → (∀ j, V j (yl ops f) w → V j (yl ops f) w') → (∀ g', g' i = v → (∀ j ∈ ds, g' j = yl ops f j) → V i g' w') → (i ∈ A → v = .pointer (some ⟨w.heap.size, 0, none⟩)) → K ((frF D a0 f).put o.dst v) w') →
      if Region.wanted o (yielded ops (frF D a0 f).tmps) = true then Oper.wp P o (frF D a0 f) w K Q else K ((frF D a0 f).put o.dst undef) w)
    (hs : AllS2 D a0 w0 A V P ops Q is) : AllS2 D a0 w0 A V P ops Q (i :: is) := fun j hj o' ho' f w hB hd hA => by
  rcases List.mem_cons.1 hj with rfl | hj
  · rw [ho] at ho'
    obtain rfl : o = o' := by simpa using ho'
    exact wpOp_step ho (fun K' hK => h f w K' hB (hds ▸ hd) (hds ▸ hA) (fun v w' h1 h2 h3 h4 => hK _ _ ⟨v, rfl, h1, h2, hds ▸ h3, h4⟩))
  · exact hs j hj o' ho' f w hB hd hA
/-- A drawn region. -/
theorem region_inv2 {id : Nat} (hm : P.follows .mixedOrders = true) (D : List Nat) (A : List Nat) (V : Nat → (Nat → Value) → World → Prop)
    (hloc : ∀ j o, ops[j]? = some o → ∀ g g' w, g j = g' j → (∀ k ∈ depsO .any o, g k = g' k) → V j g w → V j g' w)
    (hbox : ∀ j ∈ A, ∀ g w, V j g w → ∃ b, g j = .pointer (some ⟨b, 0, none⟩) ∧ b < w.heap.size)
    (hok : okOs D .any ops.toList 0 = true) (hnd : nodupB (dsts ops.toList 0) = true)
    (steps : AllS2 D a0 w0 A V P ops Q (List.range ops.size))
    (done : ∀ f w, Below w0.heap.size w0 w → (∀ j, j < ops.size → V j (yl ops f) w) → Apt A (List.range ops.size) (yl ops f) → Q .normal (frF D a0 f) w) : (Code.region id ops true).wp P Q a0 w0 := by
  refine wp_region_any hm (wpAny_inv (fun listed a w => listed.size = ops.size ∧ (∀ j o, ops[j]? = some o → listed.getD j false = true → ∀ k ∈ depsO .any o, listed.getD k false = true) ∧ ∃ f, a = frF D a0 f ∧ Below w0.heap.size w0 w ∧ (∀ j, listed.getD j false = true → V j (yl ops f) w) ∧ (∀ i ∈ A, ∀ j ∈ A, listed.getD i false = true → listed.getD j false = true → i ≠ j → yl ops f i ≠ yl ops f j)) ?_ ?_ _ _ _ _ (by simp [unl_rep]) ⟨by simp, fun j o _ hj => ?_, fun k => a0.tmps.getD k undef, (frF_self D a0).symm, (Below.refl _ _).drew, fun j hj => ?_, fun i _ j _ hi => ?_⟩)
  · rintro listed a w i ⟨hsz, hcl, f, rfl, hB, hL, hAp⟩ hi
    obtain ⟨h0, o, ho, hall⟩ := mem_ready.1 hi
    have hil : i < ops.size := (Array.getElem?_eq_some_iff.1 ho).1
    have hge : ops.toList[i]'(by simpa using hil) = o := by
      have := (Array.getElem?_eq_some_iff.1 ho).2
      simpa using this
    have hko := okOs_at _ 0 hok i (by simpa using hil)
    rw [hge, Nat.zero_add] at hko
    have hdn : dstN ops i = dstO o i := by simp [dstN, ho]
    have hdl : ∀ j ∈ depsO .any o, listed.getD j false = true := by
      intro j hj
      unfold depsO at hj
      obtain ⟨e, he, rfl⟩ := List.mem_map.1 hj
      obtain ⟨he1, he2⟩ := List.mem_filter.1 he
      exact hall e (by simpa using he1) (by simpa using he2)
    have hni : listed.getD i false = false := by
      have hjl : i < listed.size := by omega
      simpa [hjl] using h0
    have hkeep : ∀ v j, j ≠ i → listed.getD j false = true → yl ops (upd f (dstN ops i) v) j = yl ops f j := by
      intro v j e hj2
      have hjl : j < ops.size := by
        rw [← hsz]
        rcases Nat.lt_or_ge j listed.size with h | h
        · exact h
        · simp [Array.getElem?_eq_none h] at hj2
      have hne : dstN ops j ≠ dstN ops i := by
        have h1 := nodupB_ne _ hnd j i (by rw [dsts_len]; simpa using hjl) (by rw [dsts_len]; simpa using hil) e
        rw [dsts_at _ 0 j (by simpa using hjl), dsts_at _ 0 i (by simpa using hil)] at h1
        simpa [dstN, hjl, hil] using h1
      exact upd_ne f v hne
    have hself : ∀ v, yl ops (upd f (dstN ops i) v) i = v := fun v => upd_same _ _ _
    refine wpOp_mono ?_ (steps i (List.mem_range.2 hil) o ho f w hB (fun j hj => hL j (hdl j hj)) (fun i1 h1 j1 h2 h3 h4 h5 => hAp i1 h1 j1 h2 (hdl i1 h3) (hdl j1 h4) h5))
    rintro a' w' ⟨v, rfl, hB', hR, hVi, hfr⟩
    have hlist : ∀ j, j ≠ i → (listed.setIfInBounds i true).getD j false = true → listed.getD j false = true := by
      intro j e hj
      rw [getD_set_ne false (Ne.symm e)] at hj; exact hj
    have hdi : ∀ j ∈ depsO .any o, j ≠ i := fun j hj e => by
      have := hdl j hj
      rw [e, hni] at this
      cases this
    refine ⟨by simp [hsz], fun j o' ho' hj k hk => ?_, upd f (dstN ops i) v, ?_, hB.trans hB', fun j hj => ?_, fun i1 h1 j1 h2 h3 h4 h5 => ?_⟩
    · by_cases e : j = i
      · subst e
        rw [ho] at ho'
        obtain rfl : o = o' := by simpa using ho'
        have hkd := hdl k hk
        rw [getD_set_ne false (Ne.symm (hdi k hk))]
        exact hkd
      · have hkd := hcl j o' ho' (hlist j e hj) k hk
        by_cases e2 : k = i
        · subst e2
          rw [hni] at hkd
          cases hkd
        · rw [getD_set_ne false (Ne.symm e2)]
          exact hkd
    · rw [hdn]
      unfold okO at hko
      unfold dstO
      cases hd : o.dst with
      | none =>
        simp only [hd, Bool.and_eq_true, Bool.not_eq_true'] at hko
        show frF D a0 f = _
        unfold frF
        rw [tmOf_out D f _ v hko.1]
      | some d =>
        simp only [hd, Bool.and_eq_true] at hko
        show (⟨(tmOf D f 0 a0.tmps.toList).toArray.setIfInBounds d v, a0.defers⟩ : Act) = _
        unfold frF
        rw [tmOf_upd D f d v hko.1 _ 0 (Nat.zero_le _)]
        simp
    · by_cases e : j = i
      · subst e
        exact hVi _ (hself v) (fun k hk => hkeep v k (hdi k hk) (hdl k hk))
      · have hj2 := hlist j e hj
        have hjl : j < ops.size := by
          rw [← hsz]
          rcases Nat.lt_or_ge j listed.size with h | h
          · exact h
          · simp [Array.getElem?_eq_none h] at hj2
        have hoj : ops[j]? = some ops[j] := by simp [hjl]
        refine hloc j _ hoj (yl ops f) _ w' (hkeep v j e hj2).symm (fun k hk => ?_) (hR j (hL j hj2))
        have hk2 := hcl j _ hoj hj2 k hk
        have hki : k ≠ i := fun e2 => by
          rw [e2, hni] at hk2
          cases hk2
        exact (hkeep v k hki hk2).symm
    · by_cases e1 : i1 = i
      · by_cases e2 : j1 = i
        · exact absurd (e1.trans e2.symm) h5
        · have hj2 := hlist j1 e2 h4
          rw [hkeep v j1 e2 hj2, e1, hself v, hfr (e1 ▸ h1)]
          obtain ⟨b, hb1, hb2⟩ := hbox j1 h2 _ _ (hL j1 hj2)
          rw [hb1]
          intro e3
          have e4 : (⟨w.heap.size, 0, none⟩ : Addr) = ⟨b, 0, none⟩ := by injection e3 with e3; injection e3
          injection e4 with e5
          omega
      · have hi2 := hlist i1 e1 h3
        by_cases e2 : j1 = i
        · rw [hkeep v i1 e1 hi2, e2, hself v, hfr (e2 ▸ h2)]
          obtain ⟨b, hb1, hb2⟩ := hbox i1 h1 _ _ (hL i1 hi2)
          rw [hb1]
          intro e3
          have e4 : (⟨b, 0, none⟩ : Addr) = ⟨w.heap.size, 0, none⟩ := by injection e3 with e3; injection e3
          injection e4 with e5
          omega
        · have hj2 := hlist j1 e2 h4
          rw [hkeep v i1 e1 hi2, hkeep v j1 e2 hj2]
          exact hAp i1 h1 j1 h2 hi2 hj2 h5
  · rintro listed a w ⟨hsz, hcl, f, rfl, hB, hL, hAp⟩ hr
    have hallL : ∀ j, j < ops.size → listed.getD j false = true := by
      intro j hj
      induction j using Nat.strongRecOn with
      | _ j ih =>
        cases hb : listed.getD j false with
        | true => rfl
        | false =>
          exfalso
          have hjl : j < listed.size := by omega
          have hb' : listed.getD j true = false := by simpa [hjl] using hb
          have hko := okOs_at _ 0 hok j (by simpa using hj)
          rw [Nat.zero_add] at hko
          have hmem : j ∈ Region.ready .any ops listed := by
            rw [mem_ready]
            refine ⟨hb', ops[j], by simp [hj], fun e he hbd => ?_⟩
            unfold okO at hko
            rw [Bool.and_eq_true, List.all_eq_true] at hko
            have hlt := hko.2 e.on (by
              unfold depsO
              rw [List.mem_map]
              exact ⟨e, List.mem_filter.2 ⟨by simpa using he, hbd⟩, rfl⟩)
            simp only [decide_eq_true_eq] at hlt
            exact ih e.on hlt (by omega)
          rw [hr] at hmem
          cases hmem
    exact done f w hB (fun j hj => hL j (hallL j hj)) (fun i1 h1 j1 h2 h3 h4 h5 => hAp i1 h1 j1 h2 (hallL i1 (List.mem_range.1 h3)) (hallL j1 (List.mem_range.1 h4)) h5)
  · exfalso
    rcases Nat.lt_or_ge j ops.size with h | h
    · simp [h] at hj
    · simp [h] at hj
  · exfalso
    rcases Nat.lt_or_ge j ops.size with h | h
    · simp [h] at hj
    · simp [h] at hj
  · exfalso
    rcases Nat.lt_or_ge i ops.size with h | h
    · simp [h] at hi
    · simp [h] at hi
end
end Go.Proofs.Ytoibmjmajbkbcaa

/- A struct is stored: the world behind it, by name. -/
namespace Go.Proofs.Ytoibmjmajbkbcaa
open Go.RowKit

/-- W is w, but for some cells of one block. -/
structure StW (w W : World) (g off : Nat) (cur : Array Value) (T : TypeId) (vs : List Value) : Prop where
  b : ∀ lo, lo ≤ g → Below lo w W
  o : ∀ k, k ≠ g → W.heap[k]? = w.heap[k]?
  c : ∃ cur', W.heap[g]? = some (.cells cur' T) ∧ cur'.size = cur.size ∧ (∀ k, k < off ∨ off + vs.length ≤ k → cur'[k]? = cur[k]?) ∧ ∀ i (hi : i < vs.length), cur'[off + i]? = some vs[i]
theorem stW_cells (g : Nat) (T : TypeId) : ∀ (vs : List Value) (off : Nat) (w : World) (cur : Array Value), w.heap[g]? = some (.cells cur T) → off + vs.length ≤ cur.size → StW w (w.setCells g off vs) g off cur T vs
  | [], off, w, cur, hg, _ => ⟨fun lo _ => Below.refl _ _, fun _ _ => rfl, ⟨cur, hg, rfl, fun _ _ => rfl, fun i hi => by simp at hi⟩⟩
  | v :: r, off, w, cur, hg, hl => by
    have h1 := heap_setCell_same w g off cur T v hg
    have ih := stW_cells g T r (off + 1) (w.setCell ⟨g, off, none⟩ v) (cur.setIfInBounds off v) h1 (by simp at hl ⊢; omega)
    have e : w.setCells g off (v :: r) = (w.setCell ⟨g, off, none⟩ v).setCells g (off + 1) r := rfl
    rw [e]
    obtain ⟨cur', c1, c2, c3, c4⟩ := ih.c
    refine ⟨fun lo hlo => ((Below.refl _ _).setCell hlo _).trans (ih.b lo hlo), fun k hk => (ih.o k hk).trans (Below.heap_setCell _ _ _ _ hk), ⟨cur', c1, by simpa using c2, fun k hk => ?_, fun i hi => ?_⟩⟩
    · simp at hk
      rw [c3 k (by omega), Array.getElem?_setIfInBounds_ne (by omega)]
    · cases i with
      | zero =>
        have hs : off < cur.size := by simp at hl; omega
        rw [Nat.add_zero, c3 off (.inl (by omega))]
        simp [hs]
      | succ i =>
        have := c4 i (by simpa using hi)
        rw [show off + (i + 1) = off + 1 + i by omega, this]
        simp
section
variable {ops : Array Oper} {rest : List Oper} {op : Oper} {a : Act} {w : World} {Q : Exit → Act → World → Prop}
theorem there_of {g off n : Nat} {cur : Array Value} {T : TypeId} (hg : w.heap[g]? = some (.cells cur T)) (hl : off + n ≤ cur.size) : w.there g off n := fun j hj => ⟨by
  have : off + j < cur.size := by omega
  simp [World.cell?, hg, this], by simp [World.frozen?, hg]⟩
theorem wp_storeN {K : Act → World → Prop} (ty : TypeId) (x y : Operand) (ho : op.op = .store ty x y) (g off : Nat) (vs : List Value) (hx : a.eval x = .pointer (some ⟨g, off, none⟩)) (hy : a.eval y = .agg vs.toArray)
    (cur : Array Value) (T : TypeId) (hg : w.heap[g]? = some (.cells cur T)) (hl : off + vs.length ≤ cur.size) (hi : (Try.prog.info? ty).map (·.size) = some vs.length) (h1 : vs.toArray.all (·.oneCell') = true)
    (h : ∀ W, StW w W g off cur T vs → K (a.put op.dst undef) W) : op.wp Try.prog a w K Q :=
  wp_store_mid ty x y ho g off vs.toArray hx hy (there_of hg (by simpa using hl)) (by simpa using hi) h1 (h _ (stW_cells g T vs off w cur hg hl))
theorem wpList_storeN (hgd : op.guard = none) (ty : TypeId) (x y : Operand) (ho : op.op = .store ty x y) (g off : Nat) (vs : List Value) (hx : a.eval x = .pointer (some ⟨g, off, none⟩)) (hy : a.eval y = .agg vs.toArray)
    (cur : Array Value) (T : TypeId) (hg : w.heap[g]? = some (.cells cur T)) (hl : off + vs.length ≤ cur.size) (hi : (Try.prog.info? ty).map (·.size) = some vs.length) (h1 : vs.toArray.all (·.oneCell') = true)
    (h : ∀ W, StW w W g off cur T vs → wpList Try.prog ops Q rest (a.put op.dst undef) W) : wpList Try.prog ops Q (op :: rest) a w :=
  wpList_plain hgd fun _ hK => wp_storeN ty x y ho g off vs hx hy cur T hg hl hi h1 (fun W hW => hK _ _ (h W hW))
/-- The walk stands still here. -/
structure Stop (p : Prop) : Prop where
  out : p
theorem stop_store (ty : TypeId) (x y : Operand) (_ho : op.op = .store ty x y) (h : Stop (wpList Try.prog ops Q (op :: rest) a w)) : wpList Try.prog ops Q (op :: rest) a w := h.out
theorem Stop.of {p : Prop} (h : p) : Stop p := ⟨h⟩
end
end Go.Proofs.Ytoibmjmajbkbcaa

/- Two numbers' digits, each into an array of its own, in whatever order they come: what the operations yield. -/
namespace Go.Proofs.Ytoibmjmajbkbcaa
open Go.RowKit

def uhD (x : Int) : Int := hi x % 18446744073709551616
theorem uhD_bd (x : Int) : 0 ≤ uhD x ∧ uhD x < 18446744073709551616 := by unfold uhD; omega
/-- A number's digits. -/
def dF (x : Int) (j : Nat) : Int := if j < 8 then dig (lo x) j else dig (uhD x) (j - 8)
def wv (x : Int) : Value := .agg #[.int .i64 (hi x), .int .u64 (lo x)]
def dvL (x : Int) : List Value := (List.range 16).map fun j => .int .i64 (dF x j)
def dv (x : Int) : Value := .agg (dvL x).toArray
theorem dvL_len (x : Int) : (dvL x).length = 16 := by simp [dvL]
theorem digits_dv (x : Int) (w : World) : Calls Try.prog 41 #[wv x] w fun e w' => e = .returned (dv x) ∧ Below w.heap.size w w' :=
  digits_walk (hi x) (lo x) (uhD x) (lo_bd x).1 (lo_bd x).2 (by rw [IntKind.wrap_u64]; rfl) (uhD_bd x).1 (uhD_bd x).2 w
/-- Room for sixteen digits. -/
def Bd (n0 : Nat) (v : Value) (w : World) : Prop := ∃ b, v = .pointer (some ⟨b, 0, none⟩) ∧ n0 ≤ b ∧ b < w.heap.size ∧ ∃ cs T, w.heap[b]? = some (.cells cs T) ∧ cs.size = 16
def Fd (n0 : Nat) (x : Int) (v : Value) (w : World) : Prop := ∃ b, v = .pointer (some ⟨b, 0, none⟩) ∧ n0 ≤ b ∧ DArr w b (dF x)
theorem Bd.below {n0 : Nat} {v : Value} {w1 w2 : World} (h : Bd n0 v w1) (hb : Below w1.heap.size w1 w2) : Bd n0 v w2 := by
  obtain ⟨b, e, h0, h1, cs, T, h2, h3⟩ := h
  exact ⟨b, e, h0, by have := hb.size; omega, cs, T, (hb.block b h1).trans h2, h3⟩
theorem Fd.below {n0 : Nat} {x : Int} {v : Value} {w1 w2 : World} (h : Fd n0 x v w1) (hb : Below w1.heap.size w1 w2) : Fd n0 x v w2 := by
  obtain ⟨b, e, h0, h1⟩ := h
  exact ⟨b, e, h0, h1.below hb⟩
theorem DArr.same {b : Nat} {f : Nat → Int} {w1 w2 : World} (h : DArr w1 b f) (hs : w1.heap.size ≤ w2.heap.size) (he : w2.heap[b]? = w1.heap[b]?) : DArr w2 b f := by
  obtain ⟨h0, h1, h2⟩ := h
  exact ⟨by omega, fun j hj => by rw [← h1 j hj]; simp only [World.cell?, he], fun j => by rw [← h2 j]; simp only [World.frozen?, he]⟩
theorem Bd.store {n0 : Nat} {v : Value} {w W : World} {g : Nat} {cur : Array Value} {T : TypeId} {vs : List Value} (h : Bd n0 v w) (hc : cur.size = 16) (hS : StW w W g 0 cur T vs) : Bd n0 v W := by
  obtain ⟨b, e, h0, h1, cs, T2, h2, h3⟩ := h
  have hsz := (hS.b 0 (Nat.zero_le _)).size
  by_cases hb : b = g
  · subst hb
    obtain ⟨cur', c1, c2, _⟩ := hS.c
    exact ⟨b, e, h0, by omega, cur', T, c1, by omega⟩
  · exact ⟨b, e, h0, by omega, cs, T2, (hS.o b hb).trans h2, h3⟩
theorem Fd.store {n0 : Nat} {x : Int} {v : Value} {w W : World} {g : Nat} {cur : Array Value} {T : TypeId} {vs : List Value} (h : Fd n0 x v w) (hne : v ≠ .pointer (some ⟨g, 0, none⟩)) (hS : StW w W g 0 cur T vs) : Fd n0 x v W := by
  obtain ⟨b, e, h0, h1⟩ := h
  have hb : b ≠ g := fun e2 => hne (by rw [e, e2])
  exact ⟨b, e, h0, h1.same (hS.b 0 (Nat.zero_le _)).size (hS.o b hb)⟩
theorem Fd.mk {n0 : Nat} {x : Int} {w W : World} {g : Nat} {cur : Array Value} {T : TypeId} (h0 : n0 ≤ g) (hg : g < w.heap.size) (hS : StW w W g 0 cur T (dvL x)) : Fd n0 x (.pointer (some ⟨g, 0, none⟩)) W := by
  have hsz := (hS.b 0 (Nat.zero_le _)).size
  obtain ⟨cur', c1, c2, _, c4⟩ := hS.c
  refine ⟨g, rfl, h0, by omega, fun j hj => ?_, fun j => by simp [World.frozen?, c1]⟩
  have h := c4 j (by rw [dvL_len]; exact hj)
  have e : (dvL x)[j]'(by rw [dvL_len]; exact hj) = .int .i64 (dF x j) := by simp [dvL]
  rw [e, Nat.zero_add] at h
  simp [World.cell?, c1, h]
/-- What each of its operations yields. -/
def dV (x y : Int) (n0 : Nat) : Nat → (Nat → Value) → World → Prop
  | 0, g, _ => g 0 = wv x
  | 1, g, _ => g 1 = dv x
  | 2, g, _ => g 2 = wv y
  | 3, g, _ => g 3 = dv y
  | 4, g, w => Bd n0 (g 4) w
  | 5, g, w => Bd n0 (g 5) w
  | 6, g, w => Fd n0 x (g 4) w
  | 7, g, w => Fd n0 y (g 5) w
  | _, _, _ => True
theorem dV.below {x y : Int} {n0 : Nat} {j : Nat} {g : Nat → Value} {w1 w2 : World} (hb : Below w1.heap.size w1 w2) (h : dV x y n0 j g w1) : dV x y n0 j g w2 := by
  match j, h with
  | 0, h => exact h
  | 1, h => exact h
  | 2, h => exact h
  | 3, h => exact h
  | 4, h => exact Bd.below h hb
  | 5, h => exact Bd.below h hb
  | 6, h => exact Fd.below h hb
  | 7, h => exact Fd.below h hb
  | _ + 8, _ => trivial
theorem dV.store {x y : Int} {n0 : Nat} {j : Nat} {g : Nat → Value} {w1 W : World} {p : Nat} {cs : Array Value} {T : TypeId} {vs : List Value} (hS : StW w1 W p 0 cs T vs) (hc : cs.size = 16)
    (k6 : Fd n0 x (g 4) w1 → Fd n0 x (g 4) W) (k7 : Fd n0 y (g 5) w1 → Fd n0 y (g 5) W) (h : dV x y n0 j g w1) : dV x y n0 j g W := by
  match j, h with
  | 0, h => exact h
  | 1, h => exact h
  | 2, h => exact h
  | 3, h => exact h
  | 4, h => exact Bd.store h hc hS
  | 5, h => exact Bd.store h hc hS
  | 6, h => exact k6 h
  | 7, h => exact k7 h
  | _ + 8, _ => trivial
theorem dV.loc {x y : Int} {n0 : Nat} {j : Nat} {g g' : Nat → Value} {w : World} (hj : g j = g' j) (h4 : j = 6 → g 4 = g' 4) (h5 : j = 7 → g 5 = g' 5) (h : dV x y n0 j g w) : dV x y n0 j g' w := by
  match j, hj, h4, h5, h with
  | 0, hj, _, _, h => exact hj.symm.trans h
  | 1, hj, _, _, h => exact hj.symm.trans h
  | 2, hj, _, _, h => exact hj.symm.trans h
  | 3, hj, _, _, h => exact hj.symm.trans h
  | 4, hj, _, _, h => show Bd n0 (g' 4) w; rw [← hj]; exact h
  | 5, hj, _, _, h => show Bd n0 (g' 5) w; rw [← hj]; exact h
  | 6, _, h4, _, h => show Fd n0 _ (g' 4) w; rw [← h4 rfl]; exact h
  | 7, _, _, h5, h => show Fd n0 _ (g' 5) w; rw [← h5 rfl]; exact h
  | _ + 8, _, _, _, _ => trivial
theorem dV.box {x y : Int} {n0 : Nat} {j : Nat} {g : Nat → Value} {w : World} (hj : j ∈ [4, 5]) (h : dV x y n0 j g w) : ∃ p, g j = .pointer (some ⟨p, 0, none⟩) ∧ p < w.heap.size := by
  simp only [List.mem_cons, List.not_mem_nil, or_false] at hj
  rcases hj with rfl | rfl
  · obtain ⟨p, e, _, h1, _⟩ := h
    exact ⟨p, e, h1⟩
  · obtain ⟨p, e, _, h1, _⟩ := h
    exact ⟨p, e, h1⟩
/-- The digits of a number that is none below nothing. -/
def XD (x : Int) (j : Nat) : Int := (x + 170141183460469231731687303715884105728) / 256 ^ j % 256
theorem XD_bd (x : Int) (j : Nat) : 0 ≤ XD x j ∧ XD x j ≤ 255 := by unfold XD; omega
theorem XD_of {x : Int} (x1 : -170141183460469231731687303715884105728 ≤ x) (x2 : x < 170141183460469231731687303715884105728) (j : Nat) (hj : j < 16) : XD x j = if j = 15 then (dF x 15 + 128) % 256 else dF x j := by
  have hh : x = hi x * 18446744073709551616 + lo x := by unfold hi lo; omega
  have l := lo_bd x
  have h := hi_bd x
  unfold XD
  have e : x + 170141183460469231731687303715884105728 = (hi x + 9223372036854775808) * 18446744073709551616 + lo x := by omega
  rw [e]
  unfold dF dig uhD
  generalize hi x = H at *
  generalize lo x = M at *
  clear hh e x1 x2
  match j, hj with
  | 0, _ => simp; omega
  | 1, _ => simp; omega
  | 2, _ => simp; omega
  | 3, _ => simp; omega
  | 4, _ => simp; omega
  | 5, _ => simp; omega
  | 6, _ => simp; omega
  | 7, _ => simp; omega
  | 8, _ => simp; omega
  | 9, _ => simp; omega
  | 10, _ => simp; omega
  | 11, _ => simp; omega
  | 12, _ => simp; omega
  | 13, _ => simp; omega
  | 14, _ => simp; omega
  | 15, _ => simp; omega
  | k + 16, h => omega
theorem XD_step (x : Int) (j : Nat) : (x + 170141183460469231731687303715884105728) / 256 ^ j = (x + 170141183460469231731687303715884105728) / 256 ^ (j + 1) * 256 + XD x j := by
  unfold XD
  rw [Int.pow_succ, ← Int.ediv_ediv_of_nonneg (Int.le_of_lt (Int.pow_pos (by decide)))]
  omega
theorem XD_lt {x y : Int} {j : Nat} (h : (x + 170141183460469231731687303715884105728) / 256 ^ (j + 1) = (y + 170141183460469231731687303715884105728) / 256 ^ (j + 1)) (hd : XD x j < XD y j) : x < y := by
  have e1 := XD_step x j
  have e2 := XD_step y j
  have hp : (0 : Int) < 256 ^ j := Int.pow_pos (by decide)
  have h1 : (x + 170141183460469231731687303715884105728) / 256 ^ j < (y + 170141183460469231731687303715884105728) / 256 ^ j := by omega
  by_cases h2 : x < y
  · exact h2
  · have := Int.ediv_le_ediv hp (show y + 170141183460469231731687303715884105728 ≤ x + 170141183460469231731687303715884105728 by omega)
    omega
theorem XD_eq {x y : Int} {j : Nat} (h : (x + 170141183460469231731687303715884105728) / 256 ^ (j + 1) = (y + 170141183460469231731687303715884105728) / 256 ^ (j + 1)) (hd : XD x j = XD y j) : (x + 170141183460469231731687303715884105728) / 256 ^ j = (y + 170141183460469231731687303715884105728) / 256 ^ j := by
  rw [XD_step x j, XD_step y j, h, hd]
theorem XD_top {x : Int} (x1 : -170141183460469231731687303715884105728 ≤ x) (x2 : x < 170141183460469231731687303715884105728) : (x + 170141183460469231731687303715884105728) / 256 ^ 16 = 0 := by
  apply Int.ediv_eq_zero_of_lt (by omega)
  have : (256 : Int) ^ 16 = 340282366920938463463374607431768211456 := by decide
  omega
end Go.Proofs.Ytoibmjmajbkbcaa
