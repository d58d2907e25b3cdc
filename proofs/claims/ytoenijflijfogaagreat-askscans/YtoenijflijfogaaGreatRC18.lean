/- MG14 RI MG15 MG16 MG18, joined. -/
import Derived.Test.YtoenijflijfogaaGreatRC3
import Derived.Test.YtoenijflijfogaaGreatRC8
import Derived.Test.YtoenijflijfogaaGreatRC17
import Derived.Deep.LoopGhost
import Derived.Lib.SmallJoins
import Derived.BigQuiet
import Derived.Deep.QuietTactic
/- The contract of All. -/
namespace Go.Proofs.YtoenijflijfogaaGreat
open Go.RowKit

end Go.Proofs.YtoenijflijfogaaGreat

/- A drawn region by what each of its operations yields, in whatever order they come: one goal for each operation. -/
namespace Go.Proofs.YtoenijflijfogaaGreat
open Go.RowKit

/-- How many have not come up. -/
def unl : List Bool → Nat
  | [] => 0
  | b :: l => (if b then 0 else 1) + unl l
theorem unl_set : ∀ (l : List Bool) (i : Nat), l[i]? = some false → unl (l.set i true) + 1 = unl l
  | [], i, h => by simp at h
  | b :: l, 0, h => by simp at h; subst h; simp [unl]; omega
  | b :: l, i + 1, h => by
    simp at h
    have := unl_set l i (by simpa using h)
    simp only [List.set_cons_succ, unl]; omega
theorem unl_zero : ∀ (l : List Bool) (i : Nat), unl l = 0 → l[i]? ≠ some false
  | [], i, _ => by simp
  | b :: l, 0, h => by
    intro e; simp at e; subst e; simp [unl] at h
  | b :: l, i + 1, h => by
    simp only [unl] at h
    have := unl_zero l i (by omega)
    simpa using this
theorem getD_false {listed : Array Bool} {i : Nat} (h : listed.getD i true = false) : listed.toList[i]? = some false := by
  rcases Nat.lt_or_ge i listed.size with hl | hl
  · simp [hl] at h; simp [hl, h]
  · simp [Array.getElem?_eq_none hl] at h
theorem unl_rep : ∀ n, unl (List.replicate n false) = n
  | 0 => rfl
  | n + 1 => by rw [List.replicate_succ, unl, unl_rep n]; simp; omega
theorem wpAny_inv {P : Program} {md : Region.Mode} {ops : Array Oper} {Q : Exit → Act → World → Prop} (I : Array Bool → Act → World → Prop)
    (step : ∀ listed a w i, I listed a w → i ∈ Region.ready md ops listed → wpOp P ops Q i (I (listed.setIfInBounds i true)) a w)
    (done : ∀ listed a w, I listed a w → Region.ready md ops listed = [] → Q .normal a w) :
    ∀ (fuel : Nat) (listed : Array Bool) (a : Act) (w : World), unl listed.toList ≤ fuel → I listed a w → wpAny P md ops Q fuel listed a w
  | 0, listed, a, w, hf, hI => by
    have hr : Region.ready md ops listed = [] := by
      rw [List.eq_nil_iff_forall_not_mem]
      intro i hi
      exact unl_zero _ i (by omega) (getD_false (mem_ready.1 hi).1)
    exact ⟨hr, done _ _ _ hI hr⟩
  | fuel + 1, listed, a, w, hf, hI => ⟨done _ _ _ hI, fun i hi => wpOp_mono (fun a' w' h' => wpAny_inv I step done fuel _ a' w' (by
      have := unl_set _ i (getD_false (mem_ready.1 hi).1)
      simp only [Array.toList_setIfInBounds]; omega) h') (step _ _ _ i hI hi)⟩

def upd (f : Nat → Value) (d : Nat) (v : Value) : Nat → Value := fun k => cond (Nat.beq k d) v (f k)
theorem upd_same (f : Nat → Value) (d : Nat) (v : Value) : upd f d v d = v := by simp [upd]
theorem upd_ne (f : Nat → Value) {d k : Nat} (v : Value) (h : k ≠ d) : upd f d v k = f k := by
  unfold upd
  have : Nat.beq k d = false := by
    cases e : Nat.beq k d
    · rfl
    · exact absurd (Nat.eq_of_beq_eq_true e) h
  rw [this]; rfl
/-- A frame with open slots. -/
def tmOf (D : List Nat) (f : Nat → Value) : Nat → List Value → List Value
  | _, [] => []
  | k, x :: xs => cond (D.contains k) (f k) x :: tmOf D f (k + 1) xs
def frF (D : List Nat) (a0 : Act) (f : Nat → Value) : Act := ⟨(tmOf D f 0 a0.tmps.toList).toArray, a0.defers⟩
theorem tmOf_self (D : List Nat) (g : Nat → Value) : ∀ (l : List Value) (k : Nat), (∀ j (h : j < l.length), g (k + j) = l[j]) → tmOf D g k l = l
  | [], _, _ => rfl
  | x :: l, k, h => by
    have h0 := h 0 (by simp)
    simp at h0
    rw [tmOf, tmOf_self D g l (k + 1) (fun j hj => by have := h (j + 1) (by simpa using hj); simpa [Nat.add_assoc, Nat.add_comm 1 j] using this), h0]
    cases D.contains k <;> rfl
theorem frF_self (D : List Nat) (a0 : Act) : frF D a0 (fun k => a0.tmps.getD k undef) = a0 := by
  unfold frF
  rw [tmOf_self D _ _ 0 (fun j hj => by
    have hj' : j < a0.tmps.size := by simpa using hj
    simp [hj'])]
theorem tmOf_upd_lt (D : List Nat) (f : Nat → Value) (d : Nat) (v : Value) : ∀ (l : List Value) (k : Nat), d < k → tmOf D (upd f d v) k l = tmOf D f k l
  | [], _, _ => rfl
  | x :: l, k, h => by rw [tmOf, tmOf, tmOf_upd_lt D f d v l (k + 1) (by omega), upd_ne f v (by omega)]
theorem tmOf_upd (D : List Nat) (f : Nat → Value) (d : Nat) (v : Value) (hd : D.contains d = true) : ∀ (l : List Value) (k : Nat), k ≤ d → tmOf D (upd f d v) k l = (tmOf D f k l).set (d - k) v
  | [], _, _ => rfl
  | x :: l, k, h => by
    rcases Nat.lt_or_eq_of_le h with h1 | h1
    · rw [tmOf, tmOf, tmOf_upd D f d v hd l (k + 1) (by omega), upd_ne f v (by omega), show d - k = (d - (k + 1)) + 1 by omega, List.set_cons_succ]
    · subst h1
      rw [tmOf, tmOf, tmOf_upd_lt D f k v l (k + 1) (by omega), upd_same, Nat.sub_self, List.set_cons_zero, hd]; rfl
theorem tmOf_out (D : List Nat) (f : Nat → Value) (d : Nat) (v : Value) (hd : D.contains d = false) : ∀ (l : List Value) (k : Nat), tmOf D (upd f d v) k l = tmOf D f k l
  | [], _ => rfl
  | x :: l, k => by
    rw [tmOf, tmOf, tmOf_out D f d v hd l (k + 1)]
    by_cases e : k = d
    · subst e; rw [hd]; rfl
    · rw [upd_ne f v e]
/-- Where an operation's value lies. -/
def dstO (o : Oper) (j : Nat) : Nat := match o.dst with | some d => d | none => 1000 + j
def dstN (ops : Array Oper) (j : Nat) : Nat := match ops[j]? with | some o => dstO o j | none => 0
/-- What it waits for. -/
def depsO (md : Region.Mode) (o : Oper) : List Nat := (o.after.toList.filter fun e => Region.binds md e).map (·.on)
def okO (D : List Nat) (md : Region.Mode) (o : Oper) (j : Nat) : Bool := (match o.dst with | some d => D.contains d | none => !D.contains (1000 + j)) && (depsO md o).all (fun k => decide (k < j))
def okOs (D : List Nat) (md : Region.Mode) : List Oper → Nat → Bool
  | [], _ => true
  | o :: l, j => okO D md o j && okOs D md l (j + 1)
def dsts : List Oper → Nat → List Nat
  | [], _ => []
  | o :: l, j => dstO o j :: dsts l (j + 1)
def nodupB : List Nat → Bool
  | [] => true
  | x :: l => !l.contains x && nodupB l
theorem okOs_at {D : List Nat} {md : Region.Mode} : ∀ (l : List Oper) (k : Nat), okOs D md l k = true → ∀ j (h : j < l.length), okO D md l[j] (k + j) = true
  | [], _, _, j, h => by simp at h
  | o :: l, k, h0, j, h => by
    simp only [okOs, Bool.and_eq_true] at h0
    cases j with
    | zero => exact h0.1
    | succ j => have := okOs_at l (k + 1) h0.2 j (by simpa using h); simpa [Nat.add_assoc, Nat.add_comm 1 j] using this
theorem dsts_len : ∀ (l : List Oper) (k : Nat), (dsts l k).length = l.length
  | [], _ => rfl
  | _ :: l, k => by simp [dsts, dsts_len l (k + 1)]
theorem dsts_at : ∀ (l : List Oper) (k j : Nat) (h : j < l.length), (dsts l k)[j]'(by rw [dsts_len]; exact h) = dstO l[j] (k + j)
  | o :: l, k, 0, _ => rfl
  | o :: l, k, j + 1, h => by
    have := dsts_at l (k + 1) j (by simpa using h)
    simp only [dsts, List.getElem_cons_succ]
    rw [this, Nat.add_assoc, Nat.add_comm 1 j]
theorem nodupB_ne : ∀ (l : List Nat), nodupB l = true → ∀ i j (hi : i < l.length) (hj : j < l.length), i ≠ j → l[i] ≠ l[j]
  | [], _, i, _, hi, _, _ => by simp at hi
  | x :: l, h, i, j, hi, hj, hne => by
    simp only [nodupB, Bool.and_eq_true, Bool.not_eq_true', List.contains_eq_mem, decide_eq_false_iff_not] at h
    match i, j, hi, hj, hne with
    | 0, 0, _, _, hne => exact absurd rfl hne
    | 0, j + 1, _, hj, _ =>
      intro e
      simp only [List.getElem_cons_zero, List.getElem_cons_succ] at e
      exact h.1 (by rw [e]; exact List.getElem_mem _)
    | i + 1, 0, hi, _, _ =>
      intro e
      simp only [List.getElem_cons_zero, List.getElem_cons_succ] at e
      exact h.1 (by rw [← e]; exact List.getElem_mem _)
    | i + 1, j + 1, hi, hj, hne => exact nodupB_ne l h.2 i j (by simpa using hi) (by simpa using hj) (by omega)
section
variable {P : Program} {ops : Array Oper} {Q : Exit → Act → World → Prop} (D : List Nat) (a0 : Act) (w0 : World) (R : World → World → Prop) (V : Nat → Value → World → Prop)
/-- Each of these operations, once, wherever it comes. -/
def AllSt (P : Program) (ops : Array Oper) (Q : Exit → Act → World → Prop) (is : List Nat) : Prop :=
  ∀ i ∈ is, ∀ o, ops[i]? = some o → ∀ f w, Below w0.heap.size w0 w → (∀ j ∈ depsO .any o, V j (f (dstN ops j)) w) →
    wpOp P ops Q i (fun a' w' => ∃ v, a' = (frF D a0 f).put o.dst v ∧ Below w0.heap.size w w' ∧ R w w' ∧ V i v w') (frF D a0 f) w
variable {D a0 w0 R V}
theorem AllSt.nil : AllSt D a0 w0 R V P ops Q [] := fun i h => by cases h
theorem AllSt.cons {i : Nat} {o : Oper} {ds : List Nat} {is : List Nat} (ho : ops[i]? = some o) (hds : depsO .any o = ds)
    (h : ∀ (f : Nat → Value) (w : World) (K : Act → World → Prop), Hid (Below w0.heap.size w0 w) → (∀ j ∈ ds, V j (f (dstN ops j)) w) →
      Shut (∀ v w', Below w0.heap.size w w' → R w w' → V i v w' → K ((frF D a0 f).put o.dst v) w') →
      if Region.wanted o (yielded ops (frF D a0 f).tmps) = true then Oper.wp P o (frF D a0 f) w K Q else K ((frF D a0 f).put o.dst undef) w)
    (hs : AllSt D a0 w0 R V P ops Q is) : AllSt D a0 w0 R V P ops Q (i :: is) := fun j hj o' ho' f w hB hd => by
  rcases List.mem_cons.1 hj with rfl | hj
  · rw [ho] at ho'
    obtain rfl : o = o' := by simpa using ho'
    exact wpOp_step ho (fun K' hK => h f w K' hB (hds ▸ hd) (fun v w' h1 h2 h3 => hK _ _ ⟨v, rfl, h1, h2, h3⟩))
  · exact hs j hj o' ho' f w hB hd
end
end Go.Proofs.YtoenijflijfogaaGreat

/- What the fixed calls of layer 14's 'alive' come to. -/
namespace Go.Proofs.YtoenijflijfogaaGreat
open Go.RowKit Go.Joins

/-- What is kept from one operation of a region to the next. -/
structure Rm (w w' : World) : Prop where
  s : w.heap.size ≤ w'.heap.size
  c : ∀ a v, w.cell? a = some v → w'.cell? a = some v
  h : ∀ g s, w.shape? g = some s → w'.shape? g = some s
theorem Rm.of_below {w w' : World} (h : Below w.heap.size w w') : Rm w w' := ⟨h.size, fun _ _ q => (h.cell (cell_block q).1).trans q, fun g s q => by
  have hl : g < w.heap.size := by
    rcases Nat.lt_or_ge g w.heap.size with h' | h'
    · exact h'
    · unfold World.shape? at q; rw [Array.getElem?_eq_none h'] at q; cases q
  unfold World.shape? at q ⊢
  rw [h.block g hl]; exact q⟩
end Go.Proofs.YtoenijflijfogaaGreat

/- The contract of Great. -/
namespace Go.Proofs.YtoenijflijfogaaGreat
open Go.RowKit

theorem eReads_key {w : World} {a : Option Addr} {n cap : Nat} {L : List En} (h : EReads w (.slice a n cap) L) {k : Nat} (hk : k < L.length) : ∃ b off sa sc, a = some ⟨b, off, none⟩ ∧ w.cell? ⟨b, off + k * 7, none⟩ = some (.slice sa L[k].1.length sc) := by
  obtain ⟨b, off, cap', hv, _⟩ := eReads_some h (by omega)
  simp at hv
  obtain ⟨rfl, rfl, rfl⟩ := hv
  obtain ⟨kv, hc, hr, _⟩ := eReads_at h hk rfl
  obtain ⟨sa, sc, rfl, _⟩ := hr.form
  exact ⟨b, off, sa, sc, rfl, hc 0 (by decide)⟩
end Go.Proofs.YtoenijflijfogaaGreat

/- The contract of the reference's Same, where both lists hold the same. -/
namespace Go.Proofs.YtoenijflijfogaaGreat
open Go.RowKit

/-- A slice reads these entries (nothing is told of their counts). -/
def ERd (w : World) (v : Value) (L : List En) : Prop :=
  ∃ a cap, v = .slice a L.length cap ∧ L.length ≤ cap ∧ cap ≤ maxLen ∧ (L = [] ∨ ∃ b off, a = some ⟨b, off, none⟩ ∧ b < w.heap.size ∧ ∀ j (hj : j < L.length), ∃ kv, (∀ i (hi : i < 7), w.cell? ⟨b, off + j * 7 + i, none⟩ = some ((c7 ⟨kv, L[j].1, L[j].2⟩)[i]'hi)) ∧ Reads w kv L[j].1)
theorem ERd.below {w w' : World} {v : Value} {L : List En} (h : ERd w v L) (hb : Below w.heap.size w w') : ERd w' v L := by
  obtain ⟨a, cap, rfl, h1, h2, h3⟩ := h
  refine ⟨a, cap, rfl, h1, h2, ?_⟩
  rcases h3 with h3 | ⟨b, off, h4, h5, h6⟩
  · exact .inl h3
  · refine .inr ⟨b, off, h4, Nat.lt_of_lt_of_le h5 hb.size, fun j hj => ?_⟩
    obtain ⟨kv, g1, g2⟩ := h6 j hj
    exact ⟨kv, fun i hi => (hb.cell (p := ⟨b, off + j * 7 + i, none⟩) h5).trans (g1 i hi), g2.below hb⟩
end Go.Proofs.YtoenijflijfogaaGreat
