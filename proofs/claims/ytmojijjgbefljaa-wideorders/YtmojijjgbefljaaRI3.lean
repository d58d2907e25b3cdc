/- A drawn region with stores into memory that stood before: U i is what operation i asks for, for as long as it has not come up. -/
import Derived.Test.YtmojijjgbefljaaRI
namespace Go.Proofs.Ytmojijjgbefljaa
open Go.RowKit

section
variable {P : Program} {ops : Array Oper} {Q : Exit → Act → World → Prop} (D : List Nat) (a0 : Act) (w0 : World) (n : Nat) (V : Nat → Value → World → Prop) (U : Nat → World → Prop)
def AllS3 (P : Program) (ops : Array Oper) (Q : Exit → Act → World → Prop) (is : List Nat) : Prop :=
  ∀ i ∈ is, ∀ o, ops[i]? = some o → ∀ f w, Below n w0 w → U i w → (∀ j ∈ depsO .any o, V j (f (dstN ops j)) w) →
    wpOp P ops Q i (fun a' w' => ∃ v, a' = (frF D a0 f).put o.dst v ∧ Below n w w' ∧ (∀ j v', V j v' w → V j v' w') ∧ (∀ j, j ∉ depsO .any o → j ≠ i → U j w → U j w') ∧ V i v w') (frF D a0 f) w
variable {D a0 w0 n V U}
theorem AllS3.nil : AllS3 D a0 w0 n V U P ops Q [] := fun i h => by cases h
theorem AllS3.cons {i : Nat} {o : Oper} {ds : List Nat} {is : List Nat} (ho : ops[i]? = some o) (hds : depsO .any o = ds)
    (h : ∀ (f : Nat → Value) (w : World) (K : Act → World → Prop), Hid (Below n w0 w) → Hid (U i w) → (∀ j ∈ ds, V j (f (dstN ops j)) w) →
      Shut (∀ v w', Below n w w' → (∀ j v', V j v' w → V j v' w') → (∀ j, j ∉ ds → j ≠ i → U j w → U j w') → V i v w' → K ((frF D a0 f).put o.dst v) w') →
      if Region.wanted o (yielded ops (frF D a0 f).tmps) = true then Oper.wp P o (frF D a0 f) w K Q else K ((frF D a0 f).put o.dst undef) w)
    (hs : AllS3 D a0 w0 n V U P ops Q is) : AllS3 D a0 w0 n V U P ops Q (i :: is) := fun j hj o' ho' f w hB hU hd => by
  rcases List.mem_cons.1 hj with rfl | hj
  · rw [ho] at ho'
    obtain rfl : o = o' := by simpa using ho'
    exact wpOp_step ho (fun K' hK => h f w K' hB hU (hds ▸ hd) (fun v w' h1 h2 h3 h4 => hK _ _ ⟨v, rfl, h1, h2, hds ▸ h3, h4⟩))
  · exact hs j hj o' ho' f w hB hU hd
/-- A drawn region. -/
theorem region_inv3 {id : Nat} (hm : P.follows .mixedOrders = true) (D : List Nat) (n : Nat) (V : Nat → Value → World → Prop) (U : Nat → World → Prop)
    (hU0 : ∀ j, U j w0.drew) (hn : n ≤ w0.heap.size) (hok : okOs D .any ops.toList 0 = true) (hnd : nodupB (dsts ops.toList 0) = true)
    (steps : AllS3 D a0 w0 n V U P ops Q (List.range ops.size))
    (done : ∀ f w, Below n w0 w → (∀ j, j < ops.size → V j (f (dstN ops j)) w) → Q .normal (frF D a0 f) w) : (Code.region id ops true).wp P Q a0 w0 := by
  refine wp_region_any hm (wpAny_inv (fun listed a w => listed.size = ops.size ∧ ∃ f, a = frF D a0 f ∧ Below n w0 w ∧ (∀ j, listed.getD j false = true → V j (f (dstN ops j)) w) ∧ (∀ j, listed.getD j false = false → U j w)) ?_ ?_ _ _ _ _ (by simp [unl_rep]) ⟨by simp, fun k => a0.tmps.getD k undef, (frF_self D a0).symm, ((Below.refl _ _).drew).mono hn, fun j hj => ?_, fun j _ => hU0 j⟩)
  · rintro listed a w i ⟨hsz, f, rfl, hB, hL, hUn⟩ hi
    obtain ⟨h0, o, ho, hall⟩ := mem_ready.1 hi
    have hil : i < ops.size := (Array.getElem?_eq_some_iff.1 ho).1
    have hge : ops.toList[i]'(by simpa using hil) = o := by
      have := (Array.getElem?_eq_some_iff.1 ho).2
      simpa using this
    have hko := okOs_at _ 0 hok i (by simpa using hil)
    rw [hge, Nat.zero_add] at hko
    have hdn : dstN ops i = dstO o i := by simp [dstN, ho]
    have hni : listed.getD i false = false := by
      have hjl : i < listed.size := by omega
      simpa [hjl] using h0
    have hdl : ∀ j ∈ depsO .any o, listed.getD j false = true := by
      intro j hj
      unfold depsO at hj
      obtain ⟨e, he, rfl⟩ := List.mem_map.1 hj
      obtain ⟨he1, he2⟩ := List.mem_filter.1 he
      exact hall e (by simpa using he1) (by simpa using he2)
    refine wpOp_mono ?_ (steps i (List.mem_range.2 hil) o ho f w hB (hUn i hni) (fun j hj => hL j (hdl j hj)))
    rintro a' w' ⟨v, rfl, hB', hR, hUs, hVi⟩
    refine ⟨by simp [hsz], upd f (dstN ops i) v, ?_, hB.trans hB', fun j hj => ?_, fun j hj => ?_⟩
    · rw [hdn]
      unfold okO at hko
      unfold dstO
      cases hd : o.dst with
      | none =>
        simp only [hd, Bool.and_eq_true, Bool.not_eq_true'] at hko
        show frF D a0 f = _
        unfold frF
        rw [tmOf_out D f _ v hko.1]
      | some d =>
        simp only [hd, Bool.and_eq_true] at hko
        show (⟨(tmOf D f 0 a0.tmps.toList).toArray.setIfInBounds d v, a0.defers⟩ : Act) = _
        unfold frF
        rw [tmOf_upd D f d v hko.1 _ 0 (Nat.zero_le _)]
        simp
    · by_cases e : j = i
      · subst e; rw [upd_same]; exact hVi
      · have hj2 : listed.getD j false = true := by
          rw [getD_set_ne false (Ne.symm e)] at hj; exact hj
        have hjl : j < ops.size := by
          rw [← hsz]
          rcases Nat.lt_or_ge j listed.size with h | h
          · exact h
          · simp [Array.getElem?_eq_none h] at hj2
        have hne : dstN ops j ≠ dstN ops i := by
          have h1 := nodupB_ne _ hnd j i (by rw [dsts_len]; simpa using hjl) (by rw [dsts_len]; simpa using hil) e
          rw [dsts_at _ 0 j (by simpa using hjl), dsts_at _ 0 i (by simpa using hil)] at h1
          simpa [dstN, hjl, hil] using h1
        rw [upd_ne f v hne]
        exact hR _ _ (hL j hj2)
    · by_cases e : j = i
      · subst e
        exfalso
        have hjl : j < listed.size := by omega
        simp [hjl] at hj
      · rw [getD_set_ne false (Ne.symm e)] at hj
        refine hUs j (fun hm2 => ?_) e (hUn j hj)
        have := hdl j hm2
        rw [hj] at this
        cases this
  · rintro listed a w ⟨hsz, f, rfl, hB, hL, hUn⟩ hr
    have hallL : ∀ j, j < ops.size → listed.getD j false = true := by
      intro j hj
      induction j using Nat.strongRecOn with
      | _ j ih =>
        cases hb : listed.getD j false with
        | true => rfl
        | false =>
          exfalso
          have hjl : j < listed.size := by omega
          have hb' : listed.getD j true = false := by simpa [hjl] using hb
          have hko := okOs_at _ 0 hok j (by simpa using hj)
          rw [Nat.zero_add] at hko
          have hmem : j ∈ Region.ready .any ops listed := by
            rw [mem_ready]
            refine ⟨hb', ops[j], by simp [hj], fun e he hbd => ?_⟩
            unfold okO at hko
            rw [Bool.and_eq_true, List.all_eq_true] at hko
            have hlt := hko.2 e.on (by
              unfold depsO
              rw [List.mem_map]
              exact ⟨e, List.mem_filter.2 ⟨by simpa using he, hbd⟩, rfl⟩)
            simp only [decide_eq_true_eq] at hlt
            exact ih e.on hlt (by omega)
          rw [hr] at hmem
          cases hmem
    exact done f w hB (fun j hj => hL j (hallL j hj))
  · exfalso
    rcases Nat.lt_or_ge j ops.size with h | h
    · simp [h] at hj
    · simp [h] at hj
end
end Go.Proofs.Ytmojijjgbefljaa
