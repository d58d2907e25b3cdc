/- A drawn region with boxes that float among its operations, and stores into them: what each operation yields may speak of what others yielded; the boxes are apart. -/
import Derived.Test.YtdamlnpfpfpeeaaRI
namespace Go.Proofs.Ytdamlnpfpfpeeaa
open Go.RowKit

section
variable {P : Program} {ops : Array Oper} {Q : Exit → Act → World → Prop} (D : List Nat) (a0 : Act) (w0 : World) (A : List Nat) (V : Nat → (Nat → Value) → World → Prop)
/-- What the operations have yielded. -/
def yl (ops : Array Oper) (f : Nat → Value) : Nat → Value := fun j => f (dstN ops j)
/-- Boxes are apart. -/
def Apt (A ds : List Nat) (g : Nat → Value) : Prop := ∀ i ∈ A, ∀ j ∈ A, i ∈ ds → j ∈ ds → i ≠ j → g i ≠ g j
def AllS2 (P : Program) (ops : Array Oper) (Q : Exit → Act → World → Prop) (is : List Nat) : Prop :=
  ∀ i ∈ is, ∀ o, ops[i]? = some o → ∀ f w, Below w0.heap.size w0 w → (∀ j ∈ depsO .any o, V j (yl ops f) w) → Apt A (depsO .any o) (yl ops f) →
    wpOp P ops Q i (fun a' w' => ∃ v, a' = (frF D a0 f).put o.dst v ∧ Below w0.heap.size w w' ∧ (∀ j, V j (yl ops f) w → V j (yl ops f) w') ∧ (∀ g', g' i = v → (∀ j ∈ depsO .any o, g' j = yl ops f j) → V i g' w') ∧ (i ∈ A → v = .pointer (some ⟨w.heap.size, 0, none⟩))) (frF D a0 f) w
variable {D a0 w0 A V}
theorem AllS2.nil : AllS2 D a0 w0 A V P ops Q [] := fun i h => by cases h
theorem AllS2.cons {i : Nat} {o : Oper} {ds : List Nat} {is : List Nat} (ho : ops[i]? = some o) (hds : depsO .any o = ds)
    (h : ∀ (f : Nat → Value) (w : World) (K : Act → World → Prop), Hid (Below w0.heap.size w0 w) → (∀ j ∈ ds, V j (yl ops f) w) → Hid (Apt A ds (yl ops f)) →
      Shut (∀ v w', Below w0.heap.size w w' → (∀ j, V j (yl ops f) w → V j (yl ops f) w') → (∀ g', g' i = v → (∀ j ∈ ds, g' j = yl ops f j) → V i g' w') → (i ∈ A → v = .pointer (some ⟨w.heap.size, 0, none⟩)) → K ((frF D a0 f).put o.dst v) w') →
      if Region.wanted o (yielded ops (frF D a0 f).tmps) = true then Oper.wp P o (frF D a0 f) w K Q else K ((frF D a0 f).put o.dst undef) w)
    (hs : AllS2 D a0 w0 A V P ops Q is) : AllS2 D a0 w0 A V P ops Q (i :: is) := fun j hj o' ho' f w hB hd hA => by
  rcases List.mem_cons.1 hj with rfl | hj
  · rw [ho] at ho'
    obtain rfl : o = o' := by simpa using ho'
    exact wpOp_step ho (fun K' hK => h f w K' hB (hds ▸ hd) (hds ▸ hA) (fun v w' h1 h2 h3 h4 => hK _ _ ⟨v, rfl, h1, h2, hds ▸ h3, h4⟩))
  · exact hs j hj o' ho' f w hB hd hA
/-- A drawn region. -/
theorem region_inv2 {id : Nat} (hm : P.follows .mixedOrders = true) (D : List Nat) (A : List Nat) (V : Nat → (Nat → Value) → World → Prop)
    (hloc : ∀ j o, ops[j]? = some o → ∀ g g' w, g j = g' j → (∀ k ∈ depsO .any o, g k = g' k) → V j g w → V j g' w)
    (hbox : ∀ j ∈ A, ∀ g w, V j g w → ∃ b, g j = .pointer (some ⟨b, 0, none⟩) ∧ b < w.heap.size)
    (hok : okOs D .any ops.toList 0 = true) (hnd : nodupB (dsts ops.toList 0) = true)
    (steps : AllS2 D a0 w0 A V P ops Q (List.range ops.size))
    (done : ∀ f w, Below w0.heap.size w0 w → (∀ j, j < ops.size → V j (yl ops f) w) → Apt A (List.range ops.size) (yl ops f) → Q .normal (frF D a0 f) w) : (Code.region id ops true).wp P Q a0 w0 := by
  refine wp_region_any hm (wpAny_inv (fun listed a w => listed.size = ops.size ∧ (∀ j o, ops[j]? = some o → listed.getD j false = true → ∀ k ∈ depsO .any o, listed.getD k false = true) ∧ ∃ f, a = frF D a0 f ∧ Below w0.heap.size w0 w ∧ (∀ j, listed.getD j false = true → V j (yl ops f) w) ∧ (∀ i ∈ A, ∀ j ∈ A, listed.getD i false = true → listed.getD j false = true → i ≠ j → yl ops f i ≠ yl ops f j)) ?_ ?_ _ _ _ _ (by simp [unl_rep]) ⟨by simp, fun j o _ hj => ?_, fun k => a0.tmps.getD k undef, (frF_self D a0).symm, (Below.refl _ _).drew, fun j hj => ?_, fun i _ j _ hi => ?_⟩)
  · rintro listed a w i ⟨hsz, hcl, f, rfl, hB, hL, hAp⟩ hi
    obtain ⟨h0, o, ho, hall⟩ := mem_ready.1 hi
    have hil : i < ops.size := (Array.getElem?_eq_some_iff.1 ho).1
    have hge : ops.toList[i]'(by simpa using hil) = o := by
      have := (Array.getElem?_eq_some_iff.1 ho).2
      simpa using this
    have hko := okOs_at _ 0 hok i (by simpa using hil)
    rw [hge, Nat.zero_add] at hko
    have hdn : dstN ops i = dstO o i := by simp [dstN, ho]
    have hdl : ∀ j ∈ depsO .any o, listed.getD j false = true := by
      intro j hj
      unfold depsO at hj
      obtain ⟨e, he, rfl⟩ := List.mem_map.1 hj
      obtain ⟨he1, he2⟩ := List.mem_filter.1 he
      exact hall e (by simpa using he1) (by simpa using he2)
    have hni : listed.getD i false = false := by
      have hjl : i < listed.size := by omega
      simpa [hjl] using h0
    have hkeep : ∀ v j, j ≠ i → listed.getD j false = true → yl ops (upd f (dstN ops i) v) j = yl ops f j := by
      intro v j e hj2
      have hjl : j < ops.size := by
        rw [← hsz]
        rcases Nat.lt_or_ge j listed.size with h | h
        · exact h
        · simp [Array.getElem?_eq_none h] at hj2
      have hne : dstN ops j ≠ dstN ops i := by
        have h1 := nodupB_ne _ hnd j i (by rw [dsts_len]; simpa using hjl) (by rw [dsts_len]; simpa using hil) e
        rw [dsts_at _ 0 j (by simpa using hjl), dsts_at _ 0 i (by simpa using hil)] at h1
        simpa [dstN, hjl, hil] using h1
      exact upd_ne f v hne
    have hself : ∀ v, yl ops (upd f (dstN ops i) v) i = v := fun v => upd_same _ _ _
    refine wpOp_mono ?_ (steps i (List.mem_range.2 hil) o ho f w hB (fun j hj => hL j (hdl j hj)) (fun i1 h1 j1 h2 h3 h4 h5 => hAp i1 h1 j1 h2 (hdl i1 h3) (hdl j1 h4) h5))
    rintro a' w' ⟨v, rfl, hB', hR, hVi, hfr⟩
    have hlist : ∀ j, j ≠ i → (listed.setIfInBounds i true).getD j false = true → listed.getD j false = true := by
      intro j e hj
      rw [getD_set_ne false (Ne.symm e)] at hj; exact hj
    have hdi : ∀ j ∈ depsO .any o, j ≠ i := fun j hj e => by
      have := hdl j hj
      rw [e, hni] at this
      cases this
    refine ⟨by simp [hsz], fun j o' ho' hj k hk => ?_, upd f (dstN ops i) v, ?_, hB.trans hB', fun j hj => ?_, fun i1 h1 j1 h2 h3 h4 h5 => ?_⟩
    · by_cases e : j = i
      · subst e
        rw [ho] at ho'
        obtain rfl : o = o' := by simpa using ho'
        have hkd := hdl k hk
        rw [getD_set_ne false (Ne.symm (hdi k hk))]
        exact hkd
      · have hkd := hcl j o' ho' (hlist j e hj) k hk
        by_cases e2 : k = i
        · subst e2
          rw [hni] at hkd
          cases hkd
        · rw [getD_set_ne false (Ne.symm e2)]
          exact hkd
    · rw [hdn]
      unfold okO at hko
      unfold dstO
      cases hd : o.dst with
      | none =>
        simp only [hd, Bool.and_eq_true, Bool.not_eq_true'] at hko
        show frF D a0 f = _
        unfold frF
        rw [tmOf_out D f _ v hko.1]
      | some d =>
        simp only [hd, Bool.and_eq_true] at hko
        show (⟨(tmOf D f 0 a0.tmps.toList).toArray.setIfInBounds d v, a0.defers⟩ : Act) = _
        unfold frF
        rw [tmOf_upd D f d v hko.1 _ 0 (Nat.zero_le _)]
        simp
    · by_cases e : j = i
      · subst e
        exact hVi _ (hself v) (fun k hk => hkeep v k (hdi k hk) (hdl k hk))
      · have hj2 := hlist j e hj
        have hjl : j < ops.size := by
          rw [← hsz]
          rcases Nat.lt_or_ge j listed.size with h | h
          · exact h
          · simp [Array.getElem?_eq_none h] at hj2
        have hoj : ops[j]? = some ops[j] := by simp [hjl]
        refine hloc j _ hoj (yl ops f) _ w' (hkeep v j e hj2).symm (fun k hk => ?_) (hR j (hL j hj2))
        have hk2 := hcl j _ hoj hj2 k hk
        have hki : k ≠ i := fun e2 => by
          rw [e2, hni] at hk2
          cases hk2
        exact (hkeep v k hki hk2).symm
    · by_cases e1 : i1 = i
      · by_cases e2 : j1 = i
        · exact absurd (e1.trans e2.symm) h5
        · have hj2 := hlist j1 e2 h4
          rw [hkeep v j1 e2 hj2, e1, hself v, hfr (e1 ▸ h1)]
          obtain ⟨b, hb1, hb2⟩ := hbox j1 h2 _ _ (hL j1 hj2)
          rw [hb1]
          intro e3
          have e4 : (⟨w.heap.size, 0, none⟩ : Addr) = ⟨b, 0, none⟩ := by injection e3 with e3; injection e3
          injection e4 with e5
          omega
      · have hi2 := hlist i1 e1 h3
        by_cases e2 : j1 = i
        · rw [hkeep v i1 e1 hi2, e2, hself v, hfr (e2 ▸ h2)]
          obtain ⟨b, hb1, hb2⟩ := hbox i1 h1 _ _ (hL i1 hi2)
          rw [hb1]
          intro e3
          have e4 : (⟨b, 0, none⟩ : Addr) = ⟨w.heap.size, 0, none⟩ := by injection e3 with e3; injection e3
          injection e4 with e5
          omega
        · have hj2 := hlist j1 e2 h4
          rw [hkeep v i1 e1 hi2, hkeep v j1 e2 hj2]
          exact hAp i1 h1 j1 h2 hi2 hj2 h5
  · rintro listed a w ⟨hsz, hcl, f, rfl, hB, hL, hAp⟩ hr
    have hallL : ∀ j, j < ops.size → listed.getD j false = true := by
      intro j hj
      induction j using Nat.strongRecOn with
      | _ j ih =>
        cases hb : listed.getD j false with
        | true => rfl
        | false =>
          exfalso
          have hjl : j < listed.size := by omega
          have hb' : listed.getD j true = false := by simpa [hjl] using hb
          have hko := okOs_at _ 0 hok j (by simpa using hj)
          rw [Nat.zero_add] at hko
          have hmem : j ∈ Region.ready .any ops listed := by
            rw [mem_ready]
            refine ⟨hb', ops[j], by simp [hj], fun e he hbd => ?_⟩
            unfold okO at hko
            rw [Bool.and_eq_true, List.all_eq_true] at hko
            have hlt := hko.2 e.on (by
              unfold depsO
              rw [List.mem_map]
              exact ⟨e, List.mem_filter.2 ⟨by simpa using he, hbd⟩, rfl⟩)
            simp only [decide_eq_true_eq] at hlt
            exact ih e.on hlt (by omega)
          rw [hr] at hmem
          cases hmem
    exact done f w hB (fun j hj => hL j (hallL j hj)) (fun i1 h1 j1 h2 h3 h4 h5 => hAp i1 h1 j1 h2 (hallL i1 (List.mem_range.1 h3)) (hallL j1 (List.mem_range.1 h4)) h5)
  · exfalso
    rcases Nat.lt_or_ge j ops.size with h | h
    · simp [h] at hj
    · simp [h] at hj
  · exfalso
    rcases Nat.lt_or_ge j ops.size with h | h
    · simp [h] at hj
    · simp [h] at hj
  · exfalso
    rcases Nat.lt_or_ge i ops.size with h | h
    · simp [h] at hi
    · simp [h] at hi
end
end Go.Proofs.Ytdamlnpfpfpeeaa
