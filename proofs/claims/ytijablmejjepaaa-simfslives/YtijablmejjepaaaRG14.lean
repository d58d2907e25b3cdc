/- The document's file system: a file is written. -/
import Derived.Test.YtijablmejjepaaaRG13
namespace Go.Proofs.Ytijablmejjepaaa
open Go.RowKit Go.Maps Go.Sort

theorem RfAt.setI {w w' : World} {O O' : Nat → Prop} {g : Nat} {vf vd vo vp : Value} {af ee : Int} {fb : Nat → Nat} {va vb : Nat → Value} {s : SfS} (h : RfAt w O g vf vd vo vp af ee fb va vb s) (hO : ∀ k, O k → O' k) (hl : ∀ k, O' k → k < w'.heap.size) {i : Nat} (hi : i < s.fls.length)
    (hk : ∀ k, O k → k ≠ fb i → some k ≠ (vb i).ownBlock → w'.heap[k]? = w.heap[k]?) {a' b' : Value} {f : List UInt8 × Nat} (hf : w'.heap[fb i]? = some (.cells #[a', b'] 79)) (ha : BOwn w' a' (f.1.take f.2)) (hb : BOwn w' b' (f.1.drop f.2))
    (hoa : ∀ k, a'.ownBlock = some k → (va i).ownBlock = some k ∨ (w.heap.size ≤ k ∧ O' k)) (hob : ∀ k, b'.ownBlock = some k → (vb i).ownBlock = some k ∨ (w.heap.size ≤ k ∧ O' k)) (hab : ∀ k, b'.ownBlock = some k → a'.ownBlock ≠ some k) :
    RfAt w' O' g vf vd vo vp af ee fb (updF va i a') (updF vb i b') (s.setF i f) := by
  have hfi := h.fl.hf i _ (List.getElem?_eq_getElem hi)
  have hbi := h.fl.hb i _ (List.getElem?_eq_getElem hi)
  have hvn : ∀ {k : Nat} {cur : Array Value} {T : TypeId} {fr : Nat × Nat}, w.heap[k]? = some (.cells cur T fr) → T ≠ 5 → some k ≠ (vb i).ownBlock := by
    intro k cur T fr hc hT e
    obtain ⟨c, hc'⟩ := hbi.block e.symm
    rw [hc] at hc'
    simp at hc'
    exact hT hc'.2.1
  have hrow : ∀ {v : Value} {e : TypeId} {n m : Nat} {xs : List Value}, GOwn w e m v n xs → (∀ k, v.ownBlock = some k → O k) → e ≠ 79 → e ≠ 5 → GOwn w' e m v n xs := fun hg ho h1 h2 => hg.keep fun k hk' => by
    obtain ⟨cur, hb⟩ := hg.block hk'
    exact hk k (ho k hk') (ty_ne hb hfi h1) (hvn hb h2)
  have hlen : (s.setF i f).fls.length = s.fls.length := by simp [SfS.setF]
  have hlo : ∀ {v : Value} {k : Nat}, (∀ q, v.ownBlock = some q → O q) → v.ownBlock = some k → k < w.heap.size := fun ho hk => h.lt _ (ho _ hk)
  have hat : ∀ {j : Nat} {x : List UInt8 × Nat}, (s.setF i f).fls[j]? = some x → (j = i ∧ x = f) ∨ (j ≠ i ∧ s.fls[j]? = some x ∧ j < s.fls.length) := by
    intro j x hx
    have hx' : (s.fls.set i f)[j]? = some x := hx
    by_cases e : j = i
    · subst e
      rw [List.getElem?_set_self hi] at hx'
      simp at hx'
      exact .inl ⟨rfl, hx'.symm⟩
    · rw [List.getElem?_set_ne (Ne.symm e)] at hx'
      exact .inr ⟨e, hx', (List.getElem?_eq_some_iff.1 hx').1⟩
  refine ⟨hl, hO _ h.og, (hk _ h.og (ty_ne h.c hfi (by decide)) (hvn h.c (by decide))).trans h.c, h.pl, ?_, hrow h.hd h.od (by decide) (by decide), hrow h.ho h.oo (by decide) (by decide), hrow h.hp h.op (by decide) (by decide), fun k q => hO k (h.of k q), fun k q => hO k (h.od k q), fun k q => hO k (h.oo k q), fun k q => hO k (h.op k q), ?_⟩
  · rw [hlen]; exact hrow h.nf h.of (by decide) (by decide)
  · refine ⟨fun j hj => hO _ (h.fl.ob j (hlen ▸ hj)), fun x y hx hy => h.fl.nd x y (hlen ▸ hx) (hlen ▸ hy), fun j x hx => ?_, fun j x hx => ?_, fun j x hx => ?_, fun j hj k q => ?_, fun j hj k q => ?_, fun x y hx hy k q => ?_⟩
    · rcases hat hx with ⟨rfl, rfl⟩ | ⟨e, hx', hjl⟩
      · rw [updF_same, updF_same]; exact hf
      · rw [updF_ne _ _ e, updF_ne _ _ e]
        have h0 := h.fl.hf j x hx'
        exact (hk _ (h.fl.ob j hjl) (fun q => e (h.fl.nd j i hjl hi q)) (hvn h0 (by decide))).trans h0
    · rcases hat hx with ⟨rfl, rfl⟩ | ⟨e, hx', hjl⟩
      · rw [updF_same]; exact ha
      · rw [updF_ne _ _ e]
        refine (h.fl.ha j x hx').keep fun k q => ?_
        obtain ⟨cur, hc⟩ := (h.fl.ha j x hx').block q
        exact hk k (h.fl.oa j hjl k q) (ty_ne hc hfi (by decide)) (fun e' => (h.fl.nv i j hi hjl k e'.symm).2 q)
    · rcases hat hx with ⟨rfl, rfl⟩ | ⟨e, hx', hjl⟩
      · rw [updF_same]; exact hb
      · rw [updF_ne _ _ e]
        refine (h.fl.hb j x hx').keep fun k q => ?_
        obtain ⟨cur, hc⟩ := (h.fl.hb j x hx').block q
        exact hk k (h.fl.ov j hjl k q) (ty_ne hc hfi (by decide)) (fun e' => e ((h.fl.nv j i hjl hi k q).1 e'.symm))
    · rw [hlen] at hj
      by_cases e : j = i
      · subst e
        rw [updF_same] at q
        rcases hoa k q with q' | q'
        · exact hO k (h.fl.oa j hj k q')
        · exact q'.2
      · rw [updF_ne _ _ e] at q; exact hO k (h.fl.oa j hj k q)
    · rw [hlen] at hj
      by_cases e : j = i
      · subst e
        rw [updF_same] at q
        rcases hob k q with q' | q'
        · exact hO k (h.fl.ov j hj k q')
        · exact q'.2
      · rw [updF_ne _ _ e] at q; exact hO k (h.fl.ov j hj k q)
    · rw [hlen] at hx hy
      by_cases ex : x = i
      · subst ex
        rw [updF_same] at q
        by_cases ey : y = x
        · subst ey
          exact ⟨fun _ => rfl, by rw [updF_same]; exact hab k q⟩
        · rw [updF_ne _ _ ey, updF_ne _ _ ey]
          rcases hob k q with q' | ⟨q', _⟩
          · exact h.fl.nv x y hx hy k q'
          · exact ⟨fun q2 => by have := h.lt k (h.fl.ov y hy k q2); omega, fun q2 => by have := h.lt k (h.fl.oa y hy k q2); omega⟩
      · rw [updF_ne _ _ ex] at q
        have hkl := h.lt k (h.fl.ov x hx k q)
        by_cases ey : y = i
        · subst ey
          rw [updF_same, updF_same]
          refine ⟨fun q2 => ?_, fun q2 => ?_⟩
          · rcases hob k q2 with q' | ⟨q', _⟩
            · exact (h.fl.nv x y hx hy k q).1 q'
            · omega
          · rcases hoa k q2 with q' | ⟨q', _⟩
            · exact (h.fl.nv x y hx hy k q).2 q'
            · omega
        · rw [updF_ne _ _ ey, updF_ne _ _ ey]
          exact h.fl.nv x y hx hy k q
theorem fl_at {s : SfS} {i : Nat} (hi : i < s.fls.length) : s.fls[i]? = some (s.fl i) := by unfold SfS.fl; rw [List.getD_eq_getElem?_getD, List.getElem?_eq_getElem hi]; rfl
end Go.Proofs.Ytijablmejjepaaa
