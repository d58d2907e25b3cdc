/- The document's file system: Create. -/
import Derived.Test.YtijablmejjepaaaRG11
namespace Go.Proofs.Ytijablmejjepaaa
open Go.RowKit Go.Maps Go.Sort

theorem wf_new {s : SfS} (h : SfWf s) : SfWf (sfNew s) := by
  refine ⟨h.r1, h.r2, h.l1, h.l2, fun p hp => ⟨?_, (h.di p hp).2⟩, fun p hp => ⟨?_, (h.oi p hp).2⟩, fun a ha => ⟨fun i hi => ?_, (h.pi a ha).2⟩, h.ap, h.ln, fun i f hf => ?_⟩
  · have := (h.di p hp).1; simp [sfNew]; omega
  · have := (h.oi p hp).1; simp [sfNew]; omega
  · have := (h.pi a ha).1 i hi; simp [sfNew]; omega
  · unfold sfNew at hf
    simp only at hf
    rcases Nat.lt_or_ge i s.fls.length with hi | hi
    · rw [List.getElem?_append_left hi] at hf
      exact h.sy i f hf
    · rw [List.getElem?_append_right hi] at hf
      cases hq : i - s.fls.length with
      | zero => rw [hq] at hf; simp at hf; subst hf; simp
      | succ j => rw [hq] at hf; simp at hf
theorem RfTo.from {w w1 w2 : World} {O : Nat → Prop} {g : Nat} {s : SfS} (h1 : Onl O w w1) (h2 : RfTo w1 w2 (Grw O w w1) g s) : RfTo w w2 O g s := by
  obtain ⟨⟨vf, vd, vo, vp, af, ee, fb, va, vb, hr⟩, ho⟩ := h2
  exact ⟨⟨vf, vd, vo, vp, af, ee, fb, va, vb, hr.wider (Grw.trans h1.size ho.size) (fun k hk => by
    rcases hk with q | q
    · exact hr.lt k (.inl (.inl q))
    · exact q.2)⟩, h1.trans ho⟩
theorem flP_add (fb : Nat → Nat) (n b : Nat) : flP (updF fb n b) (n + 1) = flP fb n ++ [.pointer (some ⟨b, 0, none⟩)] := by
  unfold flP
  rw [List.range_succ, List.map_append]
  congr 1
  · exact List.map_congr_left fun i hi => by rw [updF_ne _ _ (by have := List.mem_range.1 hi; omega)]
  · simp [updF_same]
/-- A file more. -/
theorem RfAt.addF {w w' : World} {O O' : Nat → Prop} {g : Nat} {vf vd vo vp : Value} {af ee : Int} {fb : Nat → Nat} {va vb : Nat → Value} {s : SfS} (h : RfAt w O g vf vd vo vp af ee fb va vb s) (hO : ∀ k, O k → O' k) (hl : ∀ k, O' k → k < w'.heap.size)
    (hk : ∀ k, O k → k ≠ g → some k ≠ vf.ownBlock → w'.heap[k]? = w.heap[k]?) {vf' : Value} {b : Nat} (hb : w'.heap[b]? = some (.cells #[.slice none 0 0, .slice none 0 0] 79)) (hbn : w.heap.size ≤ b) (hOb : O' b)
    (hc : RfC w' g s.room vf' vd vo vp af ee) (hnf : GOwn w' 77 1 vf' (s.fls.length + 1) (flP fb s.fls.length ++ [.pointer (some ⟨b, 0, none⟩)])) (of : ∀ k, vf'.ownBlock = some k → O' k) :
    RfAt w' O' g vf' vd vo vp af ee (updF fb s.fls.length b) (updF va s.fls.length (.slice none 0 0)) (updF vb s.fls.length (.slice none 0 0)) (sfNew s) := by
  have hfn : ∀ {k : Nat} {cur : Array Value} {T : TypeId} {fr : Nat × Nat}, w.heap[k]? = some (.cells cur T fr) → T ≠ 77 → some k ≠ vf.ownBlock := by
    intro k cur T fr hc hT e
    obtain ⟨c, hc'⟩ := h.nf.block e.symm
    rw [hc] at hc'
    simp at hc'
    exact hT hc'.2.1
  have hrow : ∀ {v : Value} {e : TypeId} {n m : Nat} {xs : List Value}, GOwn w e m v n xs → (∀ k, v.ownBlock = some k → O k) → e ≠ 48 → e ≠ 77 → GOwn w' e m v n xs := fun hg ho h1 h2 => hg.keep fun k hk' => by
    obtain ⟨cur, hb⟩ := hg.block hk'
    exact hk k (ho k hk') (ty_ne hb h.c h1) (hfn hb h2)
  have hlen : (sfNew s).fls.length = s.fls.length + 1 := by simp [sfNew]
  have hold : ∀ {i : Nat} {f : List UInt8 × Nat}, (sfNew s).fls[i]? = some f → (i < s.fls.length ∧ s.fls[i]? = some f) ∨ (i = s.fls.length ∧ f = ([], 0)) := by
    intro i f hf
    have hf' : (s.fls ++ [([], 0)])[i]? = some f := hf
    rcases Nat.lt_or_ge i s.fls.length with hi | hi
    · rw [List.getElem?_append_left hi] at hf'; exact .inl ⟨hi, hf'⟩
    · rw [List.getElem?_append_right hi] at hf'
      cases hq : i - s.fls.length with
      | zero => rw [hq] at hf'; simp at hf'; exact .inr ⟨by omega, hf'.symm⟩
      | succ j => rw [hq] at hf'; simp at hf'
  have hkF : ∀ {k : Nat} {cur : Array Value} {T : TypeId}, O k → w.heap[k]? = some (.cells cur T (0, 0)) → T ≠ 48 → T ≠ 77 → w'.heap[k]? = w.heap[k]? := fun ho hb h1 h2 => hk _ ho (ty_ne hb h.c h1) (hfn hb h2)
  refine ⟨hl, hO _ h.og, hc, h.pl, ?_, hrow h.hd h.od (by decide) (by decide), hrow h.ho h.oo (by decide) (by decide), hrow h.hp h.op (by decide) (by decide), of, fun k q => hO k (h.od k q), fun k q => hO k (h.oo k q), fun k q => hO k (h.op k q), ?_⟩
  · rw [hlen, flP_add]; exact hnf
  · have hlt : ∀ i, i < s.fls.length → fb i < w.heap.size := fun i hi => h.lt _ (h.fl.ob i hi)
    refine ⟨fun i hi => ?_, fun i j hi hj e => ?_, fun i f hf => ?_, fun i f hf => ?_, fun i f hf => ?_, fun i hi k q => ?_, fun i hi k q => ?_, fun i j hi hj k q => ?_⟩
    · rw [hlen] at hi
      by_cases e : i = s.fls.length
      · subst e; rw [updF_same]; exact hOb
      · rw [updF_ne _ _ e]; exact hO _ (h.fl.ob i (by omega))
    · rw [hlen] at hi hj
      by_cases e1 : i = s.fls.length
      · by_cases e2 : j = s.fls.length
        · omega
        · subst e1
          rw [updF_same, updF_ne _ _ e2] at e
          have := hlt j (by omega)
          omega
      · rw [updF_ne _ _ e1] at e
        by_cases e2 : j = s.fls.length
        · subst e2
          rw [updF_same] at e
          have := hlt i (by omega)
          omega
        · rw [updF_ne _ _ e2] at e
          exact h.fl.nd i j (by omega) (by omega) e
    · rcases hold hf with ⟨hi, hf'⟩ | ⟨rfl, rfl⟩
      · rw [updF_ne _ _ (by omega), updF_ne _ _ (by omega), updF_ne _ _ (by omega)]
        exact (hkF (h.fl.ob i hi) (h.fl.hf i f hf') (by decide) (by decide)).trans (h.fl.hf i f hf')
      · rw [updF_same, updF_same, updF_same]; exact hb
    · rcases hold hf with ⟨hi, hf'⟩ | ⟨rfl, rfl⟩
      · rw [updF_ne _ _ (by omega)]
        exact hrow (h.fl.ha i f hf') (h.fl.oa i hi) (by decide) (by decide)
      · rw [updF_same]; exact GOwn.nil _ _ _
    · rcases hold hf with ⟨hi, hf'⟩ | ⟨rfl, rfl⟩
      · rw [updF_ne _ _ (by omega)]
        exact hrow (h.fl.hb i f hf') (h.fl.ov i hi) (by decide) (by decide)
      · rw [updF_same]; exact GOwn.nil _ _ _
    · rw [hlen] at hi
      by_cases e : i = s.fls.length
      · subst e; rw [updF_same] at q; simp [Value.ownBlock] at q
      · rw [updF_ne _ _ e] at q; exact hO k (h.fl.oa i (by omega) k q)
    · rw [hlen] at hi
      by_cases e : i = s.fls.length
      · subst e; rw [updF_same] at q; simp [Value.ownBlock] at q
      · rw [updF_ne _ _ e] at q; exact hO k (h.fl.ov i (by omega) k q)
    · rw [hlen] at hi hj
      by_cases e : i = s.fls.length
      · subst e; rw [updF_same] at q; simp [Value.ownBlock] at q
      · rw [updF_ne _ _ e] at q
        by_cases e2 : j = s.fls.length
        · subst e2; rw [updF_same, updF_same]; simp [Value.ownBlock]
        · rw [updF_ne _ _ e2, updF_ne _ _ e2]
          exact h.fl.nv i j (by omega) (by omega) k q
theorem infoFp : (Try.prog.info? 77).map (fun i => (i.zero, i.size, i.bytes)) = some (some (.pointer none), 1, 8) := by kernel_rfl
theorem run_appFp {w : World} (ty : TypeId) (v vx : Value) (n : Nat) (xs : List Value) (b : Nat) (h : GOwn w 77 1 v n xs) (hx : GSrc w 1 vx 1 [.pointer (some ⟨b, 0, none⟩)]) (hl : n < 1000000) :
    ∃ v' w', (Builtin.append_ #[44, 44] ty #[v, vx]).run Try.prog w = .ok v' w' ∧ GOwn w' 77 1 v' (n + 1) (xs ++ [.pointer (some ⟨b, 0, none⟩)]) ∧ w.grownBy w' v.ownBlock ∧ (∀ k, v'.ownBlock = some k → v.ownBlock = some k ∨ (w.heap.size ≤ k ∧ k < w'.heap.size)) := by
  obtain ⟨i0, hi, hz0, hz1, hz2⟩ := info_parts infoFp
  exact run_gapp (P := Try.prog) 44 ty 77 i0 _ 1 8 Try.underlying44 hi hz0 hz1 hz2 rfl v n xs h vx 1 _ hx (by intro u hu; simp at hu; subst hu; rfl) (by simp only [maxLen]; omega) (by omega)
end Go.Proofs.Ytijablmejjepaaa
