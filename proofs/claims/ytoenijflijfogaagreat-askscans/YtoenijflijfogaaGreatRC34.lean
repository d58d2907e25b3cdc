/- RI2 XD1 X3 XA1 XB, joined. -/
import Derived.Test.YtoenijflijfogaaGreatRC1
import Derived.Test.YtoenijflijfogaaGreatRC7
import Derived.Test.YtoenijflijfogaaGreatRC13
import Derived.Test.YtoenijflijfogaaGreatRC18
import Derived.Test.YtoenijflijfogaaGreatRC33
import Derived.BigQuiet
import Derived.Deep.QuietTactic
/- A drawn region with boxes that float among its operations, and stores into them: what each operation yields may speak of what others yielded; the boxes are apart. -/
namespace Go.Proofs.YtoenijflijfogaaGreat
open Go.RowKit

section
variable {P : Program} {ops : Array Oper} {Q : Exit → Act → World → Prop} (D : List Nat) (a0 : Act) (w0 : World) (A : List Nat) (V : Nat → (Nat → Value) → World → Prop)
/-- What the operations have yielded. -/
def yl (ops : Array Oper) (f : Nat → Value) : Nat → Value := fun j => f (dstN ops j)
/-- Boxes are apart. -/
def Apt (A ds : List Nat) (g : Nat → Value) : Prop := ∀ i ∈ A, ∀ j ∈ A, i ∈ ds → j ∈ ds → i ≠ j → g i ≠ g j
def AllS2 (P : Program) (ops : Array Oper) (Q : Exit → Act → World → Prop) (is : List Nat) : Prop :=
  ∀ i ∈ is, ∀ o, ops[i]? = some o → ∀ f w, Below w0.heap.size w0 w → (∀ j ∈ depsO .any o, V j (yl ops f) w) → Apt A (depsO .any o) (yl ops f) →
    wpOp P ops Q i (fun a' w' => ∃ v, a' = (frF D a0 f).put o.dst v ∧ Below w0.heap.size w w' ∧ (∀ j, V j (yl ops f) w → V j (yl ops f) w') ∧ (∀ g', g' i = v → (∀ j ∈ depsO .any o, g' j = yl ops f j) → V i g' w') ∧ (i ∈ A → v = .pointer (some ⟨w.heap.size, 0, none⟩))) (frF D a0 f) w
variable {D a0 w0 A V}
theorem AllS2.nil : AllS2 D a0 w0 A V P ops Q [] := fun i h => by cases h
theorem AllS2.cons {i : Nat} {o : Oper} {ds : List Nat} {is : List Nat} (ho : ops[i]? = some o) (hds : depsO .any o = ds)
    (h : ∀ (f : Nat → Value) (w : World) (K : Act → World → Prop), Hid (Below w0.heap.size w0 w) → (∀ j ∈ ds, V j (yl ops f) w) → Hid (Apt A ds (yl ops f)) →
      Shut (∀ v w', Below w0.heap.size w w' → (∀ j, V j (yl ops f) w → V j (yl ops f) w') → (∀ g', g' i = v → (∀ j ∈ ds, g' j = yl ops f j) → V i g' w') → (i ∈ A → v = .pointer (some ⟨w.heap.size, 0, none⟩)) → K ((frF D a0 f).put o.dst v) w') →
      if Region.wanted o (yielded ops (frF D a0 f).tmps) = true then Oper.wp P o (frF D a0 f) w K Q else K ((frF D a0 f).put o.dst undef) w)
    (hs : AllS2 D a0 w0 A V P ops Q is) : AllS2 D a0 w0 A V P ops Q (i :: is) := fun j hj o' ho' f w hB hd hA => by
  rcases List.mem_cons.1 hj with rfl | hj
  · rw [ho] at ho'
    obtain rfl : o = o' := by simpa using ho'
    exact wpOp_step ho (fun K' hK => h f w K' hB (hds ▸ hd) (hds ▸ hA) (fun v w' h1 h2 h3 h4 => hK _ _ ⟨v, rfl, h1, h2, hds ▸ h3, h4⟩))
  · exact hs j hj o' ho' f w hB hd hA
/-- A drawn region. -/
theorem region_inv2 {id : Nat} (hm : P.follows .mixedOrders = true) (D : List Nat) (A : List Nat) (V : Nat → (Nat → Value) → World → Prop)
    (hloc : ∀ j o, ops[j]? = some o → ∀ g g' w, g j = g' j → (∀ k ∈ depsO .any o, g k = g' k) → V j g w → V j g' w)
    (hbox : ∀ j ∈ A, ∀ g w, V j g w → ∃ b, g j = .pointer (some ⟨b, 0, none⟩) ∧ b < w.heap.size)
    (hok : okOs D .any ops.toList 0 = true) (hnd : nodupB (dsts ops.toList 0) = true)
    (steps : AllS2 D a0 w0 A V P ops Q (List.range ops.size))
    (done : ∀ f w, Below w0.heap.size w0 w → (∀ j, j < ops.size → V j (yl ops f) w) → Apt A (List.range ops.size) (yl ops f) → Q .normal (frF D a0 f) w) : (Code.region id ops true).wp P Q a0 w0 := by
  refine wp_region_any hm (wpAny_inv (fun listed a w => listed.size = ops.size ∧ (∀ j o, ops[j]? = some o → listed.getD j false = true → ∀ k ∈ depsO .any o, listed.getD k false = true) ∧ ∃ f, a = frF D a0 f ∧ Below w0.heap.size w0 w ∧ (∀ j, listed.getD j false = true → V j (yl ops f) w) ∧ (∀ i ∈ A, ∀ j ∈ A, listed.getD i false = true → listed.getD j false = true → i ≠ j → yl ops f i ≠ yl ops f j)) ?_ ?_ _ _ _ _ (by simp [unl_rep]) ⟨by simp, fun j o _ hj => ?_, fun k => a0.tmps.getD k undef, (frF_self D a0).symm, (Below.refl _ _).drew, fun j hj => ?_, fun i _ j _ hi => ?_⟩)
  · rintro listed a w i ⟨hsz, hcl, f, rfl, hB, hL, hAp⟩ hi
    obtain ⟨h0, o, ho, hall⟩ := mem_ready.1 hi
    have hil : i < ops.size := (Array.getElem?_eq_some_iff.1 ho).1
    have hge : ops.toList[i]'(by simpa using hil) = o := by
      have := (Array.getElem?_eq_some_iff.1 ho).2
      simpa using this
    have hko := okOs_at _ 0 hok i (by simpa using hil)
    rw [hge, Nat.zero_add] at hko
    have hdn : dstN ops i = dstO o i := by simp [dstN, ho]
    have hdl : ∀ j ∈ depsO .any o, listed.getD j false = true := by
      intro j hj
      unfold depsO at hj
      obtain ⟨e, he, rfl⟩ := List.mem_map.1 hj
      obtain ⟨he1, he2⟩ := List.mem_filter.1 he
      exact hall e (by simpa using he1) (by simpa using he2)
    have hni : listed.getD i false = false := by
      have hjl : i < listed.size := by omega
      simpa [hjl] using h0
    have hkeep : ∀ v j, j ≠ i → listed.getD j false = true → yl ops (upd f (dstN ops i) v) j = yl ops f j := by
      intro v j e hj2
      have hjl : j < ops.size := by
        rw [← hsz]
        rcases Nat.lt_or_ge j listed.size with h | h
        · exact h
        · simp [Array.getElem?_eq_none h] at hj2
      have hne : dstN ops j ≠ dstN ops i := by
        have h1 := nodupB_ne _ hnd j i (by rw [dsts_len]; simpa using hjl) (by rw [dsts_len]; simpa using hil) e
        rw [dsts_at _ 0 j (by simpa using hjl), dsts_at _ 0 i (by simpa using hil)] at h1
        simpa [dstN, hjl, hil] using h1
      exact upd_ne f v hne
    have hself : ∀ v, yl ops (upd f (dstN ops i) v) i = v := fun v => upd_same _ _ _
    refine wpOp_mono ?_ (steps i (List.mem_range.2 hil) o ho f w hB (fun j hj => hL j (hdl j hj)) (fun i1 h1 j1 h2 h3 h4 h5 => hAp i1 h1 j1 h2 (hdl i1 h3) (hdl j1 h4) h5))
    rintro a' w' ⟨v, rfl, hB', hR, hVi, hfr⟩
    have hlist : ∀ j, j ≠ i → (listed.setIfInBounds i true).getD j false = true → listed.getD j false = true := by
      intro j e hj
      rw [getD_set_ne false (Ne.symm e)] at hj; exact hj
    have hdi : ∀ j ∈ depsO .any o, j ≠ i := fun j hj e => by
      have := hdl j hj
      rw [e, hni] at this
      cases this
    refine ⟨by simp [hsz], fun j o' ho' hj k hk => ?_, upd f (dstN ops i) v, ?_, hB.trans hB', fun j hj => ?_, fun i1 h1 j1 h2 h3 h4 h5 => ?_⟩
    · by_cases e : j = i
      · subst e
        rw [ho] at ho'
        obtain rfl : o = o' := by simpa using ho'
        have hkd := hdl k hk
        rw [getD_set_ne false (Ne.symm (hdi k hk))]
        exact hkd
      · have hkd := hcl j o' ho' (hlist j e hj) k hk
        by_cases e2 : k = i
        · subst e2
          rw [hni] at hkd
          cases hkd
        · rw [getD_set_ne false (Ne.symm e2)]
          exact hkd
    · rw [hdn]
      unfold okO at hko
      unfold dstO
      cases hd : o.dst with
      | none =>
        simp only [hd, Bool.and_eq_true, Bool.not_eq_true'] at hko
        show frF D a0 f = _
        unfold frF
        rw [tmOf_out D f _ v hko.1]
      | some d =>
        simp only [hd, Bool.and_eq_true] at hko
        show (⟨(tmOf D f 0 a0.tmps.toList).toArray.setIfInBounds d v, a0.defers⟩ : Act) = _
        unfold frF
        rw [tmOf_upd D f d v hko.1 _ 0 (Nat.zero_le _)]
        simp
    · by_cases e : j = i
      · subst e
        exact hVi _ (hself v) (fun k hk => hkeep v k (hdi k hk) (hdl k hk))
      · have hj2 := hlist j e hj
        have hjl : j < ops.size := by
          rw [← hsz]
          rcases Nat.lt_or_ge j listed.size with h | h
          · exact h
          · simp [Array.getElem?_eq_none h] at hj2
        have hoj : ops[j]? = some ops[j] := by simp [hjl]
        refine hloc j _ hoj (yl ops f) _ w' (hkeep v j e hj2).symm (fun k hk => ?_) (hR j (hL j hj2))
        have hk2 := hcl j _ hoj hj2 k hk
        have hki : k ≠ i := fun e2 => by
          rw [e2, hni] at hk2
          cases hk2
        exact (hkeep v k hki hk2).symm
    · by_cases e1 : i1 = i
      · by_cases e2 : j1 = i
        · exact absurd (e1.trans e2.symm) h5
        · have hj2 := hlist j1 e2 h4
          rw [hkeep v j1 e2 hj2, e1, hself v, hfr (e1 ▸ h1)]
          obtain ⟨b, hb1, hb2⟩ := hbox j1 h2 _ _ (hL j1 hj2)
          rw [hb1]
          intro e3
          have e4 : (⟨w.heap.size, 0, none⟩ : Addr) = ⟨b, 0, none⟩ := by injection e3 with e3; injection e3
          injection e4 with e5
          omega
      · have hi2 := hlist i1 e1 h3
        by_cases e2 : j1 = i
        · rw [hkeep v i1 e1 hi2, e2, hself v, hfr (e2 ▸ h2)]
          obtain ⟨b, hb1, hb2⟩ := hbox i1 h1 _ _ (hL i1 hi2)
          rw [hb1]
          intro e3
          have e4 : (⟨b, 0, none⟩ : Addr) = ⟨w.heap.size, 0, none⟩ := by injection e3 with e3; injection e3
          injection e4 with e5
          omega
        · have hj2 := hlist j1 e2 h4
          rw [hkeep v i1 e1 hi2, hkeep v j1 e2 hj2]
          exact hAp i1 h1 j1 h2 hi2 hj2 h5
  · rintro listed a w ⟨hsz, hcl, f, rfl, hB, hL, hAp⟩ hr
    have hallL : ∀ j, j < ops.size → listed.getD j false = true := by
      intro j hj
      induction j using Nat.strongRecOn with
      | _ j ih =>
        cases hb : listed.getD j false with
        | true => rfl
        | false =>
          exfalso
          have hjl : j < listed.size := by omega
          have hb' : listed.getD j true = false := by simpa [hjl] using hb
          have hko := okOs_at _ 0 hok j (by simpa using hj)
          rw [Nat.zero_add] at hko
          have hmem : j ∈ Region.ready .any ops listed := by
            rw [mem_ready]
            refine ⟨hb', ops[j], by simp [hj], fun e he hbd => ?_⟩
            unfold okO at hko
            rw [Bool.and_eq_true, List.all_eq_true] at hko
            have hlt := hko.2 e.on (by
              unfold depsO
              rw [List.mem_map]
              exact ⟨e, List.mem_filter.2 ⟨by simpa using he, hbd⟩, rfl⟩)
            simp only [decide_eq_true_eq] at hlt
            exact ih e.on hlt (by omega)
          rw [hr] at hmem
          cases hmem
    exact done f w hB (fun j hj => hL j (hallL j hj)) (fun i1 h1 j1 h2 h3 h4 h5 => hAp i1 h1 j1 h2 (hallL i1 (List.mem_range.1 h3)) (hallL j1 (List.mem_range.1 h4)) h5)
  · exfalso
    rcases Nat.lt_or_ge j ops.size with h | h
    · simp [h] at hj
    · simp [h] at hj
  · exfalso
    rcases Nat.lt_or_ge j ops.size with h | h
    · simp [h] at hj
    · simp [h] at hj
  · exfalso
    rcases Nat.lt_or_ge i ops.size with h | h
    · simp [h] at hi
    · simp [h] at hi
end
end Go.Proofs.YtoenijflijfogaaGreat

/- Two numbers' digits, each into an array of its own, in whatever order they come: what the operations yield. -/
namespace Go.Proofs.YtoenijflijfogaaGreat
open Go.RowKit

def uhD (x : Int) : Int := hi x % 18446744073709551616
theorem uhD_bd (x : Int) : 0 ≤ uhD x ∧ uhD x < 18446744073709551616 := by unfold uhD; omega
/-- A number's digits. -/
def dF (x : Int) (j : Nat) : Int := if j < 8 then dig (lo x) j else dig (uhD x) (j - 8)
def wv (x : Int) : Value := .agg #[.int .i64 (hi x), .int .u64 (lo x)]
def dvL (x : Int) : List Value := (List.range 16).map fun j => .int .i64 (dF x j)
def dv (x : Int) : Value := .agg (dvL x).toArray
theorem dvL_len (x : Int) : (dvL x).length = 16 := by simp [dvL]
theorem digits_dv (x : Int) (w : World) : Calls Tryz.prog 72 #[wv x] w fun e w' => e = .returned (dv x) ∧ Below w.heap.size w w' :=
  digits_walk (hi x) (lo x) (uhD x) (lo_bd x).1 (lo_bd x).2 (by rw [IntKind.wrap_u64]; rfl) (uhD_bd x).1 (uhD_bd x).2 w
/-- Room for sixteen digits. -/
def Bd (n0 : Nat) (v : Value) (w : World) : Prop := ∃ b, v = .pointer (some ⟨b, 0, none⟩) ∧ n0 ≤ b ∧ b < w.heap.size ∧ ∃ cs T, w.heap[b]? = some (.cells cs T) ∧ cs.size = 16
def Fd (n0 : Nat) (x : Int) (v : Value) (w : World) : Prop := ∃ b, v = .pointer (some ⟨b, 0, none⟩) ∧ n0 ≤ b ∧ DArr w b (dF x)
theorem Bd.below {n0 : Nat} {v : Value} {w1 w2 : World} (h : Bd n0 v w1) (hb : Below w1.heap.size w1 w2) : Bd n0 v w2 := by
  obtain ⟨b, e, h0, h1, cs, T, h2, h3⟩ := h
  exact ⟨b, e, h0, by have := hb.size; omega, cs, T, (hb.block b h1).trans h2, h3⟩
theorem Fd.below {n0 : Nat} {x : Int} {v : Value} {w1 w2 : World} (h : Fd n0 x v w1) (hb : Below w1.heap.size w1 w2) : Fd n0 x v w2 := by
  obtain ⟨b, e, h0, h1⟩ := h
  exact ⟨b, e, h0, h1.below hb⟩
theorem DArr.same {b : Nat} {f : Nat → Int} {w1 w2 : World} (h : DArr w1 b f) (hs : w1.heap.size ≤ w2.heap.size) (he : w2.heap[b]? = w1.heap[b]?) : DArr w2 b f := by
  obtain ⟨h0, h1, h2⟩ := h
  exact ⟨by omega, fun j hj => by rw [← h1 j hj]; simp only [World.cell?, he], fun j => by rw [← h2 j]; simp only [World.frozen?, he]⟩
theorem Bd.store {n0 : Nat} {v : Value} {w W : World} {g : Nat} {cur : Array Value} {T : TypeId} {vs : List Value} (h : Bd n0 v w) (hc : cur.size = 16) (hS : StW w W g 0 cur T vs) : Bd n0 v W := by
  obtain ⟨b, e, h0, h1, cs, T2, h2, h3⟩ := h
  have hsz := (hS.b 0 (Nat.zero_le _)).size
  by_cases hb : b = g
  · subst hb
    obtain ⟨cur', c1, c2, _⟩ := hS.c
    exact ⟨b, e, h0, by omega, cur', T, c1, by omega⟩
  · exact ⟨b, e, h0, by omega, cs, T2, (hS.o b hb).trans h2, h3⟩
theorem Fd.store {n0 : Nat} {x : Int} {v : Value} {w W : World} {g : Nat} {cur : Array Value} {T : TypeId} {vs : List Value} (h : Fd n0 x v w) (hne : v ≠ .pointer (some ⟨g, 0, none⟩)) (hS : StW w W g 0 cur T vs) : Fd n0 x v W := by
  obtain ⟨b, e, h0, h1⟩ := h
  have hb : b ≠ g := fun e2 => hne (by rw [e, e2])
  exact ⟨b, e, h0, h1.same (hS.b 0 (Nat.zero_le _)).size (hS.o b hb)⟩
theorem Fd.mk {n0 : Nat} {x : Int} {w W : World} {g : Nat} {cur : Array Value} {T : TypeId} (h0 : n0 ≤ g) (hg : g < w.heap.size) (hS : StW w W g 0 cur T (dvL x)) : Fd n0 x (.pointer (some ⟨g, 0, none⟩)) W := by
  have hsz := (hS.b 0 (Nat.zero_le _)).size
  obtain ⟨cur', c1, c2, _, c4⟩ := hS.c
  refine ⟨g, rfl, h0, by omega, fun j hj => ?_, fun j => by simp [World.frozen?, c1]⟩
  have h := c4 j (by rw [dvL_len]; exact hj)
  have e : (dvL x)[j]'(by rw [dvL_len]; exact hj) = .int .i64 (dF x j) := by simp [dvL]
  rw [e, Nat.zero_add] at h
  simp [World.cell?, c1, h]
/-- What each of its operations yields. -/
def dV (x y : Int) (n0 : Nat) : Nat → (Nat → Value) → World → Prop
  | 0, g, _ => g 0 = wv x
  | 1, g, _ => g 1 = dv x
  | 2, g, _ => g 2 = wv y
  | 3, g, _ => g 3 = dv y
  | 4, g, w => Bd n0 (g 4) w
  | 5, g, w => Bd n0 (g 5) w
  | 6, g, w => Fd n0 x (g 4) w
  | 7, g, w => Fd n0 y (g 5) w
  | _, _, _ => True
theorem dV.below {x y : Int} {n0 : Nat} {j : Nat} {g : Nat → Value} {w1 w2 : World} (hb : Below w1.heap.size w1 w2) (h : dV x y n0 j g w1) : dV x y n0 j g w2 := by
  match j, h with
  | 0, h => exact h
  | 1, h => exact h
  | 2, h => exact h
  | 3, h => exact h
  | 4, h => exact Bd.below h hb
  | 5, h => exact Bd.below h hb
  | 6, h => exact Fd.below h hb
  | 7, h => exact Fd.below h hb
  | _ + 8, _ => trivial
theorem dV.store {x y : Int} {n0 : Nat} {j : Nat} {g : Nat → Value} {w1 W : World} {p : Nat} {cs : Array Value} {T : TypeId} {vs : List Value} (hS : StW w1 W p 0 cs T vs) (hc : cs.size = 16)
    (k6 : Fd n0 x (g 4) w1 → Fd n0 x (g 4) W) (k7 : Fd n0 y (g 5) w1 → Fd n0 y (g 5) W) (h : dV x y n0 j g w1) : dV x y n0 j g W := by
  match j, h with
  | 0, h => exact h
  | 1, h => exact h
  | 2, h => exact h
  | 3, h => exact h
  | 4, h => exact Bd.store h hc hS
  | 5, h => exact Bd.store h hc hS
  | 6, h => exact k6 h
  | 7, h => exact k7 h
  | _ + 8, _ => trivial
theorem dV.loc {x y : Int} {n0 : Nat} {j : Nat} {g g' : Nat → Value} {w : World} (hj : g j = g' j) (h4 : j = 6 → g 4 = g' 4) (h5 : j = 7 → g 5 = g' 5) (h : dV x y n0 j g w) : dV x y n0 j g' w := by
  match j, hj, h4, h5, h with
  | 0, hj, _, _, h => exact hj.symm.trans h
  | 1, hj, _, _, h => exact hj.symm.trans h
  | 2, hj, _, _, h => exact hj.symm.trans h
  | 3, hj, _, _, h => exact hj.symm.trans h
  | 4, hj, _, _, h => show Bd n0 (g' 4) w; rw [← hj]; exact h
  | 5, hj, _, _, h => show Bd n0 (g' 5) w; rw [← hj]; exact h
  | 6, _, h4, _, h => show Fd n0 _ (g' 4) w; rw [← h4 rfl]; exact h
  | 7, _, _, h5, h => show Fd n0 _ (g' 5) w; rw [← h5 rfl]; exact h
  | _ + 8, _, _, _, _ => trivial
theorem dV.box {x y : Int} {n0 : Nat} {j : Nat} {g : Nat → Value} {w : World} (hj : j ∈ [4, 5]) (h : dV x y n0 j g w) : ∃ p, g j = .pointer (some ⟨p, 0, none⟩) ∧ p < w.heap.size := by
  simp only [List.mem_cons, List.not_mem_nil, or_false] at hj
  rcases hj with rfl | rfl
  · obtain ⟨p, e, _, h1, _⟩ := h
    exact ⟨p, e, h1⟩
  · obtain ⟨p, e, _, h1, _⟩ := h
    exact ⟨p, e, h1⟩
end Go.Proofs.YtoenijflijfogaaGreat

/- The contract of the reference's From. -/
namespace Go.Proofs.YtoenijflijfogaaGreat
open Go.RowKit

theorem DArr.new (w : World) (f : Nat → Int) (t : TypeId) : DArr (w.alloc (.cells #[.int .i64 (f 0), .int .i64 (f 1), .int .i64 (f 2), .int .i64 (f 3), .int .i64 (f 4), .int .i64 (f 5), .int .i64 (f 6), .int .i64 (f 7), .int .i64 (f 8), .int .i64 (f 9), .int .i64 (f 10), .int .i64 (f 11), .int .i64 (f 12), .int .i64 (f 13), .int .i64 (f 14), .int .i64 (f 15)] t)) w.heap.size f := by
  refine ⟨by simp, fun j hj => ?_, fun j => by simp [go_sem]⟩
  have hjj : j = 0 ∨ j = 1 ∨ j = 2 ∨ j = 3 ∨ j = 4 ∨ j = 5 ∨ j = 6 ∨ j = 7 ∨ j = 8 ∨ j = 9 ∨ j = 10 ∨ j = 11 ∨ j = 12 ∨ j = 13 ∨ j = 14 ∨ j = 15 := by omega
  rcases hjj with rfl | rfl | rfl | rfl | rfl | rfl | rfl | rfl | rfl | rfl | rfl | rfl | rfl | rfl | rfl | rfl <;> simp [go_sem]
set_option maxRecDepth 100000 in
set_option maxHeartbeats 2000000 in
theorem from_any (f : Nat → Int) (zs : List Int) (hl : zs.length = 16) (hz : ∀ x ∈ zs, 0 ≤ x ∧ x ≤ 255) (hf : ∀ j, j < 16 → f j = zs.getD (15 - j) 0) (w : World) :
    Calls Tryz.prog 73 #[.agg #[.int .i64 (f 0), .int .i64 (f 1), .int .i64 (f 2), .int .i64 (f 3), .int .i64 (f 4), .int .i64 (f 5), .int .i64 (f 6), .int .i64 (f 7), .int .i64 (f 8), .int .i64 (f 9), .int .i64 (f 10), .int .i64 (f 11), .int .i64 (f 12), .int .i64 (f 13), .int .i64 (f 14), .int .i64 (f 15)]] w fun e w' => e = .returned (.agg #[.int .i64 (IntKind.i64.wrap (beval (zs.take 8))), .int .u64 (beval (zs.drop 8))]) ∧ Below w.heap.size w w' := by
  have HB0 : Hid (∀ o1 o2, Below w.heap.size w ((w.alloc o1).alloc o2)) := fun o1 o2 => ((Below.refl _ _).alloc (by simp) _).alloc (by simp) _
  have HN : Hid (∀ t, DArr (w.alloc (.cells #[.int .i64 (f 0), .int .i64 (f 1), .int .i64 (f 2), .int .i64 (f 3), .int .i64 (f 4), .int .i64 (f 5), .int .i64 (f 6), .int .i64 (f 7), .int .i64 (f 8), .int .i64 (f 9), .int .i64 (f 10), .int .i64 (f 11), .int .i64 (f 12), .int .i64 (f 13), .int .i64 (f 14), .int .i64 (f 15)] t)) w.heap.size f) := fun t => DArr.new w f t
  obtain ⟨zh, hzh⟩ : ∃ zh, zh = zs.take 8 := ⟨_, rfl⟩
  obtain ⟨zl, hzl⟩ : ∃ zl, zl = zs.drop 8 := ⟨_, rfl⟩
  have lh : zh.length = 8 := by rw [hzh, List.length_take]; omega
  have ll : zl.length = 8 := by rw [hzl, List.length_drop]; omega
  have bh : ∀ x ∈ zh, 0 ≤ x ∧ x ≤ 255 := fun x hx => hz x (by rw [hzh] at hx; exact List.mem_of_mem_take hx)
  have bl : ∀ x ∈ zl, 0 ≤ x ∧ x ≤ 255 := fun x hx => hz x (by rw [hzl] at hx; exact List.mem_of_mem_drop hx)
  have HFH : Hid (∀ m, m < 8 → f (8 + (7 - m)) = zh.getD m 0) := by
    intro m hm
    rw [hf _ (by omega), hzh]
    have e : 15 - (8 + (7 - m)) = m := by omega
    rw [e]; simp [hm]
  have HFL : Hid (∀ m, m < 8 → f (7 - m) = zl.getD m 0) := by
    intro m hm
    rw [hf _ (by omega), hzl]
    have e : 15 - (7 - m) = 8 + m := by omega
    rw [e]; simp [List.getElem?_drop]
  rw [← hzh, ← hzl]
  clear hz hf hl hzh hzl
  go_enter Tryz.func73, Tryz.ntmps73
  go_wp2_with fail
  go_loopw [3, 4, 5] (fun lo hi i wr => ∃ m : Nat, m ≤ 8 ∧ i = .int .i64 (7 - (m : Int)) ∧ lo = .int .u64 (beval (zl.take m)) ∧ hi = .int .u64 (beval (zh.take m)) ∧ DArr wr w.heap.size f ∧ wr.cell? ⟨w.heap.size + 1, 0, none⟩ = some (.int .i64 0) ∧ wr.cell? ⟨w.heap.size + 1, 1, none⟩ = some (.int .u64 0) ∧ wr.frozen? ⟨w.heap.size + 1, 0, none⟩ = false ∧ wr.frozen? ⟨w.heap.size + 1, 1, none⟩ = false ∧ Below w.heap.size w wr) (fun _ _ i _ => (intOf i + 1).toNat)
  case atStart =>
    refine ⟨0, by omega, rfl, rfl, rfl, (HN.out _).below ((Below.refl _ _).alloc (Nat.le_refl _) _), by simp [go_sem], by simp [go_sem], by simp [go_sem], by simp [go_sem], HB0.out _ _⟩
  case round =>
    obtain ⟨m, hm, rfl, rfl, rfl, hd, r0, r1, r2, r3, hbr⟩ := hrel
    by_cases hlt : m < 8
    · obtain ⟨k, hk⟩ : ∃ k : Nat, (7 - (m : Int)) = (k : Int) := ⟨7 - m, by omega⟩
      have ek : k = 7 - m := by omega
      have c1 := hd.2.1 k (by omega)
      have c2 := hd.2.1 (8 + k) (by omega)
      have HT1 : Hid _ := beval_take zl m (by omega)
      have HT2 : Hid _ := beval_take zh m (by omega)
      have d1 := beval_bd zl bl m
      have d2 := beval_bd zh bh m
      have e1 := bl _ (getD_mem zl m (by omega))
      have e2 := bh _ (getD_mem zh m (by omega))
      have hq : (256 : Int) ^ m ≤ 72057594037927936 := by
        have : (256 : Int) ^ m ≤ 256 ^ 7 := by
          have h7 : (256 : Nat) ^ m ≤ 256 ^ 7 := Nat.pow_le_pow_right (by omega) (by omega)
          exact_mod_cast h7
        simpa using this
      rw [ek] at c1 c2
      rw [HFL.out m hlt] at c1
      rw [HFH.out m hlt] at c2
      rw [← ek] at c1 c2
      generalize zl.getD m 0 = x at *
      generalize zh.getD m 0 = y at *
      generalize beval (zl.take m) = A at *
      generalize beval (zh.take m) = B at *
      generalize (256 : Int) ^ m = q at *
      have A1 : A < 72057594037927936 := by omega
      have B1 : B < 72057594037927936 := by omega
      have A0 := d1.1
      have B0 := d2.1
      obtain ⟨x0, x1⟩ := e1
      obtain ⟨y0, y1⟩ := e2
      have w1 : IntKind.u64.wrap (256 * A) = 256 * A := by rw [IntKind.wrap_u64]; omega
      have w2 : IntKind.u64.wrap (256 * B) = 256 * B := by rw [IntKind.wrap_u64]; omega
      have w3 : IntKind.u64.wrap (256 * A + x) = 256 * A + x := by rw [IntKind.wrap_u64]; omega
      have w4 : IntKind.u64.wrap (256 * B + y) = 256 * B + y := by rw [IntKind.wrap_u64]; omega
      have w5 : IntKind.u64.wrap x = x := by rw [IntKind.wrap_u64]; omega
      have w6 : IntKind.u64.wrap y = y := by rw [IntKind.wrap_u64]; omega
      have k7 : (k : Int) ≤ 7 := by omega
      have k16 : (k : Int) < 16 := by omega
      obtain ⟨k8, hk8⟩ : ∃ k8, k8 = 8 + k := ⟨_, rfl⟩
      have w7 : IntKind.i64.wrap (8 + (k : Int)) = (k8 : Int) := by rw [IntKind.wrap_i64]; omega
      have k816 : (k8 : Int) < 16 := by omega
      rw [← hk8] at c2
      have HB : Hid (Below w.heap.size w wr) := hbr
      have HR : Hid (DArr wr w.heap.size f ∧ wr.cell? ⟨w.heap.size + 1, 0, none⟩ = some (.int .i64 0) ∧ wr.cell? ⟨w.heap.size + 1, 1, none⟩ = some (.int .u64 0) ∧ wr.frozen? ⟨w.heap.size + 1, 0, none⟩ = false ∧ wr.frozen? ⟨w.heap.size + 1, 1, none⟩ = false) := ⟨hd, r0, r1, r2, r3⟩
      have HK : Hid (7 - (m : Int) = (k : Int)) := hk
      have HMM : Hid (k = 7 - m) := ek
      rw [hk]
      clear hd hbr d1 d2 hq bh bl r0 r1 r2 r3 hk ek hk8
      go_wp2_with fail
      refine wp_region_noPanic ?_
      refine wp_region_held_drew (S := (fun w' => w'.cell? ⟨w.heap.size, k, none⟩ = some (.int .i64 x) ∧ w'.cell? ⟨w.heap.size, k8, none⟩ = some (.int .i64 y))) (by kernel_rfl) ?_ (fun hHeld => ?_)
      · exact ⟨c1, c2⟩
      refine wpAnyH_take (i := 0) (v := .int .u64 A) rfl (by kernel_rfl) (by kernel_rfl) (by kernel_rfl) (fun _ _ _ h => h) (Or.inl ⟨by rfl, ?_⟩) (by assumption) ?_
      · (intro w1 hSw; (try dsimp only at hSw); go_simp)
      simp only [List.getElem_toArray, List.getElem_cons_zero, Act.put, List.setIfInBounds_toArray, List.set_cons_zero, List.set_cons_succ]
      refine wpAnyH_take (i := 1) (v := .int .u64 (256 * A)) rfl (by kernel_rfl) (by kernel_rfl) (by kernel_rfl) (fun _ _ _ h => h) (Or.inl ⟨by rfl, ?_⟩) (by assumption) ?_
      · (intro w1 hSw; (try dsimp only at hSw); go_simp)
      simp only [List.getElem_toArray, List.getElem_cons_succ, List.getElem_cons_zero, Act.put, List.setIfInBounds_toArray, List.set_cons_zero, List.set_cons_succ]
      refine wpAnyH_take (i := 2) (v := .int .i64 k) rfl (by kernel_rfl) (by kernel_rfl) (by kernel_rfl) (fun _ _ _ h => h) (Or.inl ⟨by rfl, ?_⟩) (by assumption) ?_
      · (intro w1 hSw; (try dsimp only at hSw); go_simp)
      simp only [List.getElem_toArray, List.getElem_cons_succ, List.getElem_cons_zero, Act.put, List.setIfInBounds_toArray, List.set_cons_zero, List.set_cons_succ]
      refine wpAnyH_take (i := 3) (v := .pointer (some ⟨w.heap.size, k, none⟩)) rfl (by kernel_rfl) (by kernel_rfl) (by kernel_rfl) (fun _ _ _ h => h) (Or.inl ⟨by rfl, ?_⟩) (by assumption) ?_
      · (intro w1 hSw; (try dsimp only at hSw); go_simp)
      simp only [List.getElem_toArray, List.getElem_cons_succ, List.getElem_cons_zero, Act.put, List.setIfInBounds_toArray, List.set_cons_zero, List.set_cons_succ]
      refine wpAnyH_take (i := 4) (v := .int .i64 x) rfl (by kernel_rfl) (by kernel_rfl) (by kernel_rfl) (fun _ _ _ h => h) (Or.inl ⟨by rfl, ?_⟩) (by assumption) ?_
      · (intro w1 hSw; (try dsimp only at hSw); go_simp)
      simp only [List.getElem_toArray, List.getElem_cons_succ, List.getElem_cons_zero, Act.put, List.setIfInBounds_toArray, List.set_cons_zero, List.set_cons_succ]
      refine wpAnyH_take (i := 5) (v := .int .u64 x) rfl (by kernel_rfl) (by kernel_rfl) (by kernel_rfl) (fun _ _ _ h => h) (Or.inl ⟨by rfl, ?_⟩) (by assumption) ?_
      · (intro w1 hSw; (try dsimp only at hSw); go_simp)
      simp only [List.getElem_toArray, List.getElem_cons_succ, List.getElem_cons_zero, Act.put, List.setIfInBounds_toArray, List.set_cons_zero, List.set_cons_succ]
      refine wpAnyH_take (i := 6) (v := .int .u64 (256 * A + x)) rfl (by kernel_rfl) (by kernel_rfl) (by kernel_rfl) (fun _ _ _ h => h) (Or.inl ⟨by rfl, ?_⟩) (by assumption) ?_
      · (intro w1 hSw; (try dsimp only at hSw); go_simp)
      simp only [List.getElem_toArray, List.getElem_cons_succ, List.getElem_cons_zero, Act.put, List.setIfInBounds_toArray, List.set_cons_zero, List.set_cons_succ]
      refine wpAnyH_take (i := 7) (v := .int .u64 B) rfl (by kernel_rfl) (by kernel_rfl) (by kernel_rfl) (fun _ _ _ h => h) (Or.inl ⟨by rfl, ?_⟩) (by assumption) ?_
      · (intro w1 hSw; (try dsimp only at hSw); go_simp)
      simp only [List.getElem_toArray, List.getElem_cons_succ, List.getElem_cons_zero, Act.put, List.setIfInBounds_toArray, List.set_cons_zero, List.set_cons_succ]
      refine wpAnyH_take (i := 8) (v := .int .u64 (256 * B)) rfl (by kernel_rfl) (by kernel_rfl) (by kernel_rfl) (fun _ _ _ h => h) (Or.inl ⟨by rfl, ?_⟩) (by assumption) ?_
      · (intro w1 hSw; (try dsimp only at hSw); go_simp)
      simp only [List.getElem_toArray, List.getElem_cons_succ, List.getElem_cons_zero, Act.put, List.setIfInBounds_toArray, List.set_cons_zero, List.set_cons_succ]
      refine wpAnyH_take (i := 9) (v := .int .i64 k) rfl (by kernel_rfl) (by kernel_rfl) (by kernel_rfl) (fun _ _ _ h => h) (Or.inl ⟨by rfl, ?_⟩) (by assumption) ?_
      · (intro w1 hSw; (try dsimp only at hSw); go_simp)
      simp only [List.getElem_toArray, List.getElem_cons_succ, List.getElem_cons_zero, Act.put, List.setIfInBounds_toArray, List.set_cons_zero, List.set_cons_succ]
      refine wpAnyH_take (i := 10) (v := .int .i64 k8) rfl (by kernel_rfl) (by kernel_rfl) (by kernel_rfl) (fun _ _ _ h => h) (Or.inl ⟨by rfl, ?_⟩) (by assumption) ?_
      · (intro w1 hSw; (try dsimp only at hSw); go_simp)
      simp only [List.getElem_toArray, List.getElem_cons_succ, List.getElem_cons_zero, Act.put, List.setIfInBounds_toArray, List.set_cons_zero, List.set_cons_succ]
      refine wpAnyH_take (i := 11) (v := .pointer (some ⟨w.heap.size, k8, none⟩)) rfl (by kernel_rfl) (by kernel_rfl) (by kernel_rfl) (fun _ _ _ h => h) (Or.inl ⟨by rfl, ?_⟩) (by assumption) ?_
      · (intro w1 hSw; (try dsimp only at hSw); go_simp)
      simp only [List.getElem_toArray, List.getElem_cons_succ, List.getElem_cons_zero, Act.put, List.setIfInBounds_toArray, List.set_cons_zero, List.set_cons_succ]
      refine wpAnyH_take (i := 12) (v := .int .i64 y) rfl (by kernel_rfl) (by kernel_rfl) (by kernel_rfl) (fun _ _ _ h => h) (Or.inl ⟨by rfl, ?_⟩) (by assumption) ?_
      · (intro w1 hSw; (try dsimp only at hSw); go_simp)
      simp only [List.getElem_toArray, List.getElem_cons_succ, List.getElem_cons_zero, Act.put, List.setIfInBounds_toArray, List.set_cons_zero, List.set_cons_succ]
      refine wpAnyH_take (i := 13) (v := .int .u64 y) rfl (by kernel_rfl) (by kernel_rfl) (by kernel_rfl) (fun _ _ _ h => h) (Or.inl ⟨by rfl, ?_⟩) (by assumption) ?_
      · (intro w1 hSw; (try dsimp only at hSw); go_simp)
      simp only [List.getElem_toArray, List.getElem_cons_succ, List.getElem_cons_zero, Act.put, List.setIfInBounds_toArray, List.set_cons_zero, List.set_cons_succ]
      refine wpAnyH_take (i := 14) (v := .int .u64 (256 * B + y)) rfl (by kernel_rfl) (by kernel_rfl) (by kernel_rfl) (fun _ _ _ h => h) (Or.inl ⟨by rfl, ?_⟩) (by assumption) ?_
      · (intro w1 hSw; (try dsimp only at hSw); go_simp)
      simp only [List.getElem_toArray, List.getElem_cons_succ, List.getElem_cons_zero, Act.put, List.setIfInBounds_toArray, List.set_cons_zero, List.set_cons_succ]
      refine wpAnyH_take (i := 15) (v := .int .u64 (256 * A + x)) rfl (by kernel_rfl) (by kernel_rfl) (by kernel_rfl) (fun _ _ _ h => h) (Or.inl ⟨by rfl, ?_⟩) (by assumption) ?_
      · (intro w1 hSw; (try dsimp only at hSw); go_simp)
      simp only [List.getElem_toArray, List.getElem_cons_succ, List.getElem_cons_zero, Act.put, List.setIfInBounds_toArray, List.set_cons_zero, List.set_cons_succ]
      refine wpAnyH_take (i := 16) (v := .int .u64 (256 * B + y)) rfl (by kernel_rfl) (by kernel_rfl) (by kernel_rfl) (fun _ _ _ h => h) (Or.inl ⟨by rfl, ?_⟩) (by assumption) ?_
      · (intro w1 hSw; (try dsimp only at hSw); go_simp)
      simp only [List.getElem_toArray, List.getElem_cons_succ, List.getElem_cons_zero, Act.put, List.setIfInBounds_toArray, List.set_cons_zero, List.set_cons_succ]
      refine wpAnyH_done (by kernel_rfl) ?_ _
      refine NoPanic.normal ?_
      go_wp2_with fail
      go_roundw
      case rel =>
        obtain ⟨q1, q2, q3, q4, q5⟩ := HR.out
        refine ⟨m + 1, by omega, ?_, ?_, ?_, q1, q2, q3, q4, q5, HB.out.drew⟩
        · have := HK.out; exact congrArg (Value.int .i64) (by omega)
        · rw [HT1.out]; exact congrArg (Value.int .u64) (by omega)
        · rw [HT2.out]; exact congrArg (Value.int .u64) (by omega)
      case measure => simp [intOf]
    · have hm8 : m = 8 := by omega
      subst hm8
      have t1 : zl.take 8 = zl := List.take_of_length_le (by omega)
      have t2 : zh.take 8 = zh := List.take_of_length_le (by omega)
      rw [t1, t2]
      have HB : Hid (Below w.heap.size w wr) := hbr
      have hsz := hbr.size
      have hi7 : (7 - ((8 : Nat) : Int)) = -1 := by omega
      rw [hi7]
      clear hd hbr bh bl t1 t2 lh ll HFH HFL HN HB0 hi7
      obtain ⟨A, HA⟩ : ∃ A, Hid (A = beval zl) := ⟨_, rfl⟩
      obtain ⟨B, HBB⟩ : ∃ B, Hid (B = beval zh) := ⟨_, rfl⟩
      rw [← HA.out, ← HBB.out]
      go_wp2_with fail
      refine bodyPost_ret (v := .agg #[.int .i64 (wrap64 B), .int .u64 A]) (by simp [results, Tryz.results73, go_sem, *]) rfl ⟨by rw [← HA.out, ← HBB.out, IntKind.wrap_i64]; simp [wrap64], ?_⟩
      exact (HB.out.setCell (p := ⟨w.heap.size + 1, 0, none⟩) (by show w.heap.size ≤ w.heap.size + 1; omega) _).setCell (p := ⟨w.heap.size + 1, 1, none⟩) (by show w.heap.size ≤ w.heap.size + 1; omega) _
end Go.Proofs.YtoenijflijfogaaGreat

/- The digits of sums: pure; the reference's From, of any number's digits. -/
namespace Go.Proofs.YtoenijflijfogaaGreat
open Go.RowKit

theorem dF_div (x : Int) (j : Nat) (hj : j < 16) : dF x j = x / 256 ^ j % 256 := by
  unfold dF dig uhD hi lo
  match j, hj with
  | 0, _ => simp
  | 1, _ => simp; omega
  | 2, _ => simp; omega
  | 3, _ => simp; omega
  | 4, _ => simp; omega
  | 5, _ => simp; omega
  | 6, _ => simp; omega
  | 7, _ => simp; omega
  | 8, _ => simp
  | 9, _ => simp; omega
  | 10, _ => simp; omega
  | 11, _ => simp; omega
  | 12, _ => simp; omega
  | 13, _ => simp; omega
  | 14, _ => simp; omega
  | 15, _ => simp; omega
  | k + 16, h => omega
theorem dF_bds (x : Int) (j : Nat) : 0 ≤ dF x j ∧ dF x j ≤ 255 := by unfold dF dig; split <;> omega
theorem pow256 (x : Int) (j : Nat) : x / 256 ^ (j + 1) = x / 256 ^ j / 256 := by
  rw [Int.pow_succ, ← Int.ediv_ediv_of_nonneg (Int.le_of_lt (Int.pow_pos (by decide)))]
/-- What is carried. -/
def cyF (x y : Int) (j : Nat) : Int := (x + y) / 256 ^ j - x / 256 ^ j - y / 256 ^ j
theorem cy_zero (x y : Int) : cyF x y 0 = 0 := by unfold cyF; simp; omega
theorem cy_rem (x y : Int) (j : Nat) (hj : j < 16) : (dF x j + dF y j + cyF x y j) % 256 = dF (x + y) j := by
  rw [dF_div x j hj, dF_div y j hj, dF_div (x + y) j hj]
  unfold cyF
  generalize x / 256 ^ j = a, y / 256 ^ j = b, (x + y) / 256 ^ j = c
  omega
theorem cy_quo (x y : Int) (j : Nat) (hj : j < 16) : (dF x j + dF y j + cyF x y j) / 256 = cyF x y (j + 1) := by
  rw [dF_div x j hj, dF_div y j hj]
  unfold cyF
  rw [pow256, pow256, pow256]
  generalize x / 256 ^ j = a, y / 256 ^ j = b, (x + y) / 256 ^ j = c
  omega
theorem cy_bd (x y : Int) : ∀ j, j ≤ 16 → 0 ≤ cyF x y j ∧ cyF x y j ≤ 1
  | 0, _ => by rw [cy_zero]; omega
  | j + 1, h => by
    have ih := cy_bd x y j (by omega)
    have h1 := dF_bds x j
    have h2 := dF_bds y j
    rw [← cy_quo x y j (by omega)]
    omega
theorem from_N (x : Int) (w : World) : Calls Tryz.prog 73 #[.agg #[.int .i64 (dF x 0), .int .i64 (dF x 1), .int .i64 (dF x 2), .int .i64 (dF x 3), .int .i64 (dF x 4), .int .i64 (dF x 5), .int .i64 (dF x 6), .int .i64 (dF x 7), .int .i64 (dF x 8), .int .i64 (dF x 9), .int .i64 (dF x 10), .int .i64 (dF x 11), .int .i64 (dF x 12), .int .i64 (dF x 13), .int .i64 (dF x 14), .int .i64 (dF x 15)]] w fun e w' => e = .returned (wv x) ∧ Below w.heap.size w w' := by
  have h := from_any (dF x) ((List.range 16).map fun m => dF x (15 - m)) (by simp) (by
    intro z hz
    obtain ⟨m, _, rfl⟩ := List.mem_map.1 hz
    exact dF_bds x _) (by
    intro j hj
    have e : 15 - (15 - j) = j := by omega
    have hl : 15 - j < 16 := by omega
    simp [hl, e]) w
  have e1 : IntKind.i64.wrap (beval (((List.range 16).map fun m => dF x (15 - m)).take 8)) = hi x := by
    have e : ((List.range 16).map fun m => dF x (15 - m)).take 8 = [dF x 15, dF x 14, dF x 13, dF x 12, dF x 11, dF x 10, dF x 9, dF x 8] := rfl
    rw [e]
    simp only [beval, List.foldl_cons, List.foldl_nil]
    rw [IntKind.wrap_i64]
    unfold hi
    rw [dF_div x 15 (by decide), dF_div x 14 (by decide), dF_div x 13 (by decide), dF_div x 12 (by decide), dF_div x 11 (by decide), dF_div x 10 (by decide), dF_div x 9 (by decide), dF_div x 8 (by decide)]
    simp
    omega
  have e2 : beval (((List.range 16).map fun m => dF x (15 - m)).drop 8) = lo x := by
    have e : ((List.range 16).map fun m => dF x (15 - m)).drop 8 = [dF x 7, dF x 6, dF x 5, dF x 4, dF x 3, dF x 2, dF x 1, dF x 0] := rfl
    rw [e]
    simp only [beval, List.foldl_cons, List.foldl_nil]
    unfold lo
    rw [dF_div x 7 (by decide), dF_div x 6 (by decide), dF_div x 5 (by decide), dF_div x 4 (by decide), dF_div x 3 (by decide), dF_div x 2 (by decide), dF_div x 1 (by decide), dF_div x 0 (by decide)]
    simp
    omega
  rw [e1, e2] at h
  exact h
end Go.Proofs.YtoenijflijfogaaGreat

/- A box of a number, and worlds that were drawn from. -/
namespace Go.Proofs.YtoenijflijfogaaGreat
open Go.RowKit

/-- A box of a number. -/
def NBox (x : Int) (b : Nat) (w : World) : Prop := b < w.heap.size ∧ w.cell? ⟨b, 0, none⟩ = some (.int .i64 (hi x)) ∧ w.cell? ⟨b, 1, none⟩ = some (.int .u64 (lo x))
theorem NBox.below {x : Int} {b : Nat} {w1 w2 : World} (h : NBox x b w1) (hb : Below w1.heap.size w1 w2) : NBox x b w2 := by
  obtain ⟨h0, h1, h2⟩ := h
  have := hb.size
  exact ⟨by omega, (hb.cell (p := ⟨b, 0, none⟩) h0).trans h1, (hb.cell (p := ⟨b, 1, none⟩) h0).trans h2⟩
theorem bel_dN {n : Nat} {w1 w2 : World} (h : Below n w1 w2) (k : Nat) : Below n w1 (w2.drewN k) := h.trans ⟨rfl, rfl, rfl, Nat.le_refl _, fun _ _ => rfl⟩
end Go.Proofs.YtoenijflijfogaaGreat
