/- MG3 RH, joined. -/
import Derived.Test.YtoenijflijfogaaGreatRC3
import Derived.Test.YtoenijflijfogaaGreatRC4
/- A heap of rows in memory; which part is ahead. -/
namespace Go.Proofs.YtoenijflijfogaaGreat
open Go.RowKit

/-- What is left of a row, in memory: its array, where it begins there, its slice's capacity, its entries; its row's place. -/
structure Pt where
  g : Nat
  o : Nat
  cap : Nat
  xs : List Ev
  r : Nat
def ptZ : Pt := ⟨0, 0, 0, [], 0⟩
def lv (p : Pt) : Value := .slice (some ⟨p.g, p.o, none⟩) p.xs.length p.cap
def p2 (p : Pt) : List Value := [lv p, .int .i64 (p.r : Int)]
def paP (p : Pt) : Pa := (p.xs.map evE, p.r)
def lePt (p q : Pt) : Prop := ltP (paP p) (paP q)
structure PtOk (w : World) (lo hh : Nat) (p : Pt) : Prop where
  g1 : lo ≤ p.g
  g2 : p.g < hh
  n1 : 0 < p.xs.length
  n2 : p.xs.length ≤ p.cap
  n3 : p.cap ≤ maxLen
  ce : ∃ cur, w.heap[p.g]? = some (.cells cur 60) ∧ ∀ j (hj : j < p.xs.length) i (hi : i < 7), cur[p.o + (7 * j + i)]? = some ((c7 p.xs[j])[i]'hi)
  ky : ∀ x ∈ p.xs, Own w lo x.kv x.k
/-- Blocks of cells stay. -/
def Kp (A B : World) : Prop := ∀ (k : Nat) (cs : Array Value) (t : TypeId) (fr : Nat × Nat), A.heap[k]? = some (Obj.cells cs t fr) → B.heap[k]? = some (Obj.cells cs t fr)
theorem Kp.of_below {A B : World} (h : Below A.heap.size A B) : Kp A B := fun k _ _ _ hk => (h.block k (Array.getElem?_eq_some_iff.1 hk).1).trans hk
theorem own_kp {A B : World} {base : Nat} {v : Value} {l : List UInt8} (h : Own A base v l) (hk : ∀ (k : Nat) (cs : Array Value) (fr : Nat × Nat), A.heap[k]? = some (Obj.cells cs 5 fr) → B.heap[k]? = some (Obj.cells cs 5 fr)) : Own B base v l := by
  obtain ⟨h1, h2⟩ := h
  refine ⟨h1, ?_⟩
  rcases h2 with h2 | ⟨g, cap, cur, hv, hg, hw, r⟩
  · exact .inl h2
  · exact .inr ⟨g, cap, cur, hv, hg, hk _ _ _ hw, r⟩
theorem row_kp {A B : World} {base n sz : Nat} {e : TypeId} {v : Value} {xs : List Value} (h : A.ownsRow base e sz v n xs) (hk : Kp A B) : B.ownsRow base e sz v n xs := by
  obtain ⟨h1, h2⟩ := h
  refine ⟨h1, ?_⟩
  rcases h2 with h2 | ⟨g, cap, cur, hv, hg, hw, r⟩
  · exact .inl h2
  · exact .inr ⟨g, cap, cur, hv, hg, hk _ _ _ _ hw, r⟩
theorem PtOk.kp {A B : World} {lo hh : Nat} {p : Pt} (h : PtOk A lo hh p) (hk : Kp A B) : PtOk B lo hh p := by
  obtain ⟨cur, h1, h2⟩ := h.ce
  exact ⟨h.g1, h.g2, h.n1, h.n2, h.n3, ⟨cur, hk _ _ _ _ h1, h2⟩, fun x hx => own_kp (h.ky x hx) (fun _ _ _ q => hk _ _ _ _ q)⟩
/-- A part's first entry. -/
theorem PtOk.first {w : World} {lo hh : Nat} {p : Pt} (h : PtOk w lo hh p) : ∃ x xs, p.xs = x :: xs ∧ p.g < w.heap.size ∧ (∀ i (hi : i < 7), w.cell? ⟨p.g, p.o + i, none⟩ = some ((c7 x)[i]'hi) ∧ w.frozen? ⟨p.g, p.o + i, none⟩ = false) ∧ Own w lo x.kv x.k := by
  have h1 := h.n1
  obtain ⟨cur, h2, h3⟩ := h.ce
  cases hx : p.xs with
  | nil => rw [hx] at h1; simp at h1
  | cons x xs =>
    refine ⟨x, xs, rfl, (Array.getElem?_eq_some_iff.1 h2).1, fun i hi => ⟨?_, by simp [World.frozen?, h2]⟩, h.ky x (by rw [hx]; exact List.mem_cons_self ..)⟩
    have := h3 0 h1 i hi
    simp only [hx, Nat.mul_zero, Nat.zero_add, List.getElem_cons_zero] at this
    rw [Go.Joins.cell_of_block h2 (p.o + i), this]
    congr 1
end Go.Proofs.YtoenijflijfogaaGreat

/- A drawn region with a store at its end: what is loaded ahead of it is taken in the world ahead of it. -/
namespace Go.Proofs.YtoenijflijfogaaGreat
open Go.RowKit

section
variable {P : Program} {ops : Array Oper} {Q : Exit → Act → World → Prop} {md : Region.Mode} {k : Nat} {St Pr : World → Prop}
/-- What holds all the time, and what holds till operation k has come up. -/
def StK (k : Nat) (St Pr : World → Prop) (L : Array Bool) (w : World) : Prop := St w ∧ (L.getD k false = false → Pr w)
def wpAnyS (P : Program) (md : Region.Mode) (ops : Array Oper) (Q : Exit → Act → World → Prop) (k : Nat) (St Pr : World → Prop) : Nat → Array Bool → Act → World → Prop
  | 0, listed, a, w => Region.ready md ops listed = [] ∧ Q .normal a w
  | fuel + 1, listed, a, w =>
    (Region.ready md ops listed = [] → Q .normal a w) ∧
    ∀ i ∈ Region.ready md ops listed, wpOp P ops Q i (fun a' w' => StK k St Pr (listed.setIfInBounds i true) w' ∧ wpAnyS P md ops Q k St Pr fuel (listed.setIfInBounds i true) a' w') a w
theorem wpAny_of_S : ∀ (fuel : Nat) (listed : Array Bool) (a : Act) (w : World), wpAnyS P md ops Q k St Pr fuel listed a w → wpAny P md ops Q fuel listed a w
  | 0, _, _, _, h => h
  | fuel + 1, _, _, _, h => ⟨h.1, fun i hi => wpOp_mono (fun a' w' h' => wpAny_of_S fuel _ a' w' h'.2) (h.2 i hi)⟩
/-- Whatever came up, what it waits for came up. -/
def Cl (md : Region.Mode) (ops : Array Oper) (L : Array Bool) : Prop := ∀ j o, ops[j]? = some o → L.getD j false = true → ∀ e ∈ o.after, Region.binds md e = true → L.getD e.on false = true
def clB (md : Region.Mode) (ops : Array Oper) (L : Array Bool) : Bool := (List.range ops.size).all fun j => !L.getD j false || match ops[j]? with | some o => o.after.all (fun e => !Region.binds md e || L.getD e.on false) | none => true
theorem clB_spec {L : Array Bool} (h : clB md ops L = true) : Cl md ops L := by
  intro j o ho hl e he hb
  have h1 := List.all_eq_true.1 h j (List.mem_range.2 (Array.getElem?_eq_some_iff.1 ho).1)
  rw [hl, ho] at h1
  simp only [Bool.not_true, Bool.false_or] at h1
  have h2 := Array.all_eq_true_iff_forall_mem.1 h1 e he
  rw [hb] at h2
  simpa using h2
theorem Cl.set {L : Array Bool} {j : Nat} (h : Cl md ops L) (hj : j ∈ Region.ready md ops L) : Cl md ops (L.setIfInBounds j true) := by
  obtain ⟨_, o, ho, hall⟩ := mem_ready.1 hj
  intro i oi hoi hl e he hb
  by_cases hij : j = i
  · subst hij
    rw [ho] at hoi
    obtain rfl : o = oi := by simpa using hoi
    exact getD_set_true (hall e he hb)
  · rw [getD_set_ne false hij] at hl
    exact getD_set_true (h i oi hoi hl e he hb)
/-- Does operation k wait for i? -/
def waits (md : Region.Mode) (ops : Array Oper) (k i : Nat) : Bool := match ops[k]? with | some o => o.after.any (fun e => Region.binds md e && e.on == i) | none => false
theorem wpAnyS_first {i : Nat} {oi : Oper} {v : Value} (hi : ops[i]? = some oi) (hsel : ∀ (j : Nat) (o : Oper) cs b, ops[j]? = some o → o.op ≠ .select cs b)
    (hQ : ∀ c a w, Q (.panic c) (a.put oi.dst v) w → Q (.panic c) a w) (hik : i ≠ k) (dep : Bool) (hdep : waits md ops k i = dep) :
    ∀ (fuel : Nat) (listed : Array Bool) (a : Act) (w : World), Cl md ops listed →
      (∀ j oj, ops[j]? = some oj → j ≠ i → listed.getD j true = false → (∀ e ∈ oj.after, Region.binds md e = true → e.on ≠ i) → oi.apart ops oj = true) →
      i ∈ Region.ready md ops listed → YieldsIf P ops (fun w' => St w' ∧ (dep = true → Pr w')) oi v a → StK k St Pr listed w →
      wpAnyS P md ops Q k St Pr fuel (listed.setIfInBounds i true) (a.put oi.dst v) w → wpAnyS P md ops Q k St Pr (fuel + 1) listed a w := by
  have hdone : ∀ (listed : Array Bool) (w : World), Cl md ops listed → i ∈ Region.ready md ops listed → StK k St Pr listed w → (St w ∧ (dep = true → Pr w)) := fun listed w hcl hr hS => by
    refine ⟨hS.1, fun hd => hS.2 ?_⟩
    subst hdep
    unfold waits at hd
    cases hok : ops[k]? with
    | none => rw [hok] at hd; cases hd
    | some ok =>
      rw [hok] at hd
      obtain ⟨e, he, hq⟩ := Array.any_eq_true'.1 hd
      simp only [Bool.and_eq_true, beq_iff_eq] at hq
      cases hl : listed.getD k false with
      | false => rfl
      | true =>
        have h1 := hcl k ok hok hl e he hq.1
        rw [hq.2] at h1
        have h0 := (mem_ready.1 hr).1
        rcases Nat.lt_or_ge i listed.size with h' | h'
        · simp [h'] at h0 h1; rw [h0] at h1; cases h1
        · simp [Array.getElem?_eq_none h'] at h1
  have hset : ∀ (listed : Array Bool) (w : World), StK k St Pr listed w → StK k St Pr (listed.setIfInBounds i true) w := fun listed w h => ⟨h.1, fun hk => h.2 (by rw [getD_set_ne false hik] at hk; exact hk)⟩
  intro fuel
  induction fuel with
  | zero =>
    intro listed a w hcl _ hr hy hS H
    refine ⟨fun h => (by rw [h] at hr; cases hr), fun j hj => ?_⟩
    by_cases hji : j = i
    · subst hji; exact YieldsIf.wpOp (S := fun w' => St w' ∧ (dep = true → Pr w')) hi hy (hdone _ _ hcl hr hS) ⟨hset _ _ hS, H⟩
    · have := ready_mono hj hji
      rw [H.1] at this
      cases this
  | succ fuel ih =>
    intro listed a w hcl hfree hr hy hS H
    refine ⟨fun h => (by rw [h] at hr; cases hr), fun j hj => ?_⟩
    by_cases hji : j = i
    · subst hji; exact YieldsIf.wpOp (S := fun w' => St w' ∧ (dep = true → Pr w')) hi hy (hdone _ _ hcl hr hS) ⟨hset _ _ hS, H⟩
    · have h1 := H.2 j (ready_mono hj hji)
      obtain ⟨hjun, oj, hoj, hall⟩ := mem_ready.1 hj
      have hnot : ∀ e ∈ oj.after, Region.binds md e = true → e.on ≠ i := fun e he hb heq => by
        have h1 := hall e he hb
        have h0 := (mem_ready.1 hr).1
        rw [heq] at h1
        rcases Nat.lt_or_ge i listed.size with h' | h'
        · simp [h'] at h0 h1; rw [h0] at h1; cases h1
        · simp [Array.getElem?_eq_none h'] at h1
      have h2 := wpOp_putIf hoj (hfree j oj hoj hji hjun hnot) (fun cs b => hsel i oi cs b hi) (fun cs b => hsel j oj cs b hoj) hQ hy h1
      have hfree' : ∀ k ok, ops[k]? = some ok → k ≠ i → (listed.setIfInBounds j true).getD k true = false →
          (∀ e ∈ ok.after, Region.binds md e = true → e.on ≠ i) → oi.apart ops ok = true := fun k ok hk hki hun hno => by
        refine hfree k ok hk hki ?_ hno
        by_cases hjk : j = k
        · subst hjk; exact hjun
        · rw [getD_set_ne true hjk] at hun; exact hun
      refine wpOp_mono (fun a' w' h3 => ?_) h2
      have hS' : StK k St Pr (listed.setIfInBounds j true) w' := ⟨h3.2.1.1, fun hk => h3.2.1.2 (by
        rw [Array.setIfInBounds_comm _ _ (Ne.symm hji), getD_set_ne false hik]; exact hk)⟩
      refine ⟨hS', ih (listed.setIfInBounds j true) a' w' (hcl.set hj) hfree' (ready_mono hr (Ne.symm hji)) h3.1 hS' ?_⟩
      rw [Array.setIfInBounds_comm _ _ hji]
      exact h3.2.2
theorem wpAnyS_take {i : Nat} {oi : Oper} {v : Value} {fuel : Nat} {listed : Array Bool} {a : Act} {w : World} (dep : Bool) (hi : ops[i]? = some oi)
    (hs : Region.noSelect ops = true) (hf : Region.free md ops listed i = true) (hr : (Region.ready md ops listed).contains i = true) (hcl : clB md ops listed = true) (hik : Nat.beq i k = false) (hdep : waits md ops k i = dep)
    (hQ : ∀ c a w, Q (.panic c) (a.put oi.dst v) w → Q (.panic c) a w) (hy : YieldsIf P ops (fun w' => St w' ∧ (dep = true → Pr w')) oi v a) (hS : StK k St Pr listed w)
    (h : StK k St Pr (listed.setIfInBounds i true) w → wpAnyS P md ops Q k St Pr fuel (listed.setIfInBounds i true) (a.put oi.dst v) w) : wpAnyS P md ops Q k St Pr (fuel + 1) listed a w := by
  have hne : i ≠ k := fun e => by subst e; simp at hik
  exact wpAnyS_first hi (Region.noSelect_spec hs) hQ hne dep hdep fuel listed a w (clB_spec hcl) (Region.free_spec hi hf) (by simpa using hr) hy hS (h ⟨hS.1, fun hk => hS.2 (by rw [getD_set_ne false hne] at hk; exact hk)⟩)
theorem wpAnyS_ready {i : Nat} {o : Oper} {fuel : Nat} {listed : Array Bool} {a : Act} {w : World} (hr : Region.ready md ops listed = [i]) (ho : ops[i]? = some o)
    (h : ∀ K : Act → World → Prop, Shut (∀ a w, StK k St Pr (listed.setIfInBounds i true) w → (StK k St Pr (listed.setIfInBounds i true) w → wpAnyS P md ops Q k St Pr fuel (listed.setIfInBounds i true) a w) → K a w) → if Region.wanted o (yielded ops a.tmps) = true then Oper.wp P o a w K Q else K (a.put o.dst undef) w) : wpAnyS P md ops Q k St Pr (fuel + 1) listed a w := by
  refine ⟨fun h0 => (by rw [hr] at h0; cases h0), fun j hj => ?_⟩
  rw [hr] at hj
  obtain rfl : j = i := by simpa using hj
  exact wpOp_step ho (fun K' hK => h K' (fun a w h1 h2 => hK a w ⟨h1, h2 h1⟩))
theorem wpAnyS_done {listed : Array Bool} {a : Act} {w : World} (hr : Region.ready md ops listed = []) (h : Q .normal a w) : ∀ fuel, wpAnyS P md ops Q k St Pr fuel listed a w
  | 0 => ⟨hr, h⟩
  | _ + 1 => ⟨fun _ => h, by rw [hr]; simp⟩
theorem wp_region_S {id : Nat} {a : Act} {w : World} (k : Nat) (St Pr : World → Prop) (hm : P.follows .mixedOrders = true) (hS : St w.drew) (hP : Pr w.drew)
    (h : StK k St Pr (Array.replicate ops.size false) w.drew → wpAnyS P .any ops Q k St Pr ops.size (Array.replicate ops.size false) a w.drew) : (Code.region id ops true).wp P Q a w :=
  wp_region_any hm (wpAny_of_S _ _ _ _ (h ⟨hS, fun _ => hP⟩))
end
end Go.Proofs.YtoenijflijfogaaGreat
