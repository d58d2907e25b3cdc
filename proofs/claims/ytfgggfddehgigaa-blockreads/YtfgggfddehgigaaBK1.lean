/- Rows of pairs as bytes: plain words. -/
import Derived.Test.YtfgggfddehgigaaSHp
import Derived.Test.YtfgggfddehgigaaS2
namespace Go.Proofs.Ytfgggfddehgigaa
open Go.RowKit

/-- A key and a value. -/
abbrev Pr := Ks × Ks
/-- How long the front is that both have. -/
def com : Ks → Ks → Nat
  | x :: a, y :: b => if x = y then com a b + 1 else 0
  | _, _ => 0
theorem com_le : ∀ a b : Ks, com a b ≤ a.length ∧ com a b ≤ b.length
  | [], _ => by simp [com]
  | _ :: _, [] => by simp [com]
  | x :: a, y :: b => by have := com_le a b; unfold com; split <;> simp <;> omega
theorem com_take : ∀ a b : Ks, a.take (com a b) = b.take (com a b)
  | [], _ => by simp [com]
  | _ :: _, [] => by simp [com]
  | x :: a, y :: b => by
    unfold com
    split
    · rename_i h; subst h; simp [com_take a b]
    · rfl
theorem com_comm : ∀ a b : Ks, com a b = com b a
  | [], [] => rfl
  | [], _ :: _ => rfl
  | _ :: _, [] => rfl
  | x :: a, y :: b => by
    unfold com
    by_cases h : x = y
    · subst h; simp [com_comm a b]
    · rw [if_neg h, if_neg (fun e => h e.symm)]
theorem com_ne : ∀ (a b : Ks) (h1 : com a b < a.length) (h2 : com a b < b.length), a[com a b] ≠ b[com a b]
  | [], _, h, _ => by simp at h
  | _ :: _, [], _, h => by simp at h
  | x :: a, y :: b, h1, h2 => by
    by_cases h : x = y
    · subst h
      have e : com (x :: a) (x :: b) = com a b + 1 := by rw [com, if_pos rfl]
      have e1 : (x :: a)[com (x :: a) (x :: b)] = a[com a b]'(by rw [e] at h1; simpa using h1) := by simp only [e, List.getElem_cons_succ]
      have e2 : (x :: b)[com (x :: a) (x :: b)] = b[com a b]'(by rw [e] at h2; simpa using h2) := by simp only [e, List.getElem_cons_succ]
      rw [e1, e2]
      exact com_ne a b _ _
    · have e : com (x :: a) (y :: b) = 0 := by rw [com, if_neg h]
      have e1 : (x :: a)[com (x :: a) (y :: b)] = x := by simp only [e, List.getElem_cons_zero]
      have e2 : (y :: b)[com (x :: a) (y :: b)] = y := by simp only [e, List.getElem_cons_zero]
      rw [e1, e2]; exact h
/-- The front that both have, by its marks. -/
theorem com_eq {a b : Ks} {n : Nat} (h1 : n ≤ a.length) (h2 : n ≤ b.length) (h : ∀ j (g1 : j < a.length) (g2 : j < b.length), j < n → a[j] = b[j]) (hn : ∀ (g1 : n < a.length) (g2 : n < b.length), a[n] ≠ b[n]) : com a b = n := by
  induction a generalizing b n with
  | nil => simp at h1; subst h1; rfl
  | cons x a ih =>
    cases b with
    | nil => simp at h2; subst h2; rfl
    | cons y b =>
      cases n with
      | zero => rw [com, if_neg (show x ≠ y from hn (by simp) (by simp))]
      | succ n =>
        have h0 := h 0 (by simp) (by simp) (by omega)
        rw [com, if_pos (show x = y from h0), ih (by simpa using h1) (by simpa using h2) (fun j g1 g2 hj => h (j + 1) (by simpa using g1) (by simpa using g2) (by omega)) (fun g1 g2 => hn (by simpa using g1) (by simpa using g2))]
/-- How many of a key's bytes are not written. -/
def svd (i : Nat) (ah k : Ks) : Nat := if i % 8 = 0 then 0 else com ah k
theorem svd_le (i : Nat) (ah k : Ks) : svd i ah k ≤ ah.length ∧ svd i ah k ≤ k.length := by
  unfold svd; split
  · simp
  · exact com_le ah k
theorem svd_take (i : Nat) (ah k : Ks) : ah.take (svd i ah k) = k.take (svd i ah k) := by
  unfold svd; split
  · simp
  · exact com_take ah k
/-- A pair's bytes. -/
def pb (i : Nat) (ah : Ks) (x : Pr) : List UInt8 := sh (svd i ah x.1) ++ (sh (x.1.length - svd i ah x.1) ++ (sh x.2.length ++ (x.1.drop (svd i ah x.1) ++ x.2)))
/-- The bytes of pairs. -/
def wbF : Nat → Ks → List Pr → List UInt8
  | _, _, [] => []
  | i, ah, x :: l => pb i ah x ++ wbF (i + 1) x.1 l
def wb (l : List Pr) : List UInt8 := wbF 0 [] l
/-- Lengths that may be. -/
def okP (x : Pr) : Prop := x.1.length ≤ 4096 ∧ x.2.length ≤ 4096
instance (x : Pr) : Decidable (okP x) := inferInstanceAs (Decidable (_ ∧ _))
/-- Keys rise, behind a key. -/
def rise : Nat → Ks → List Pr → Prop
  | _, _, [] => True
  | i, ah, x :: l => (0 < i → ltK ah x.1) ∧ rise (i + 1) x.1 l
instance : ∀ (i : Nat) (ah : Ks) (l : List Pr), Decidable (rise i ah l)
  | _, _, [] => isTrue trivial
  | i, _, x :: l => @instDecidableAnd _ _ inferInstance (instDecidableRise (i + 1) x.1 l)
/-- What forbids that pairs are a row. -/
def mbF (l : List Pr) : Int := if 4096 < l.length then 2 else if ¬ (∀ x ∈ l, okP x) then 2 else if ¬ rise 0 [] l then 50 else 0
/-- Three short numbers, and how many bytes they take. -/
def th3 (b : List UInt8) : Option (Nat × Nat × Nat × Nat) :=
  let r0 := rsF b 0 0
  if r0.2.2 ≠ 0 ∨ 4096 < r0.1 then none else
  let r1 := rsF (b.drop r0.2.1) 0 0
  if r1.2.2 ≠ 0 ∨ 4096 < r1.1 then none else
  let r2 := rsF (b.drop (r0.2.1 + r1.2.1)) 0 0
  if r2.2.2 ≠ 0 ∨ 4096 < r2.1 then none else some (r0.1, r1.1, r2.1, r0.2.1 + r1.2.1 + r2.2.1)
/-- The pair at the front of bytes, and how many it takes. -/
def nx (b : List UInt8) (i : Nat) (ah : Ks) : Option (Pr × Nat) :=
  match th3 b with
  | none => none
  | some (s, m, v, t) =>
    if ah.length < s ∨ 4096 < s + m ∨ b.length - t < m + v then none
    else if s ≠ svd i ah (ah.take s ++ (b.drop t).take m) ∨ (0 < i ∧ ¬ ltK ah (ah.take s ++ (b.drop t).take m)) then none
    else some ((ah.take s ++ (b.drop t).take m, (b.drop (t + m)).take v), t + m + v)
theorem rs_one {n : Nat} (h : n ≤ 4096) (m : List UInt8) : rsF (sh n ++ m) 0 0 = (n, (sh n).length, 0) := by
  have := rsF_sh n m 0 0 (by simp) (by simp; omega) (fun h => by omega)
  simpa using this
theorem th3_of {s m v : Nat} (h1 : s ≤ 4096) (h2 : m ≤ 4096) (h3 : v ≤ 4096) (r : List UInt8) : th3 (sh s ++ (sh m ++ (sh v ++ r))) = some (s, m, v, (sh s).length + (sh m).length + (sh v).length) := by
  unfold th3
  simp only [rs_one h1]
  rw [if_neg (by simp; omega)]
  have e1 : (sh s ++ (sh m ++ (sh v ++ r))).drop (sh s).length = sh m ++ (sh v ++ r) := by simp
  simp only [e1, rs_one h2]
  rw [if_neg (by simp; omega)]
  have e2 : (sh s ++ (sh m ++ (sh v ++ r))).drop ((sh s).length + (sh m).length) = sh v ++ r := by rw [← List.drop_drop, e1]; simp
  simp only [e2, rs_one h3]
  rw [if_neg (by simp; omega)]
theorem rs_back {b : List UInt8} (h : ¬ ((rsF b 0 0).2.2 ≠ 0 ∨ 4096 < (rsF b 0 0).1)) : (rsF b 0 0).1 ≤ 4096 ∧ 1 ≤ (rsF b 0 0).2.1 ∧ (rsF b 0 0).2.1 ≤ b.length ∧ b.take (rsF b 0 0).2.1 = sh (rsF b 0 0).1 := by
  have h0 : (rsF b 0 0).2.2 = 0 := Classical.byContradiction fun e => h (.inl e)
  obtain ⟨u, c, g1, g2, g3, g4, g5, _, _⟩ := rsF_ok b 0 0 (rsF b 0 0).1 (rsF b 0 0).2.1 (by rw [← h0]) (by omega) (by simp)
  have e1 : (rsF b 0 0).2.1 = c := by omega
  have e2 : (rsF b 0 0).1 = u := by rw [g4]; simp
  rw [e1, e2, g5]
  refine ⟨?_, g2, g3, rfl⟩
  have : ¬ 4096 < (rsF b 0 0).1 := fun e => h (.inr e)
  omega
theorem th3_back {b : List UInt8} {s m v t : Nat} (h : th3 b = some (s, m, v, t)) : s ≤ 4096 ∧ m ≤ 4096 ∧ v ≤ 4096 ∧ 0 < t ∧ t ≤ b.length ∧ t = (sh s).length + (sh m).length + (sh v).length ∧ b.take t = sh s ++ (sh m ++ sh v) := by
  unfold th3 at h
  simp only at h
  by_cases c0 : (rsF b 0 0).2.2 ≠ 0 ∨ 4096 < (rsF b 0 0).1
  · rw [if_pos c0] at h; cases h
  rw [if_neg c0] at h
  obtain ⟨a1, a2, a3, a4⟩ := rs_back c0
  generalize rsF b 0 0 = r0 at *
  by_cases c1 : (rsF (b.drop r0.2.1) 0 0).2.2 ≠ 0 ∨ 4096 < (rsF (b.drop r0.2.1) 0 0).1
  · rw [if_pos c1] at h; cases h
  rw [if_neg c1] at h
  obtain ⟨b1, b2, b3, b4⟩ := rs_back c1
  generalize rsF (b.drop r0.2.1) 0 0 = r1 at *
  by_cases c2 : (rsF (b.drop (r0.2.1 + r1.2.1)) 0 0).2.2 ≠ 0 ∨ 4096 < (rsF (b.drop (r0.2.1 + r1.2.1)) 0 0).1
  · rw [if_pos c2] at h; cases h
  rw [if_neg c2] at h
  obtain ⟨d1, d2, d3, d4⟩ := rs_back c2
  generalize rsF (b.drop (r0.2.1 + r1.2.1)) 0 0 = r2 at *
  simp only [Option.some.injEq, Prod.mk.injEq] at h
  obtain ⟨rfl, rfl, rfl, rfl⟩ := h
  rw [List.length_drop] at b3 d3
  have l0 : (sh r0.1).length = r0.2.1 := by rw [← a4, List.length_take]; omega
  have l1 : (sh r1.1).length = r1.2.1 := by rw [← b4, List.length_take, List.length_drop]; omega
  have l2 : (sh r2.1).length = r2.2.1 := by rw [← d4, List.length_take, List.length_drop]; omega
  refine ⟨a1, b1, d1, by omega, by omega, by omega, ?_⟩
  rw [List.take_add, List.take_add, a4, b4, d4, List.append_assoc]
theorem pb_len (i : Nat) (ah : Ks) (x : Pr) : (pb i ah x).length = (sh (svd i ah x.1)).length + (sh (x.1.length - svd i ah x.1)).length + (sh x.2.length).length + (x.1.length - svd i ah x.1) + x.2.length := by
  unfold pb; simp; omega
/-- What is written is read. -/
theorem nx_pb {i : Nat} {ah : Ks} {x : Pr} (hx : okP x) (hr : 0 < i → ltK ah x.1) (r : List UInt8) : nx (pb i ah x ++ r) i ah = some (x, (pb i ah x).length) := by
  have hs := svd_le i ah x.1
  have ht := svd_take i ah x.1
  have hl := pb_len i ah x
  obtain ⟨h1, h2⟩ := hx
  have e0 : pb i ah x ++ r = sh (svd i ah x.1) ++ (sh (x.1.length - svd i ah x.1) ++ (sh x.2.length ++ (x.1.drop (svd i ah x.1) ++ (x.2 ++ r)))) := by unfold pb; simp
  have e1 : th3 (pb i ah x ++ r) = some (svd i ah x.1, x.1.length - svd i ah x.1, x.2.length, (sh (svd i ah x.1)).length + (sh (x.1.length - svd i ah x.1)).length + (sh x.2.length).length) := by rw [e0]; exact th3_of (by omega) (by omega) h2 _
  unfold nx
  rw [e1]
  dsimp only
  generalize hT : (sh (svd i ah x.1)).length + (sh (x.1.length - svd i ah x.1)).length + (sh x.2.length).length = T at *
  have d0 : (pb i ah x ++ r).drop T = x.1.drop (svd i ah x.1) ++ (x.2 ++ r) := by
    rw [e0, ← hT, ← List.drop_drop, ← List.drop_drop]; simp
  have d1 : ((pb i ah x ++ r).drop T).take (x.1.length - svd i ah x.1) = x.1.drop (svd i ah x.1) := by
    rw [d0, List.take_append_of_le_length (by simp), List.take_of_length_le (by simp)]
  have d2 : ((pb i ah x ++ r).drop (T + (x.1.length - svd i ah x.1))).take x.2.length = x.2 := by
    rw [← List.drop_drop, d0, List.drop_append_of_le_length (by simp), List.drop_of_length_le (by simp)]; simp
  have k : ah.take (svd i ah x.1) ++ ((pb i ah x ++ r).drop T).take (x.1.length - svd i ah x.1) = x.1 := by
    rw [d1, ht, List.take_append_drop]
  rw [if_neg (by rw [List.length_append]; omega), k, d2, if_neg, hl]
  · rintro (h | ⟨h, h'⟩)
    · exact h rfl
    · exact h' (hr h)
/-- What is read was written so. -/
theorem nx_back {b : List UInt8} {i : Nat} {ah : Ks} {x : Pr} {t : Nat} (h : nx b i ah = some (x, t)) : 0 < t ∧ t ≤ b.length ∧ okP x ∧ (0 < i → ltK ah x.1) ∧ b.take t = pb i ah x := by
  unfold nx at h
  cases h3 : th3 b with
  | none => rw [h3] at h; cases h
  | some q =>
    obtain ⟨s, m, v, T⟩ := q
    rw [h3] at h
    dsimp only at h
    obtain ⟨g1, g2, g3, g4, g5, g6, g7⟩ := th3_back h3
    by_cases c0 : ah.length < s ∨ 4096 < s + m ∨ b.length - T < m + v
    · rw [if_pos c0] at h; cases h
    rw [if_neg c0] at h
    obtain ⟨K, hK⟩ : ∃ K, K = ah.take s ++ (b.drop T).take m := ⟨_, rfl⟩
    rw [← hK] at h
    by_cases c1 : s ≠ svd i ah K ∨ (0 < i ∧ ¬ ltK ah K)
    · rw [if_pos c1] at h; cases h
    rw [if_neg c1] at h
    simp only [Option.some.injEq, Prod.mk.injEq] at h
    obtain ⟨rfl, rfl⟩ := h
    have hs : s = svd i ah K := Classical.byContradiction fun e => c1 (.inl e)
    have lA : (ah.take s).length = s := by rw [List.length_take]; omega
    have lM : ((b.drop T).take m).length = m := by rw [List.length_take, List.length_drop]; omega
    have lV : ((b.drop (T + m)).take v).length = v := by rw [List.length_take, List.length_drop]; omega
    have lK : K.length = s + m := by rw [hK, List.length_append, lA, lM]
    refine ⟨by omega, by omega, ⟨by dsimp only; omega, by dsimp only; omega⟩, fun hi => Classical.byContradiction fun e => c1 (.inr ⟨hi, e⟩), ?_⟩
    unfold pb
    dsimp only
    rw [← hs, lV, lK, show s + m - s = m by omega]
    have dK : K.drop s = (b.drop T).take m := by rw [hK, List.drop_append_of_le_length (by omega), List.drop_of_length_le (by omega)]; simp
    rw [dK, List.take_add, List.take_add, g7]
    simp
/-- The pairs at the front of bytes, and what stands behind them. -/
def prF : Nat → Nat → Ks → List UInt8 → List Pr × List UInt8
  | 0, _, _, b => ([], b)
  | n + 1, i, ah, b => match nx b i ah with
    | none => ([], b)
    | some (x, t) => (x :: (prF n (i + 1) x.1 (b.drop t)).1, (prF n (i + 1) x.1 (b.drop t)).2)
theorem nx_nil (i : Nat) (ah : Ks) : nx [] i ah = none := by unfold nx; rfl
/-- What Read tells. -/
def rdB (b : List UInt8) : Option (List Pr) := if (prF 4096 0 [] b).2 = [] then some (prF 4096 0 [] b).1 else none
theorem prF_wb : ∀ (l : List Pr) (n i : Nat) (ah : Ks), l.length ≤ n → (∀ x ∈ l, okP x) → rise i ah l → prF n i ah (wbF i ah l) = (l, [])
  | [], 0, i, ah, _, _, _ => rfl
  | [], n + 1, i, ah, _, _, _ => by unfold prF wbF; rw [nx_nil]
  | x :: l, 0, i, ah, h, _, _ => by simp at h
  | x :: l, n + 1, i, ah, h, ho, hr => by
    have h1 := nx_pb (ho x List.mem_cons_self) hr.1 (wbF (i + 1) x.1 l)
    unfold prF wbF
    rw [h1]
    dsimp only
    rw [List.drop_left, prF_wb l n (i + 1) x.1 (by simpa using h) (fun y hy => ho y (List.mem_cons_of_mem _ hy)) hr.2]
theorem prF_back : ∀ (n i : Nat) (ah : Ks) (b : List UInt8), (prF n i ah b).1.length ≤ n ∧ (∀ x ∈ (prF n i ah b).1, okP x) ∧ rise i ah (prF n i ah b).1 ∧ b = wbF i ah (prF n i ah b).1 ++ (prF n i ah b).2
  | 0, i, ah, b => by simp [prF, rise, wbF]
  | n + 1, i, ah, b => by
    unfold prF
    cases h : nx b i ah with
    | none => simp [rise, wbF]
    | some q =>
      obtain ⟨x, t⟩ := q
      obtain ⟨h1, h2, h3, h4, h5⟩ := nx_back h
      obtain ⟨j1, j2, j3, j4⟩ := prF_back n (i + 1) x.1 (b.drop t)
      dsimp only
      refine ⟨by simpa using j1, ?_, ⟨h4, j3⟩, ?_⟩
      · intro y hy
        rcases List.mem_cons.1 hy with rfl | hy
        · exact h3
        · exact j2 y hy
      · rw [wbF, List.append_assoc, ← j4, ← h5, List.take_append_drop]
theorem mb_zero {l : List Pr} : mbF l = 0 ↔ l.length ≤ 4096 ∧ (∀ x ∈ l, okP x) ∧ rise 0 [] l := by
  unfold mbF
  by_cases h1 : 4096 < l.length
  · rw [if_pos h1]; constructor
    · intro h; simp at h
    · intro h; omega
  rw [if_neg h1]
  by_cases h2 : ∀ x ∈ l, okP x
  · rw [if_neg (fun h => h h2)]
    by_cases h3 : rise 0 [] l
    · rw [if_neg (fun h => h h3)]; exact ⟨fun _ => ⟨by omega, h2, h3⟩, fun _ => rfl⟩
    · rw [if_pos h3]; exact ⟨fun h => by simp at h, fun h => absurd h.2.2 h3⟩
  · rw [if_pos h2]; exact ⟨fun h => by simp at h, fun h => absurd h.2.1 h2⟩
/-- Rows go there and back. -/
theorem rdB_wb {l : List Pr} (h : mbF l = 0) : rdB (wb l) = some l := by
  obtain ⟨h1, h2, h3⟩ := mb_zero.1 h
  unfold rdB wb
  rw [prF_wb l 4096 0 [] h1 h2 h3, if_pos rfl]
theorem rdB_back {b : List UInt8} {l : List Pr} (h : rdB b = some l) : mbF l = 0 ∧ wb l = b := by
  unfold rdB at h
  by_cases h0 : (prF 4096 0 [] b).2 = []
  · rw [if_pos h0] at h
    obtain ⟨h1, h2, h3, h4⟩ := prF_back 4096 0 [] b
    rw [Option.some.inj h] at *
    refine ⟨mb_zero.2 ⟨h1, h2, h3⟩, ?_⟩
    rw [h0, List.append_nil] at h4
    exact h4.symm
  · rw [if_neg h0] at h; cases h
theorem wb_inj {l m : List Pr} (hl : mbF l = 0) (hm : mbF m = 0) (h : wb l = wb m) : l = m := by
  have h1 := rdB_wb hl
  rw [h, rdB_wb hm] at h1
  exact (Option.some.inj h1).symm
end Go.Proofs.Ytfgggfddehgigaa
