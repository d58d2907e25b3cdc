/- BK1 OP BK2 BK3, joined. -/
import Derived.Test.YtlpjdfgknmfmnaaTF4
import Derived.Test.YtlpjdfgknmfmnaaTF7
import Derived.Test.YtlpjdfgknmfmnaaTF14
import Derived.Deep.Slices
import Derived.ProofKit
import Derived.OpenShut
import Derived.Lib.SmallJoins
import Derived.BigQuiet
import Derived.Deep.QuietTactic
/- Rows of pairs as bytes: plain words. -/
namespace Go.Proofs.Ytlpjdfgknmfmnaa
open Go.RowKit

/-- A key and a value. -/
abbrev Pr := Ks × Ks
/-- How long the front is that both have. -/
def com : Ks → Ks → Nat
  | x :: a, y :: b => if x = y then com a b + 1 else 0
  | _, _ => 0
theorem com_le : ∀ a b : Ks, com a b ≤ a.length ∧ com a b ≤ b.length
  | [], _ => by simp [com]
  | _ :: _, [] => by simp [com]
  | x :: a, y :: b => by have := com_le a b; unfold com; split <;> simp <;> omega
theorem com_take : ∀ a b : Ks, a.take (com a b) = b.take (com a b)
  | [], _ => by simp [com]
  | _ :: _, [] => by simp [com]
  | x :: a, y :: b => by
    unfold com
    split
    · rename_i h; subst h; simp [com_take a b]
    · rfl
/-- The front that both have, by its marks. -/
theorem com_eq {a b : Ks} {n : Nat} (h1 : n ≤ a.length) (h2 : n ≤ b.length) (h : ∀ j (g1 : j < a.length) (g2 : j < b.length), j < n → a[j] = b[j]) (hn : ∀ (g1 : n < a.length) (g2 : n < b.length), a[n] ≠ b[n]) : com a b = n := by
  induction a generalizing b n with
  | nil => simp at h1; subst h1; rfl
  | cons x a ih =>
    cases b with
    | nil => simp at h2; subst h2; rfl
    | cons y b =>
      cases n with
      | zero => rw [com, if_neg (show x ≠ y from hn (by simp) (by simp))]
      | succ n =>
        have h0 := h 0 (by simp) (by simp) (by omega)
        rw [com, if_pos (show x = y from h0), ih (by simpa using h1) (by simpa using h2) (fun j g1 g2 hj => h (j + 1) (by simpa using g1) (by simpa using g2) (by omega)) (fun g1 g2 => hn (by simpa using g1) (by simpa using g2))]
/-- How many of a key's bytes are not written. -/
def svd (i : Nat) (ah k : Ks) : Nat := if i % 8 = 0 then 0 else com ah k
theorem svd_le (i : Nat) (ah k : Ks) : svd i ah k ≤ ah.length ∧ svd i ah k ≤ k.length := by
  unfold svd; split
  · simp
  · exact com_le ah k
theorem svd_take (i : Nat) (ah k : Ks) : ah.take (svd i ah k) = k.take (svd i ah k) := by
  unfold svd; split
  · simp
  · exact com_take ah k
/-- A pair's bytes. -/
def pb (i : Nat) (ah : Ks) (x : Pr) : List UInt8 := sh (svd i ah x.1) ++ (sh (x.1.length - svd i ah x.1) ++ (sh x.2.length ++ (x.1.drop (svd i ah x.1) ++ x.2)))
/-- The bytes of pairs. -/
def wbF : Nat → Ks → List Pr → List UInt8
  | _, _, [] => []
  | i, ah, x :: l => pb i ah x ++ wbF (i + 1) x.1 l
def wb (l : List Pr) : List UInt8 := wbF 0 [] l
/-- Lengths that may be. -/
def okP (x : Pr) : Prop := x.1.length ≤ 4096 ∧ x.2.length ≤ 4096
instance (x : Pr) : Decidable (okP x) := inferInstanceAs (Decidable (_ ∧ _))
/-- Keys rise, behind a key. -/
def rise : Nat → Ks → List Pr → Prop
  | _, _, [] => True
  | i, ah, x :: l => (0 < i → ltK ah x.1) ∧ rise (i + 1) x.1 l
instance : ∀ (i : Nat) (ah : Ks) (l : List Pr), Decidable (rise i ah l)
  | _, _, [] => isTrue trivial
  | i, _, x :: l => @instDecidableAnd _ _ inferInstance (instDecidableRise (i + 1) x.1 l)
/-- What forbids that pairs are a row. -/
def mbF (l : List Pr) : Int := if 4096 < l.length then 2 else if ¬ (∀ x ∈ l, okP x) then 2 else if ¬ rise 0 [] l then 50 else 0
/-- Three short numbers, and how many bytes they take. -/
def th3 (b : List UInt8) : Option (Nat × Nat × Nat × Nat) :=
  let r0 := rsF b 0 0
  if r0.2.2 ≠ 0 ∨ 4096 < r0.1 then none else
  let r1 := rsF (b.drop r0.2.1) 0 0
  if r1.2.2 ≠ 0 ∨ 4096 < r1.1 then none else
  let r2 := rsF (b.drop (r0.2.1 + r1.2.1)) 0 0
  if r2.2.2 ≠ 0 ∨ 4096 < r2.1 then none else some (r0.1, r1.1, r2.1, r0.2.1 + r1.2.1 + r2.2.1)
/-- The pair at the front of bytes, and how many it takes. -/
def nx (b : List UInt8) (i : Nat) (ah : Ks) : Option (Pr × Nat) :=
  match th3 b with
  | none => none
  | some (s, m, v, t) =>
    if ah.length < s ∨ 4096 < s + m ∨ b.length - t < m + v then none
    else if s ≠ svd i ah (ah.take s ++ (b.drop t).take m) ∨ (0 < i ∧ ¬ ltK ah (ah.take s ++ (b.drop t).take m)) then none
    else some ((ah.take s ++ (b.drop t).take m, (b.drop (t + m)).take v), t + m + v)
theorem rs_one {n : Nat} (h : n ≤ 4096) (m : List UInt8) : rsF (sh n ++ m) 0 0 = (n, (sh n).length, 0) := by
  have := rsF_sh n m 0 0 (by simp) (by simp; omega) (fun h => by omega)
  simpa using this
theorem th3_of {s m v : Nat} (h1 : s ≤ 4096) (h2 : m ≤ 4096) (h3 : v ≤ 4096) (r : List UInt8) : th3 (sh s ++ (sh m ++ (sh v ++ r))) = some (s, m, v, (sh s).length + (sh m).length + (sh v).length) := by
  unfold th3
  simp only [rs_one h1]
  rw [if_neg (by simp; omega)]
  have e1 : (sh s ++ (sh m ++ (sh v ++ r))).drop (sh s).length = sh m ++ (sh v ++ r) := by simp
  simp only [e1, rs_one h2]
  rw [if_neg (by simp; omega)]
  have e2 : (sh s ++ (sh m ++ (sh v ++ r))).drop ((sh s).length + (sh m).length) = sh v ++ r := by rw [← List.drop_drop, e1]; simp
  simp only [e2, rs_one h3]
  rw [if_neg (by simp; omega)]
theorem rs_back {b : List UInt8} (h : ¬ ((rsF b 0 0).2.2 ≠ 0 ∨ 4096 < (rsF b 0 0).1)) : (rsF b 0 0).1 ≤ 4096 ∧ 1 ≤ (rsF b 0 0).2.1 ∧ (rsF b 0 0).2.1 ≤ b.length ∧ b.take (rsF b 0 0).2.1 = sh (rsF b 0 0).1 := by
  have h0 : (rsF b 0 0).2.2 = 0 := Classical.byContradiction fun e => h (.inl e)
  obtain ⟨u, c, g1, g2, g3, g4, g5, _, _⟩ := rsF_ok b 0 0 (rsF b 0 0).1 (rsF b 0 0).2.1 (by rw [← h0]) (by omega) (by simp)
  have e1 : (rsF b 0 0).2.1 = c := by omega
  have e2 : (rsF b 0 0).1 = u := by rw [g4]; simp
  rw [e1, e2, g5]
  refine ⟨?_, g2, g3, rfl⟩
  have : ¬ 4096 < (rsF b 0 0).1 := fun e => h (.inr e)
  omega
theorem th3_back {b : List UInt8} {s m v t : Nat} (h : th3 b = some (s, m, v, t)) : s ≤ 4096 ∧ m ≤ 4096 ∧ v ≤ 4096 ∧ 0 < t ∧ t ≤ b.length ∧ t = (sh s).length + (sh m).length + (sh v).length ∧ b.take t = sh s ++ (sh m ++ sh v) := by
  unfold th3 at h
  simp only at h
  by_cases c0 : (rsF b 0 0).2.2 ≠ 0 ∨ 4096 < (rsF b 0 0).1
  · rw [if_pos c0] at h; cases h
  rw [if_neg c0] at h
  obtain ⟨a1, a2, a3, a4⟩ := rs_back c0
  generalize rsF b 0 0 = r0 at *
  by_cases c1 : (rsF (b.drop r0.2.1) 0 0).2.2 ≠ 0 ∨ 4096 < (rsF (b.drop r0.2.1) 0 0).1
  · rw [if_pos c1] at h; cases h
  rw [if_neg c1] at h
  obtain ⟨b1, b2, b3, b4⟩ := rs_back c1
  generalize rsF (b.drop r0.2.1) 0 0 = r1 at *
  by_cases c2 : (rsF (b.drop (r0.2.1 + r1.2.1)) 0 0).2.2 ≠ 0 ∨ 4096 < (rsF (b.drop (r0.2.1 + r1.2.1)) 0 0).1
  · rw [if_pos c2] at h; cases h
  rw [if_neg c2] at h
  obtain ⟨d1, d2, d3, d4⟩ := rs_back c2
  generalize rsF (b.drop (r0.2.1 + r1.2.1)) 0 0 = r2 at *
  simp only [Option.some.injEq, Prod.mk.injEq] at h
  obtain ⟨rfl, rfl, rfl, rfl⟩ := h
  rw [List.length_drop] at b3 d3
  have l0 : (sh r0.1).length = r0.2.1 := by rw [← a4, List.length_take]; omega
  have l1 : (sh r1.1).length = r1.2.1 := by rw [← b4, List.length_take, List.length_drop]; omega
  have l2 : (sh r2.1).length = r2.2.1 := by rw [← d4, List.length_take, List.length_drop]; omega
  refine ⟨a1, b1, d1, by omega, by omega, by omega, ?_⟩
  rw [List.take_add, List.take_add, a4, b4, d4, List.append_assoc]
theorem pb_len (i : Nat) (ah : Ks) (x : Pr) : (pb i ah x).length = (sh (svd i ah x.1)).length + (sh (x.1.length - svd i ah x.1)).length + (sh x.2.length).length + (x.1.length - svd i ah x.1) + x.2.length := by
  unfold pb; simp; omega
/-- What is written is read. -/
theorem nx_pb {i : Nat} {ah : Ks} {x : Pr} (hx : okP x) (hr : 0 < i → ltK ah x.1) (r : List UInt8) : nx (pb i ah x ++ r) i ah = some (x, (pb i ah x).length) := by
  have hs := svd_le i ah x.1
  have ht := svd_take i ah x.1
  have hl := pb_len i ah x
  obtain ⟨h1, h2⟩ := hx
  have e0 : pb i ah x ++ r = sh (svd i ah x.1) ++ (sh (x.1.length - svd i ah x.1) ++ (sh x.2.length ++ (x.1.drop (svd i ah x.1) ++ (x.2 ++ r)))) := by unfold pb; simp
  have e1 : th3 (pb i ah x ++ r) = some (svd i ah x.1, x.1.length - svd i ah x.1, x.2.length, (sh (svd i ah x.1)).length + (sh (x.1.length - svd i ah x.1)).length + (sh x.2.length).length) := by rw [e0]; exact th3_of (by omega) (by omega) h2 _
  unfold nx
  rw [e1]
  dsimp only
  generalize hT : (sh (svd i ah x.1)).length + (sh (x.1.length - svd i ah x.1)).length + (sh x.2.length).length = T at *
  have d0 : (pb i ah x ++ r).drop T = x.1.drop (svd i ah x.1) ++ (x.2 ++ r) := by
    rw [e0, ← hT, ← List.drop_drop, ← List.drop_drop]; simp
  have d1 : ((pb i ah x ++ r).drop T).take (x.1.length - svd i ah x.1) = x.1.drop (svd i ah x.1) := by
    rw [d0, List.take_append_of_le_length (by simp), List.take_of_length_le (by simp)]
  have d2 : ((pb i ah x ++ r).drop (T + (x.1.length - svd i ah x.1))).take x.2.length = x.2 := by
    rw [← List.drop_drop, d0, List.drop_append_of_le_length (by simp), List.drop_of_length_le (by simp)]; simp
  have k : ah.take (svd i ah x.1) ++ ((pb i ah x ++ r).drop T).take (x.1.length - svd i ah x.1) = x.1 := by
    rw [d1, ht, List.take_append_drop]
  rw [if_neg (by rw [List.length_append]; omega), k, d2, if_neg, hl]
  · rintro (h | ⟨h, h'⟩)
    · exact h rfl
    · exact h' (hr h)
/-- What is read was written so. -/
theorem nx_back {b : List UInt8} {i : Nat} {ah : Ks} {x : Pr} {t : Nat} (h : nx b i ah = some (x, t)) : 0 < t ∧ t ≤ b.length ∧ okP x ∧ (0 < i → ltK ah x.1) ∧ b.take t = pb i ah x := by
  unfold nx at h
  cases h3 : th3 b with
  | none => rw [h3] at h; cases h
  | some q =>
    obtain ⟨s, m, v, T⟩ := q
    rw [h3] at h
    dsimp only at h
    obtain ⟨g1, g2, g3, g4, g5, g6, g7⟩ := th3_back h3
    by_cases c0 : ah.length < s ∨ 4096 < s + m ∨ b.length - T < m + v
    · rw [if_pos c0] at h; cases h
    rw [if_neg c0] at h
    obtain ⟨K, hK⟩ : ∃ K, K = ah.take s ++ (b.drop T).take m := ⟨_, rfl⟩
    rw [← hK] at h
    by_cases c1 : s ≠ svd i ah K ∨ (0 < i ∧ ¬ ltK ah K)
    · rw [if_pos c1] at h; cases h
    rw [if_neg c1] at h
    simp only [Option.some.injEq, Prod.mk.injEq] at h
    obtain ⟨rfl, rfl⟩ := h
    have hs : s = svd i ah K := Classical.byContradiction fun e => c1 (.inl e)
    have lA : (ah.take s).length = s := by rw [List.length_take]; omega
    have lM : ((b.drop T).take m).length = m := by rw [List.length_take, List.length_drop]; omega
    have lV : ((b.drop (T + m)).take v).length = v := by rw [List.length_take, List.length_drop]; omega
    have lK : K.length = s + m := by rw [hK, List.length_append, lA, lM]
    refine ⟨by omega, by omega, ⟨by dsimp only; omega, by dsimp only; omega⟩, fun hi => Classical.byContradiction fun e => c1 (.inr ⟨hi, e⟩), ?_⟩
    unfold pb
    dsimp only
    rw [← hs, lV, lK, show s + m - s = m by omega]
    have dK : K.drop s = (b.drop T).take m := by rw [hK, List.drop_append_of_le_length (by omega), List.drop_of_length_le (by omega)]; simp
    rw [dK, List.take_add, List.take_add, g7]
    simp
/-- The pairs at the front of bytes, and what stands behind them. -/
def prF : Nat → Nat → Ks → List UInt8 → List Pr × List UInt8
  | 0, _, _, b => ([], b)
  | n + 1, i, ah, b => match nx b i ah with
    | none => ([], b)
    | some (x, t) => (x :: (prF n (i + 1) x.1 (b.drop t)).1, (prF n (i + 1) x.1 (b.drop t)).2)
theorem nx_nil (i : Nat) (ah : Ks) : nx [] i ah = none := by unfold nx; rfl
/-- What Read tells. -/
def rdB (b : List UInt8) : Option (List Pr) := if (prF 4096 0 [] b).2 = [] then some (prF 4096 0 [] b).1 else none
theorem prF_wb : ∀ (l : List Pr) (n i : Nat) (ah : Ks), l.length ≤ n → (∀ x ∈ l, okP x) → rise i ah l → prF n i ah (wbF i ah l) = (l, [])
  | [], 0, i, ah, _, _, _ => rfl
  | [], n + 1, i, ah, _, _, _ => by unfold prF wbF; rw [nx_nil]
  | x :: l, 0, i, ah, h, _, _ => by simp at h
  | x :: l, n + 1, i, ah, h, ho, hr => by
    have h1 := nx_pb (ho x List.mem_cons_self) hr.1 (wbF (i + 1) x.1 l)
    unfold prF wbF
    rw [h1]
    dsimp only
    rw [List.drop_left, prF_wb l n (i + 1) x.1 (by simpa using h) (fun y hy => ho y (List.mem_cons_of_mem _ hy)) hr.2]
theorem prF_back : ∀ (n i : Nat) (ah : Ks) (b : List UInt8), (prF n i ah b).1.length ≤ n ∧ (∀ x ∈ (prF n i ah b).1, okP x) ∧ rise i ah (prF n i ah b).1 ∧ b = wbF i ah (prF n i ah b).1 ++ (prF n i ah b).2
  | 0, i, ah, b => by simp [prF, rise, wbF]
  | n + 1, i, ah, b => by
    unfold prF
    cases h : nx b i ah with
    | none => simp [rise, wbF]
    | some q =>
      obtain ⟨x, t⟩ := q
      obtain ⟨h1, h2, h3, h4, h5⟩ := nx_back h
      obtain ⟨j1, j2, j3, j4⟩ := prF_back n (i + 1) x.1 (b.drop t)
      dsimp only
      refine ⟨by simpa using j1, ?_, ⟨h4, j3⟩, ?_⟩
      · intro y hy
        rcases List.mem_cons.1 hy with rfl | hy
        · exact h3
        · exact j2 y hy
      · rw [wbF, List.append_assoc, ← j4, ← h5, List.take_append_drop]
theorem mb_zero {l : List Pr} : mbF l = 0 ↔ l.length ≤ 4096 ∧ (∀ x ∈ l, okP x) ∧ rise 0 [] l := by
  unfold mbF
  by_cases h1 : 4096 < l.length
  · rw [if_pos h1]; constructor
    · intro h; simp at h
    · intro h; omega
  rw [if_neg h1]
  by_cases h2 : ∀ x ∈ l, okP x
  · rw [if_neg (fun h => h h2)]
    by_cases h3 : rise 0 [] l
    · rw [if_neg (fun h => h h3)]; exact ⟨fun _ => ⟨by omega, h2, h3⟩, fun _ => rfl⟩
    · rw [if_pos h3]; exact ⟨fun h => by simp at h, fun h => absurd h.2.2 h3⟩
  · rw [if_pos h2]; exact ⟨fun h => by simp at h, fun h => absurd h.2.1 h2⟩
/-- Rows go there and back. -/
theorem rdB_wb {l : List Pr} (h : mbF l = 0) : rdB (wb l) = some l := by
  obtain ⟨h1, h2, h3⟩ := mb_zero.1 h
  unfold rdB wb
  rw [prF_wb l 4096 0 [] h1 h2 h3, if_pos rfl]
theorem rdB_back {b : List UInt8} {l : List Pr} (h : rdB b = some l) : mbF l = 0 ∧ wb l = b := by
  unfold rdB at h
  by_cases h0 : (prF 4096 0 [] b).2 = []
  · rw [if_pos h0] at h
    obtain ⟨h1, h2, h3, h4⟩ := prF_back 4096 0 [] b
    rw [Option.some.inj h] at *
    refine ⟨mb_zero.2 ⟨h1, h2, h3⟩, ?_⟩
    rw [h0, List.append_nil] at h4
    exact h4.symm
  · rw [if_neg h0] at h; cases h
end Go.Proofs.Ytlpjdfgknmfmnaa

/- Pairs of a key and a value, as arguments. -/
namespace Go.Proofs.Ytlpjdfgknmfmnaa
open Go.ChangeShapes Go.WideShapes Go.ChangeAt Go.RowKit Go.Joins

/-- A slice reads these pairs (of either kind). -/
def PReads (w : World) (v : Value) (L : List Pr) : Prop :=
  ∃ a cap, v = .slice a L.length cap ∧ L.length ≤ cap ∧ cap ≤ maxLen ∧ (L = [] ∨ ∃ b off, a = some ⟨b, off, none⟩ ∧ b < w.heap.size ∧ ∀ j (hj : j < L.length), ∃ kv vv, w.cell? ⟨b, off + j * 2, none⟩ = some kv ∧ w.cell? ⟨b, off + j * 2 + 1, none⟩ = some vv ∧ Reads w kv L[j].1 ∧ Reads w vv L[j].2)
theorem PReads.below {w w' : World} {v : Value} {L : List Pr} (h : PReads w v L) (hb : Below w.heap.size w w') : PReads w' v L := by
  obtain ⟨a, cap, rfl, h1, h2, h3⟩ := h
  refine ⟨a, cap, rfl, h1, h2, ?_⟩
  rcases h3 with h3 | ⟨b, off, h4, h5, h6⟩
  · exact .inl h3
  · refine .inr ⟨b, off, h4, Nat.lt_of_lt_of_le h5 hb.size, fun j hj => ?_⟩
    obtain ⟨kv, vv, g1, g2, g3, g4⟩ := h6 j hj
    exact ⟨kv, vv, (hb.cell (p := ⟨b, off + j * 2, none⟩) h5).trans g1, (hb.cell (p := ⟨b, off + j * 2 + 1, none⟩) h5).trans g2, g3.below hb, g4.below hb⟩
end Go.Proofs.Ytlpjdfgknmfmnaa

/- The contracts of Common and saved. -/
namespace Go.Proofs.Ytlpjdfgknmfmnaa
open Go.RowKit

set_option maxRecDepth 100000 in
set_option maxHeartbeats 1000000 in
theorem common_any (va vb : Value) (a b : Ks) (w : World) (ha : Reads w va a) (hb : Reads w vb b) :
    Calls Try.prog 85 #[va, vb] w fun e w' => e = .returned (.int .i64 ((com a b : Nat) : Int)) ∧ Below w.heap.size w w' := by
  obtain ⟨aa, ca, rfl, hma⟩ := ha.form
  obtain ⟨ab, cb, rfl, hmb⟩ := hb.form
  unfold maxLen at hma hmb
  have HA : Hid (Reads w (.slice aa a.length ca) a) := ha
  have HB : Hid (Reads w (.slice ab b.length cb) b) := hb
  clear ha hb
  go_enter Try.func85, Try.ntmps85
  go_wp2_with fail
  go_loopw [5] (fun i wr => Hid (Below w.heap.size w wr) ∧ ∃ k : Nat, k ≤ a.length ∧ k ≤ b.length ∧ i = .int .i64 (k : Int) ∧ Hid (∀ j (g1 : j < a.length) (g2 : j < b.length), j < k → a[j] = b[j])) (fun i _ => a.length - (intOf i).toNat)
  case atStart => exact ⟨Below.refl _ _, 0, by omega, by omega, rfl, fun j _ _ h => by omega⟩
  case round =>
    obtain ⟨HW, k, h1, h2, rfl, HE⟩ := hrel
    by_cases g1 : k < a.length
    · by_cases g2 : k < b.length
      · obtain ⟨b1, o1, rfl, l1, c1⟩ := HA.out.at k g1
        obtain ⟨b2, o2, rfl, l2, c2⟩ := HB.out.at k g2
        have d1 := (HW.out.cell (p := ⟨b1, o1 + k, none⟩) l1).trans c1
        have d2 := (HW.out.cell (p := ⟨b2, o2 + k, none⟩) l2).trans c2
        unfold bc at d1 d2
        clear c1 c2
        obtain ⟨x, HX⟩ := hid_ex a[k]
        obtain ⟨y, HY⟩ := hid_ex b[k]
        rw [← HX.out] at d1
        rw [← HY.out] at d2
        by_cases hxy : (x.toNat : Int) = (y.toNat : Int)
        · go_wp2_with fail
          go_quiet (fail)
          have HW2 : Hid (Below w.heap.size w (wr.drewN nq)) := below_drewN HW.out nq
          go_wp2_with fail
          go_roundw
          case rel =>
            refine ⟨HW2, k + 1, by omega, by omega, by go_num, fun j g3 g4 hj => ?_⟩
            by_cases hjk : j < k
            · exact HE.out j g3 g4 hjk
            · have : j = k := by omega
              subst this
              rw [← HX.out, ← HY.out]
              exact UInt8.toNat_inj.1 (by omega)
          case measure => simp [intOf]; omega
        · go_wp2_with fail
          go_quiet (fail)
          have HW2 : Hid (Below w.heap.size w (wr.drewN nq)) := below_drewN HW.out nq
          go_wp2_with fail
          go_ret
          rw [com_eq h1 h2 HE.out (fun g1 g2 => by rw [← HX.out, ← HY.out]; intro h; rw [h] at hxy; exact hxy rfl)]
          exact ⟨rfl, HW2.out⟩
      · go_wp2_with fail
        go_quiet (fail)
        have HW2 : Hid (Below w.heap.size w (wr.drewN nq)) := below_drewN HW.out nq
        go_wp2_with fail
        go_ret
        rw [com_eq h1 h2 HE.out (fun _ g => absurd g g2)]
        exact ⟨rfl, HW2.out⟩
    · go_wp2_with fail
      go_quiet (fail)
      have HW2 : Hid (Below w.heap.size w (wr.drewN nq)) := below_drewN HW.out nq
      go_wp2_with fail
      go_ret
      rw [com_eq h1 h2 HE.out (fun g _ => absurd g g1)]
      exact ⟨rfl, HW2.out⟩
set_option maxRecDepth 100000 in
set_option maxHeartbeats 1000000 in
theorem saved_any (i : Nat) (hi : i < 9223372036854775808) (va vb : Value) (a b : Ks) (w : World) (ha : Reads w va a) (hb : Reads w vb b) :
    Calls Try.prog 53 #[.int .i64 (i : Int), va, vb] w fun e w' => e = .returned (.int .i64 ((svd i a b : Nat) : Int)) ∧ Below w.heap.size w w' := by
  obtain ⟨aa, ca, rfl, _⟩ := ha.form
  obtain ⟨ab, cb, rfl, _⟩ := hb.form
  have HA : Hid (Reads w (.slice aa a.length ca) a) := ha
  have HB : Hid (Reads w (.slice ab b.length cb) b) := hb
  clear ha hb
  have e8 : Int.tmod (i : Int) 8 = ((i % 8 : Nat) : Int) := by rw [Int.tmod_eq_emod_of_nonneg (by omega)]; omega
  go_enter Try.func53, Try.ntmps53
  by_cases h8 : i % 8 = 0
  · have h8' : Int.tmod (i : Int) 8 = 0 := by omega
    have e : svd i a b = 0 := by unfold svd; rw [if_pos h8]
    rw [e]
    go_wp2_with fail
    go_ret
    exact ⟨rfl, Below.refl _ _⟩
  · have h8' : ¬ Int.tmod (i : Int) 8 = 0 := by omega
    have e : svd i a b = com a b := by unfold svd; rw [if_neg h8]
    rw [e]
    go_wp2_with fail
    refine (common_any _ _ a b _ HA.out HB.out).mono ?_
    rintro e w1 ⟨rfl, hb1⟩
    go_wp2_with fail
    go_ret
    exact ⟨rfl, hb1⟩
end Go.Proofs.Ytlpjdfgknmfmnaa

/- The contract of mayBe. -/
namespace Go.Proofs.Ytlpjdfgknmfmnaa
open Go.RowKit

theorem rise_snoc : ∀ (l : List Pr) (i : Nat) (ah : Ks) (x : Pr), rise i ah (l ++ [x]) ↔ rise i ah l ∧ ((0 < i + l.length) → ltK (match l.getLast? with | none => ah | some y => y.1) x.1)
  | [], i, ah, x => by simp [rise]
  | y :: l, i, ah, x => by
    have ih := rise_snoc l (i + 1) y.1 x
    rw [List.cons_append, rise, rise, ih, and_assoc]
    have e : (match (y :: l).getLast? with | none => ah | some z => z.1) = (match l.getLast? with | none => y.1 | some z => z.1) := by
      cases l with
      | nil => rfl
      | cons z l => rw [List.getLast?_cons_cons]; cases h : (z :: l).getLast? with
        | none => simp at h
        | some u => rfl
    rw [e]
    simp only [List.length_cons]
    constructor
    · rintro ⟨h1, h2, h3⟩; exact ⟨h1, h2, fun h => h3 (by omega)⟩
    · rintro ⟨h1, h2, h3⟩; exact ⟨h1, h2, fun h => h3 (by omega)⟩
theorem rise_step {l : List Pr} {k : Nat} (h0 : 0 < k) (hk : k < l.length) : rise 0 [] (l.take (k + 1)) ↔ rise 0 [] (l.take k) ∧ ltK (l[k - 1]'(by omega)).1 l[k].1 := by
  rw [List.take_add_one, List.getElem?_eq_getElem hk]
  show rise 0 [] (l.take k ++ [l[k]]) ↔ _
  rw [rise_snoc]
  have e : (l.take k).getLast? = some (l[k - 1]'(by omega)) := by
    rw [List.getLast?_eq_getElem?, List.length_take, Nat.min_eq_left (by omega), List.getElem?_take_of_lt (by omega), List.getElem?_eq_getElem]
  rw [e]
  simp only [List.length_take]
  constructor
  · rintro ⟨h1, h2⟩; exact ⟨h1, h2 (by omega)⟩
  · rintro ⟨h1, h2⟩; exact ⟨h1, fun _ => h2⟩
theorem rise_take : ∀ (l : List Pr) (i : Nat) (ah : Ks) (k : Nat), rise i ah l → rise i ah (l.take k)
  | [], _, _, _, _ => by simp [rise]
  | _ :: _, _, _, 0, _ => by simp [rise]
  | x :: l, i, ah, k + 1, h => by rw [List.take_succ_cons]; exact ⟨h.1, rise_take l (i + 1) x.1 k h.2⟩
theorem rise_one (l : List Pr) : rise 0 [] (l.take 1) := by
  cases l with
  | nil => simp [rise]
  | cons x l => simp [rise]
set_option maxRecDepth 100000 in
set_option maxHeartbeats 2000000 in
theorem mayBe_any (v : Value) (l : List Pr) (w : World) (hP : PReads w v l) :
    Calls Try.prog 52 #[v] w fun e w' => e = .returned (.int .i64 (mbF l)) ∧ Below w.heap.size w w' := by
  obtain ⟨a, cap, rfl, hcap, hm, h3⟩ := hP
  unfold maxLen at hm
  have H3 : Hid _ := h3
  clear h3
  go_enter Try.func52, Try.ntmps52
  by_cases g1 : (4096 : Int) < (l.length : Int)
  · go_wp2_with fail
    go_ret
    have : mbF l = 2 := by unfold mbF; rw [if_pos (by omega)]
    rw [this]
    exact ⟨rfl, Below.refl _ _⟩
  go_wp2_with fail
  go_loopw [11] (fun i wr => ∃ k : Nat, k ≤ l.length ∧ i = .int .i64 (k : Int) ∧ Hid (∀ x ∈ l.take k, okP x) ∧ Hid (Below w.heap.size w wr)) (fun i _ => l.length - (intOf i).toNat)
  case atStart => exact ⟨0, by omega, rfl, fun x hx => by simp at hx, Below.refl _ _⟩
  case round =>
    obtain ⟨k, hk, rfl, HO, HW⟩ := hrel
    by_cases hlt : k < l.length
    · obtain ⟨bA, oA, rfl, hbA, hA⟩ := H3.out.resolve_left (fun h => by rw [h] at hlt; simp at hlt)
      obtain ⟨kv, vv, q0, q1, r0, r1⟩ := hA k hlt
      obtain ⟨X, HX⟩ := hid_ex l[k]
      rw [← HX.out] at r0 r1
      have HTk : Hid (l.take (k + 1) = l.take k ++ [X]) := by unfold Hid; rw [List.take_add_one, List.getElem?_eq_getElem hlt, HX.out]; rfl
      have HXm : Hid (X ∈ l) := by rw [HX.out]; exact List.getElem_mem hlt
      have c0 := (HW.out.cell (p := ⟨bA, oA + k * 2, none⟩) hbA).trans q0
      have c1 := (HW.out.cell (p := ⟨bA, oA + k * 2 + 1, none⟩) hbA).trans q1
      obtain ⟨ak, ck, rfl, hmk⟩ := r0.form
      obtain ⟨av, cv, rfl, hmv⟩ := r1.form
      unfold maxLen at hmk hmv
      clear hA q0 q1 r0 r1 HX
      have HAl : Hid (Below w.heap.size w (wr.alloc (.cells #[.slice ak X.1.length ck, .slice av X.2.length cv] 53))) := HW.out.alloc HW.out.size _
      by_cases e1 : (4096 : Int) < (X.1.length : Int)
      · go_wp2_with fail
        go_ret
        have : mbF l = 2 := by
          unfold mbF
          rw [if_neg (by omega), if_pos (fun h => by have := (h X HXm.out).1; omega)]
        rw [this]
        exact ⟨rfl, HAl.out⟩
      by_cases e2 : (4096 : Int) < (X.2.length : Int)
      · go_wp2_with fail
        go_ret
        have : mbF l = 2 := by
          unfold mbF
          rw [if_neg (by omega), if_pos (fun h => by have := (h X HXm.out).2; omega)]
        rw [this]
        exact ⟨rfl, HAl.out⟩
      go_wp2_with fail
      go_roundw
      case rel =>
        refine ⟨k + 1, by omega, by go_num, ?_, HAl⟩
        rw [HTk.out]
        intro y hy
        rcases List.mem_append.1 hy with hy | hy
        · exact HO.out y hy
        · simp at hy; subst hy; exact ⟨by omega, by omega⟩
      case measure => simp [intOf]; omega
    · have hkl : k = l.length := by omega
      rw [hkl, List.take_length] at HO
      go_wp2_with fail
      go_loopw [5] (fun i wr => ∃ k : Nat, 1 ≤ k ∧ (k ≤ l.length ∨ k = 1) ∧ i = .int .i64 (k : Int) ∧ Hid (rise 0 [] (l.take k)) ∧ Hid (Below w.heap.size w wr)) (fun i _ => l.length - (intOf i).toNat)
      case atStart => exact ⟨1, by omega, by omega, rfl, rise_one l, HW⟩
      case round =>
        obtain ⟨k, hk1, hk2, rfl, HR, HW⟩ := hrel
        by_cases hlt : k < l.length
        · obtain ⟨bA, oA, rfl, hbA, hA⟩ := H3.out.resolve_left (fun h => by rw [h] at hlt; simp at hlt)
          obtain ⟨k', rfl⟩ : ∃ k', k = k' + 1 := ⟨k - 1, by omega⟩
          obtain ⟨kx, _, q0, _, r0, _⟩ := hA (k' + 1) hlt
          obtain ⟨ky, _, q1, _, r1, _⟩ := hA k' (by omega)
          have HST : Hid (rise 0 [] (l.take (k' + 1 + 1)) ↔ rise 0 [] (l.take (k' + 1)) ∧ ltK (l[k']'(by omega)).1 l[k' + 1].1) := rise_step (by omega) hlt
          obtain ⟨X, HX⟩ := hid_ex l[k' + 1]
          obtain ⟨Y, HY⟩ := hid_ex (l[k']'(by omega))
          rw [← HX.out] at r0 HST
          rw [← HY.out] at r1 HST
          have c0 := (HW.out.cell (p := ⟨bA, oA + (k' + 1) * 2, none⟩) hbA).trans q0
          have c1 := (HW.out.cell (p := ⟨bA, oA + k' * 2, none⟩) hbA).trans q1
          have HRx : Hid (Reads w kx X.1) := r0
          have HRy : Hid (Reads w ky Y.1) := r1
          clear hA q0 q1 r0 r1 HX HY
          have HWQ : Hid _ := fun n => below_drewN HW.out n
          go_wp2_with fail
          go_quiet (exact (cmp_any _ _ Y.1 X.1 _ (HRy.out.below (below_drewN HW.out _)) (HRx.out.below (below_drewN HW.out _))).mono (fun e w' h => ⟨h.1, _, h.2⟩))
          have HW2 : Hid (Below w.heap.size w (wr.drewN nq)) := below_drewN HW.out nq
          clear c0 c1 HRx HRy HWQ
          by_cases hl : ltK Y.1 X.1
          · have hc : Lib.compareBytes Y.1 X.1 = -1 := hl
            rw [hc]
            go_wp2_with fail
            go_roundw
            case rel => exact ⟨k' + 1 + 1, by omega, by omega, by go_num, HST.out.2 ⟨HR.out, hl⟩, HW2⟩
            case measure => simp [intOf]; omega
          · have hc : 0 ≤ Lib.compareBytes Y.1 X.1 := cmp_ge.2 hl
            go_wp2_with fail
            go_ret
            have : mbF l = 50 := by
              unfold mbF
              rw [if_neg (by omega), if_neg (fun h => h HO.out), if_pos (fun h => hl (HST.out.1 (rise_take _ _ _ _ h)).2)]
            rw [this]
            exact ⟨rfl, HW2.out⟩
        · go_wp2_with fail
          go_ret
          have : mbF l = 0 := mb_zero.2 ⟨by omega, HO.out, by have := HR.out; rwa [List.take_of_length_le (by omega)] at this⟩
          rw [this]
          exact ⟨rfl, HW.out⟩
end Go.Proofs.Ytlpjdfgknmfmnaa
