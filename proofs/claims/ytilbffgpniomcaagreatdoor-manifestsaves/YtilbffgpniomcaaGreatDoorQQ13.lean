/- MFr, joined. -/
import Derived.Test.YtilbffgpniomcaaGreatDoorQQ12
/- manifest: Apply. -/
namespace Go.Proofs.YtilbffgpniomcaaGreatDoor
open Go.RowKit Go.Shelf

/-- What Apply answers. -/
def stZ : St := ⟨[], 0, 0, 0⟩
def apT (l : List Ru) (x : Ed) : St := ⟨x.ad.foldl (fun l r => putR r l) l, x.lo, x.ne, x.ma⟩
def apS (s : St) (x : Ed) : Option St × Int :=
  if okSt s then match dropF s.ru x.dr with
    | none => (none, 100)
    | some l => if x.lo < s.lo ∨ x.ne < s.ne ∨ x.ma < s.ma then (none, 100) else if okSt (apT l x) then (some (apT l x), 0) else (none, 100)
  else (none, 1)
theorem apS_no {s : St} {x : Ed} (h : ¬ okSt s) : apS s x = (none, 1) := by unfold apS; rw [if_neg h]
theorem apS_drop {s : St} {x : Ed} (h : okSt s) (hd : dropF s.ru x.dr = none) : apS s x = (none, 100) := by unfold apS; rw [if_pos h, hd]
theorem apS_back {s : St} {x : Ed} (h : okSt s) {l : List Ru} (hd : dropF s.ru x.dr = some l) (hb : x.lo < s.lo ∨ x.ne < s.ne ∨ x.ma < s.ma) : apS s x = (none, 100) := by unfold apS; rw [if_pos h, hd]; simp only; rw [if_pos hb]
theorem apS_on {s : St} {x : Ed} (h : okSt s) {l : List Ru} (hd : dropF s.ru x.dr = some l) (hb : ¬ (x.lo < s.lo ∨ x.ne < s.ne ∨ x.ma < s.ma)) : apS s x = if okSt (apT l x) then (some (apT l x), 0) else (none, 100) := by unfold apS; rw [if_pos h, hd]; simp only; rw [if_neg hb]
/-- What the sorted row says of it. -/
theorem apS_sorted {s : St} {x : Ed} (h : okSt s) {l : List Ru} (hd : dropF s.ru x.dr = some l) (hb : ¬ (x.lo < s.lo ∨ x.ne < s.ne ∨ x.ma < s.ma)) {r : List Ru} (hr : wk r) (hp : r.Perm (l ++ x.ad)) : apS s x = if okSt ⟨r, x.lo, x.ne, x.ma⟩ then (some ⟨r, x.lo, x.ne, x.ma⟩, 0) else (none, 100) := by
  rw [apS_on h hd hb]
  have hl : wk l := ahd_wk (dropF_ahd hd (h.2.2.2.2.2.2.2.imp fun q => q.1))
  obtain ⟨h1, h2⟩ := sorted_put hl hr hp x.ne
  by_cases c : okSt ⟨r, x.lo, x.ne, x.ma⟩
  · have e : r = x.ad.foldl (fun l r => putR r l) l := h2 c.2.2.2.2.2
    have e2 : apT l x = ⟨r, x.lo, x.ne, x.ma⟩ := by unfold apT; rw [← e]
    rw [e2]
  · rw [if_neg c, if_neg fun q => c ⟨q.1, q.2.1, q.2.2.1, q.2.2.2.1, q.2.2.2.2.1, h1.2 q.2.2.2.2.2⟩]
def ApP (s : St) (x : Ed) (w : World) (e : Ending) (w' : World) : Prop := ∃ v, e = .returned (.tuple #[.agg #[v, .int .i64 ((apS s x).1.getD stZ).lo, .int .i64 ((apS s x).1.getD stZ).ne, .int .i64 ((apS s x).1.getD stZ).ma], .int .i64 (apS s x).2]) ∧ UR w' v ((apS s x).1.getD stZ).ru ∧ Below w.heap.size w w'
theorem ur_nil (w : World) : UR w (.slice none 0 0) [] := ⟨⟨none, 0, rfl, by decide, fun j hj => by simp at hj⟩, fun a n c e => by simp only [Value.slice.injEq] at e; unfold maxLen; omega, fun n c e => by simp only [Value.slice.injEq, true_and] at e; omega⟩
theorem ApP.err {s : St} {x : Ed} {c : Int} (h : apS s x = (none, c)) {w w' : World} (hb : Below w.heap.size w w') : ApP s x w (.returned (.tuple #[.agg #[.slice none 0 0, .int .i64 0, .int .i64 0, .int .i64 0], .int .i64 c])) w' := by
  refine ⟨.slice none 0 0, by rw [h]; rfl, ?_, hb⟩
  rw [h]
  exact ur_nil _
theorem ApP.ok {s t : St} {x : Ed} (h : apS s x = (some t, 0)) {w w' : World} {v : Value} (hu : UR w' v t.ru) (hb : Below w.heap.size w w') : ApP s x w (.returned (.tuple #[.agg #[v, .int .i64 t.lo, .int .i64 t.ne, .int .i64 t.ma], .int .i64 0])) w' := by
  refine ⟨v, by rw [h]; rfl, ?_, hb⟩
  rw [h]
  exact hu
/-- A row's block is not P. -/
def notP (P : Nat) (v : Value) (L : List Ru) : Prop := 0 < L.length → ∀ b off n c, v = .slice (some ⟨b, off, none⟩) n c → b ≠ P
theorem RuR.keepC {W W' : World} {v : Value} {L : List Ru} (h : RuR W v L) (hk : 0 < L.length → ∀ b off n c, v = .slice (some ⟨b, off, none⟩) n c → W'.heap[b]? = W.heap[b]?) : RuR W' v L := by
  rcases Nat.eq_zero_or_pos L.length with h0 | h0
  · obtain ⟨a, cap, rfl, h2, _⟩ := h
    exact ⟨a, cap, rfl, h2, fun j hj => by omega⟩
  · exact h.keepB (hk h0)
theorem notP_low {W : World} {v : Value} {L : List Ru} (h : RuR W v L) {P : Nat} (hP : W.heap.size ≤ P) : notP P v L := fun h0 b off n c e => by
  subst e
  obtain ⟨b', off', e', hb', _⟩ := h.at h0 rfl
  simp only [Option.some.injEq, Addr.mk.injEq] at e'
  omega
theorem UR.setQ {W : World} {v u : Value} {L : List Ru} {P i : Nat} (h : UR W v L) (hP : notP P v L) : UR (W.setCell ⟨P, i, none⟩ u) v L :=
  ⟨h.r.keepC fun h0 b off n c e => Go.heap_setCell_other _ _ _ _ (hP h0 b off n c e), h.c, h.z⟩
/-- .. and the answer's row lies in no block of before but that of the state's row. -/
def ApF (s : St) (x : Ed) (sv : Value) (w : World) (e : Ending) (w' : World) : Prop := ∃ v, e = .returned (.tuple #[.agg #[v, .int .i64 ((apS s x).1.getD stZ).lo, .int .i64 ((apS s x).1.getD stZ).ne, .int .i64 ((apS s x).1.getD stZ).ma], .int .i64 (apS s x).2]) ∧ UR w' v ((apS s x).1.getD stZ).ru ∧ Below w.heap.size w w' ∧ ∀ Q, Q < w.heap.size → notP Q sv s.ru → notP Q v ((apS s x).1.getD stZ).ru
theorem ApF.p {s : St} {x : Ed} {sv : Value} {w : World} {e : Ending} {w' : World} (h : ApF s x sv w e w') : ApP s x w e w' := by
  obtain ⟨v, h1, h2, h3, _⟩ := h
  exact ⟨v, h1, h2, h3⟩
theorem ApF.err {s : St} {x : Ed} {sv : Value} {c : Int} (h : apS s x = (none, c)) {w w' : World} (hb : Below w.heap.size w w') : ApF s x sv w (.returned (.tuple #[.agg #[.slice none 0 0, .int .i64 0, .int .i64 0, .int .i64 0], .int .i64 c])) w' := by
  refine ⟨.slice none 0 0, by rw [h]; rfl, ?_, hb, fun Q _ _ _ b off n c e => by simp at e⟩
  rw [h]
  exact ur_nil _
theorem ApF.ok {s t : St} {x : Ed} {sv : Value} (h : apS s x = (some t, 0)) {w w' : World} {v : Value} (hu : UR w' v t.ru) (hb : Below w.heap.size w w') (hq : ∀ Q, Q < w.heap.size → notP Q sv s.ru → notP Q v t.ru) : ApF s x sv w (.returned (.tuple #[.agg #[v, .int .i64 t.lo, .int .i64 t.ne, .int .i64 t.ma], .int .i64 0])) w' := by
  refine ⟨v, by rw [h]; rfl, ?_, hb, ?_⟩
  · rw [h]; exact hu
  · rw [h]; exact hq
/-- The row with the runs that come. -/
theorem run_add13 {w : World} {base : Nat} {v av : Value} {l a : List Ru} (h : UOwn w base v l) (ha : UR w av a) (h1 : l.length ≤ 1000) (h2 : a.length ≤ 1000) (hb : base ≤ w.heap.size) :
    ∃ v' w', (Builtin.append_ #[31, 31] 31 #[v, av]).run Tryz.prog w = .ok v' w' ∧ UG0 w' v' (l ++ a) ∧ (∀ k, v'.ownBlock = some k → base ≤ k) ∧ Below base w w' := by
  obtain ⟨i0, hi, hz0, hz1, hz2⟩ := info_parts infoU13
  obtain ⟨aa, ac, hav, _⟩ := ha.r.form
  have hsr : GSrc w 3 av a.length (a.flatMap r3L) := by
    refine ⟨fl3_len a, ?_⟩
    cases aa with
    | none =>
      left
      have hc := ha.z _ _ hav
      have hl : a.length = 0 := by
        rcases Nat.eq_zero_or_pos a.length with h | h
        · exact h
        · have hr := ha.r
          rw [hav] at hr
          obtain ⟨b, off, e, _⟩ := hr.at h rfl
          cases e
      rw [hav, hc, hl]; exact ⟨rfl, rfl⟩
    | some ad =>
      right
      refine ⟨ad, ac, hav, fun j u hj => ?_⟩
      rcases Nat.eq_zero_or_pos a.length with h | h
      · rw [List.length_eq_zero_iff.1 h] at hj; simp at hj
      · have hr := ha.r
        rw [hav] at hr
        obtain ⟨b, off, e, _⟩ := hr.at h rfl
        simp only [Option.some.injEq] at e
        subst e
        exact news_fl3 hr j u hj
  have hlt := World.ownsRow.lt h
  obtain ⟨v', w', g1, g2, g3, g4⟩ := run_gapp (P := Tryz.prog) 31 31 72 i0 _ 3 24 Tryz.underlying31 hi hz0 hz1 hz2 rfl v l.length _ h.gown av a.length _ hsr (one_fl3 a) (by simp only [maxLen]; omega) (by omega)
  refine ⟨v', w', g1, ?_, fun k e => ?_, (Below.refl _ _).grown g3 hb fun k e => (hlt k e).1⟩
  · unfold UG0
    rw [List.length_append, List.flatMap_append]; exact g2
  · rcases g4 k e with z | z
    · exact (hlt k z).1
    · omega
theorem sort13_any (v : Value) (L : List Ru) (base : Nat) (w : World) (hO : UG0 w v L) (hk : ∀ k, v.ownBlock = some k → base ≤ k) (hb : base ≤ w.heap.size) (hL : L.length ≤ 10000) :
    Calls Tryz.prog 63 #[v, .func (.func 64) #[] #[]] w fun e w' => e = .returned (.tuple #[]) ∧ ∃ L', L'.Perm L ∧ wk L' ∧ UG0 w' v L' ∧ Below base w w' := by
  rcases hO.2 with ⟨rfl, h0⟩ | ⟨g, cap, cur, rfl, _⟩
  · have hL0 : L = [] := List.length_eq_zero_iff.1 h0
    subst hL0
    have hcon := Go.Proofs.AnyF.slices_SortFunc_none sortR none 0 (.func (.func 64) #[] #[]) w
    change Calls Tryz.prog 63 _ _ _ at hcon
    refine hcon.mono ?_
    rintro e w' ⟨rfl, rfl⟩
    exact ⟨rfl, [], List.Perm.refl _, List.Pairwise.nil, hO, Below.refl _ _⟩
  · refine (sort13_some g _ cap L w hO hL).mono ?_
    rintro e w' ⟨rfl, L', h1, h2, h3, h4⟩
    exact ⟨rfl, L', h1, h2, h3, h4 base (hk g rfl)⟩
end Go.Proofs.YtilbffgpniomcaaGreatDoor
