/- An append to a row of one's own: where its array lies behind it. Rows that are apart. -/
import Derived.Test.YtkamambgpcdonaaPK0
namespace Go.Proofs.Ytkamambgpcdonaa
open Go.RowKit

theorem run_append_blk {P : Program} (w : World) (base : Nat) (t ty e : TypeId) (i : TypeInfo) (z : Value) (size bytes : Nat) (ht : P.underlying t = some (.slice e)) (hi : P.info? e = some i) (hz : i.zero = some z)
    (hsize : i.size = size) (hby : i.bytes = bytes) (hzs : z.cells.size = size) (hsz : 0 < size)
    (v : Value) (n : Nat) (xs : List Value) (hown : w.ownsRow base e size v n xs)
    (a : Addr) (m c : Nat) (news : List Value) (hl : news.length = m * size) (hnews : ∀ j u, news[j]? = some u → w.cell? (a.add j) = some u) (h1 : ∀ u ∈ news, u.oneCell' = true)
    (h63 : n + m ≤ maxLen) (hbytes : (n + m) * bytes ≤ 140737488355328) (hbase : base ≤ w.heap.size) :
    ∃ v' w', (Builtin.append_ #[t, t] ty #[v, .slice (some a) m c]).run P w = .ok v' w' ∧ w'.ownsRow base e size v' (n + m) (xs ++ news) ∧ w.grownBy w' v.ownBlock ∧
      (v'.ownBlock = v.ownBlock ∨ ∃ b, v'.ownBlock = some b ∧ w.heap.size ≤ b) := by
  obtain ⟨v', w', hr, ho, hg, _⟩ := run_append_own (P := P) w base t ty e i z size bytes ht hi hz hsize hby hzs hsz v n xs hown a m c news hl hnews h1 h63 hbytes hbase
  refine ⟨v', w', hr, ho, hg, ?_⟩
  rcases hown.2 with ⟨rfl, rfl⟩ | ⟨g, cap, cur, rfl, hbg, hgg, hnc, hcm, hcs, htake⟩
  · have hx : xs = [] := List.eq_nil_of_length_eq_zero (by simpa using hown.1)
    subst hx
    obtain ⟨v2, w2, hr2, ho2, _, _⟩ := run_append_own (P := P) w w.heap.size t ty e i z size bytes ht hi hz hsize hby hzs hsz _ 0 [] (World.ownsRow_nil w w.heap.size e size) a m c news hl hnews h1 h63 hbytes (Nat.le_refl _)
    rw [hr] at hr2
    injection hr2 with e1 e2
    subst e1 e2
    rcases ho2.2 with ⟨rfl, _⟩ | ⟨g, cap, cur, rfl, hbg, _⟩
    · exact .inl rfl
    · exact .inr ⟨g, rfl, hbg⟩
  · by_cases hroom : n + m ≤ cap
    · obtain ⟨w2, hr2, _⟩ := run_append_fits (P := P) w base t ty e i size ht hi hsize g n cap xs hown a m c news hl hnews h1 hroom
      rw [hr] at hr2
      injection hr2 with e1 e2
      subst e1
      exact .inl rfl
    · have holds : ∀ j u, xs[j]? = some u → w.cell? ((⟨g, 0, none⟩ : Addr).add j) = some u := World.ownsRow.cells hown (g := g) rfl
      have hsm : n + m ≤ 9223372036854775807 := by simp only [maxLen] at h63; omega
      have hr2 := run_append_grow (P := P) w t ty e i z ht hi hz ⟨g, 0, none⟩ n cap xs (by rw [hown.1, hsize]) holds a m c news (by rw [hl, hsize]) hnews (by omega) (by omega) (growslice_fits (by omega) (by rw [hby]; exact hbytes))
      rw [hr] at hr2
      injection hr2 with e1 e2
      subst e1
      exact .inr ⟨_, rfl, Nat.le_refl _⟩
/-- One number, just laid, behind numbers of one's own. -/
theorem run_appI {w0 : World} (base : Nat) (ty T : TypeId) (v : Value) (L : List Int) (y : Int) (hown : Own w0 base v L) (hlen : L.length + 1 ≤ 17592186044416) (hbase : base ≤ w0.heap.size) :
    ∃ v' w', (Builtin.append_ #[38, 38] ty #[v, .slice (some ⟨w0.heap.size, 0, none⟩) 1 1]).run Try.prog (w0.alloc (.cells #[.int .i64 y] T)) = .ok v' w' ∧ Own w' base v' (L ++ [y]) ∧ w0.grownBy w' v.ownBlock ∧
      (v'.ownBlock = v.ownBlock ∨ ∃ b, v'.ownBlock = some b ∧ w0.heap.size ≤ b) := by
  obtain ⟨i0, hi, hz0, hz1, hz2⟩ := info_parts info5
  obtain ⟨v', w', hr, ho, hg, hbk⟩ := run_append_blk (P := Try.prog) (w0.alloc (.cells #[.int .i64 y] T)) base 38 ty 3 i0 (.int .i64 0) 1 8 Try.underlying38 hi hz0 hz1 hz2 rfl (by decide) v L.length (L.map ic) (World.ownsRow.alloc hown _) ⟨w0.heap.size, 0, none⟩ 1 1 [ic y] (by simp) (news1 (w := w0) (x := ic y) (t := T)) (fun u hu => by simp at hu; subst hu; rfl) (by simp [maxLen] at *; omega) (by omega) (by simp; omega)
  refine ⟨v', w', hr, ?_, ⟨hg.os, hg.tape, hg.output, ?_, fun k hk hne => ?_⟩, ?_⟩
  · unfold Own; rw [List.length_append, List.map_append]; exact ho
  · have := hg.size; simp at this; omega
  · rw [hg.block k (by simp; omega) hne]; exact Below.heap_alloc _ _ _ hk
  · rcases hbk with h | ⟨b, h1, h2⟩
    · exact .inl h
    · exact .inr ⟨b, h1, by simp at h2; omega⟩
/-- A function, turned at one place. -/
def fup {α : Type} (f : Nat → α) (i : Nat) (x : α) : Nat → α := fun j => if j = i then x else f j
theorem fup_same {α : Type} (f : Nat → α) (i : Nat) (x : α) : fup f i x i = x := by simp [fup]
theorem fup_ne {α : Type} (f : Nat → α) {i j : Nat} (x : α) (h : j ≠ i) : fup f i x j = f j := by simp [fup, h]
/-- Rows of one's own that are apart. -/
structure Rws (w : World) (base m : Nat) (V : Nat → Value) (X : Nat → List Int) : Prop where
  own : ∀ i, i < m → Own w base (V i) (X i)
  apt : ∀ i j, i < m → j < m → i ≠ j → ∀ b, (V i).ownBlock = some b → (V j).ownBlock ≠ some b
theorem Rws.kept {w w' : World} {base m : Nat} {V : Nat → Value} {X : Nat → List Int} (h : Rws w base m V X) (hb : ∀ k, base ≤ k → k < w.heap.size → w'.heap[k]? = w.heap[k]?) : Rws w' base m V X := by
  refine ⟨fun i hi => ?_, h.apt⟩
  have ho := h.own i hi
  have hlt := World.ownsRow.lt ho
  obtain ⟨h1, h2⟩ := ho
  refine ⟨h1, ?_⟩
  rcases h2 with h2 | ⟨g, cap, cur, hv, hg, hw, r⟩
  · exact .inl h2
  · exact .inr ⟨g, cap, cur, hv, hg, (hb g hg (hlt g (by rw [hv]; rfl)).2).trans hw, r⟩
theorem Rws.below {w w' : World} {base m : Nat} {V : Nat → Value} {X : Nat → List Int} (h : Rws w base m V X) (hb : Below w.heap.size w w') : Rws w' base m V X := h.kept (fun k _ hk => hb.block k hk)
theorem Rws.nil (w : World) (base m : Nat) : Rws w base m (fun _ => .slice none 0 0) (fun _ => []) := ⟨fun _ _ => Own.nil _ _, fun _ _ _ _ _ b h => by simp [Value.ownBlock] at h⟩
theorem Rws.app {w w' : World} {base m i : Nat} {V : Nat → Value} {X : Nat → List Int} {v' : Value} {y : Int} (h : Rws w base m V X) (hi : i < m) (ho : Own w' base v' (X i ++ [y])) (hg : w.grownBy w' (V i).ownBlock) (hbk : v'.ownBlock = (V i).ownBlock ∨ ∃ b, v'.ownBlock = some b ∧ w.heap.size ≤ b) :
    Rws w' base m (fup V i v') (fup X i (X i ++ [y])) := by
  have hlt : ∀ j, j < m → ∀ b, (V j).ownBlock = some b → b < w.heap.size := fun j hj b hb => (World.ownsRow.lt (h.own j hj) b hb).2
  refine ⟨fun j hj => ?_, fun j k hj hk hne b hb => ?_⟩
  · by_cases e : j = i
    · subst e; rw [fup_same, fup_same]; exact ho
    · rw [fup_ne _ _ e, fup_ne _ _ e]
      refine World.ownsRow.kept (h.own j hj) hg ?_
      cases hv : (V j).ownBlock with
      | none => exact .inl rfl
      | some b => exact .inr (fun e2 => h.apt j i hj hi e b hv e2.symm)
  · by_cases e1 : j = i
    · subst e1
      rw [fup_same] at hb
      rw [fup_ne _ _ (Ne.symm hne)]
      rcases hbk with hbk | ⟨b', hb1, hb2⟩
      · exact h.apt j k hj hk hne b (hbk ▸ hb)
      · rw [hb1] at hb
        cases hb
        intro h2
        have := hlt k hk _ h2
        omega
    · rw [fup_ne _ _ e1] at hb
      by_cases e2 : k = i
      · subst e2
        rw [fup_same]
        rcases hbk with hbk | ⟨b', hb1, hb2⟩
        · rw [hbk]; exact h.apt j k hj hk hne b hb
        · rw [hb1]
          intro h2
          cases h2
          have := hlt j hj _ hb
          omega
      · rw [fup_ne _ _ e2]; exact h.apt j k hj hk hne b hb
end Go.Proofs.Ytkamambgpcdonaa
