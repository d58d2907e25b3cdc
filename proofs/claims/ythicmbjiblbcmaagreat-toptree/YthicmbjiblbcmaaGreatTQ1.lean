/- PK0 PK1 PKS PK2 PK3, joined. -/
import Derived.Test.YthicmbjiblbcmaaGreatRows
import Derived.WalkKit
import Derived.WalkSpells
import Derived.WalkLawsBesides
import Derived.WalkMore
import Derived.Below
import Derived.Laws.AppendOwn
import Derived.Deep.RegionHeld3
import Derived.Laws.AppendOwnNone
import Derived.Deep.Slices
import Derived.Deep.MidRow
import Derived.ProofKit
import Derived.OpenShut
import Derived.Lib.SmallJoins
/- Whole numbers that a slice reads, whoever made it (written by mkpk0.py out of C0). -/
namespace Go.Proofs.YthicmbjiblbcmaaGreat
open Go.RowKit

/-- A number's cell. -/
def ic (x : Int) : Value := .int .i64 x
/-- A slice value reads these numbers. -/
def ReadsP (w : World) (v : Value) (l : List Int) : Prop :=
  (l = [] ∧ ∃ a cap, v = .slice a 0 cap ∧ (a = none → cap = 0)) ∨
  ∃ b off cap, v = .slice (some ⟨b, off, none⟩) l.length cap ∧ 0 < l.length ∧ l.length ≤ cap ∧ cap ≤ maxLen ∧ b < w.heap.size ∧ ∀ j (h : j < l.length), w.cell? ⟨b, off + j, none⟩ = some (ic l[j])
theorem ReadsP.below {w w' : World} {v : Value} {l : List Int} (h : ReadsP w v l) (hb : Below w.heap.size w w') : ReadsP w' v l := by
  rcases h with h | ⟨b, off, cap, h1, h2, h3, h4, h5, h6⟩
  · exact .inl h
  · have := hb.size
    exact .inr ⟨b, off, cap, h1, h2, h3, h4, by omega, fun j hj => (hb.cell (p := ⟨b, off + j, none⟩) h5).trans (h6 j hj)⟩
theorem ReadsP.drew {w : World} {v : Value} {l : List Int} (h : ReadsP w v l) : ReadsP w.drew v l := h
theorem ReadsP.alloc {w : World} {v : Value} {l : List Int} (h : ReadsP w v l) (o : Obj) : ReadsP (w.alloc o) v l := h.below ((Below.refl _ _).alloc (Nat.le_refl _) _)
/-- What it is, as a slice. -/
theorem ReadsP.form {w : World} {v : Value} {l : List Int} (h : ReadsP w v l) : ∃ a cap, v = .slice a l.length cap ∧ l.length ≤ maxLen := by
  rcases h with ⟨rfl, a, cap, h, _⟩ | ⟨b, off, cap, h1, h2, h3, h4, h5, h6⟩
  · exact ⟨a, cap, h, by simp⟩
  · exact ⟨_, cap, h1, by omega⟩
theorem reads_ownP {w : World} {base : Nat} {e : TypeId} {v : Value} {n : Nat} {l : List Int} (h : w.ownsRow base e 1 v n (l.map ic)) : ReadsP w v l := by
  obtain ⟨h1, h2⟩ := h
  simp at h1
  rcases h2 with ⟨rfl, h0⟩ | ⟨g, cap, cur, rfl, hg, hw, hn, hm, hs, ht⟩
  · left
    refine ⟨List.length_eq_zero_iff.1 (by omega), none, 0, rfl, fun _ => rfl⟩
  · rcases Nat.eq_zero_or_pos n with h0 | h0
    · left; exact ⟨List.length_eq_zero_iff.1 (by omega), _, cap, by rw [h0], fun h => by cases h⟩
    · right
      have hown : w.ownsRow base e 1 (.slice (some ⟨g, 0, none⟩) n cap) n (l.map ic) := ⟨by simp; exact h1, .inr ⟨g, cap, cur, rfl, hg, hw, hn, hm, hs, ht⟩⟩
      refine ⟨g, 0, cap, by rw [h1], by omega, by omega, hm, (hown.lt g rfl).2, fun j hj => ?_⟩
      have := hown.cells (g := g) rfl j (ic l[j]) (by simp [hj])
      have ea : (⟨g, 0, none⟩ : Addr).add j = ⟨g, 0 + j, none⟩ := by simp [Addr.add]; omega
      rw [ea] at this
      exact this
theorem own_blockP {w : World} {base : Nat} {e : TypeId} {size : Nat} {v : Value} {n : Nat} {xs : List Value} (h : w.ownsRow base e size v n xs) : ∀ k, v.ownBlock = some k → base ≤ k := fun k hk => (h.lt k hk).1
theorem own_monoP {w : World} {base base' : Nat} {e : TypeId} {size : Nat} {v : Value} {n : Nat} {xs : List Value} (h : w.ownsRow base e size v n xs) (hb : base' ≤ base) : w.ownsRow base' e size v n xs := by
  obtain ⟨h1, h2⟩ := h
  refine ⟨h1, ?_⟩
  rcases h2 with h2 | ⟨g, cap, cur, hv, hg, r⟩
  · exact .inl h2
  · exact .inr ⟨g, cap, cur, hv, by omega, r⟩
theorem info5P : (Tryz.prog.info? 3).map (fun i => (i.zero, i.size, i.bytes)) = some (some (.int .i64 0), 1, 8) := by kernel_rfl
theorem newsRP {w : World} {b off : Nat} {l : List Int} (h : ∀ j (h : j < l.length), w.cell? ⟨b, off + j, none⟩ = some (ic l[j])) : ∀ j u, (l.map ic)[j]? = some u → w.cell? ((⟨b, off, none⟩ : Addr).add j) = some u := by
  intro j u hj
  rw [List.getElem?_map] at hj
  rcases Nat.lt_or_ge j l.length with hlt | hge
  · rw [List.getElem?_eq_getElem hlt] at hj
    simp at hj
    subst hj
    have ea : (⟨b, off, none⟩ : Addr).add j = ⟨b, off + j, none⟩ := by simp [Addr.add]
    rw [ea]; exact h j hlt
  · rw [List.getElem?_eq_none hge] at hj; simp at hj
theorem one_ic {l : List Int} : ∀ u ∈ l.map ic, u.oneCell' = true := by
  intro u hu
  obtain ⟨x, _, rfl⟩ := List.mem_map.1 hu
  rfl
/-- Numbers of one's own: their slice's array was made since base. -/
def OwnP (w : World) (base : Nat) (v : Value) (l : List Int) : Prop := w.ownsRow base 3 1 v l.length (l.map ic)
theorem OwnP.nil (w : World) (base : Nat) : OwnP w base (.slice none 0 0) [] := World.ownsRow_nil _ _ _ _
theorem OwnP.reads {w : World} {base : Nat} {v : Value} {l : List Int} (h : OwnP w base v l) : ReadsP w v l := reads_ownP h
theorem OwnP.mono {w : World} {base base' : Nat} {v : Value} {l : List Int} (h : OwnP w base v l) (hb : base' ≤ base) : OwnP w base' v l := own_monoP h hb
theorem OwnP.below {w w' : World} {base : Nat} {v : Value} {l : List Int} (h : OwnP w base v l) (hb : Below w.heap.size w w') : OwnP w' base v l := by
  have hlt := World.ownsRow.lt h
  obtain ⟨h1, h2⟩ := h
  refine ⟨h1, ?_⟩
  rcases h2 with h2 | ⟨g, cap, cur, hv, hg, hw, r⟩
  · exact .inl h2
  · exact .inr ⟨g, cap, cur, hv, hg, (hb.block g (hlt g (by rw [hv]; rfl)).2).trans hw, r⟩
theorem OwnP.alloc {w : World} {base : Nat} {v : Value} {l : List Int} (h : OwnP w base v l) (o : Obj) : OwnP (w.alloc o) base v l := World.ownsRow.alloc h o
theorem OwnP.form {w : World} {base : Nat} {v : Value} {l : List Int} (h : OwnP w base v l) : ∃ a cap, v = .slice a l.length cap ∧ l.length ≤ maxLen := h.reads.form
/-- Numbers, whatever their slice is, behind numbers of one's own. -/
theorem wpList_appP {w : World} {ops : Array Oper} {rest : List Oper} {o : Oper} {a : Act} {Q : Exit → Act → World → Prop} (hgd : o.guard = none) (s x : Operand)
    (ho : o.op = .call { callee := .builtin .append, args := #[s, x], argTypes := #[36, 36] })
    (base : Nat) (v vx : Value) (L l M : List Int) (hM : M = L ++ l) (hs : a.eval s = v) (hx : a.eval x = vx) (hown : OwnP w base v L) (hr : ReadsP w vx l)
    (hlen : L.length + l.length ≤ 17592186044416) (hbase : base ≤ w.heap.size)
    (h : ∀ v' w', OwnP w' base v' M → Hid (Below base w w') → wpList Tryz.prog ops Q rest (a.put o.dst v') w') : wpList Tryz.prog ops Q (o :: rest) a w := by
  subst hM
  obtain ⟨i0, hi, hz0, hz1, hz2⟩ := info_parts info5P
  rcases hr with ⟨rfl, ad, cap, rfl, hn⟩ | ⟨b, off, cap, rfl, h2, h3, h4, h5, h6⟩
  · cases ad with
    | none =>
      obtain rfl := hn rfl
      refine wpList_append_own_none hgd s x 36 ho base 3 i0 1 Tryz.underlying36 hi v L.length (L.map ic) hs hown hx ?_
      exact h v w (by rw [List.append_nil]; exact hown) (Below.refl _ _)
    | some ad =>
      refine wpList_append_own w hgd s x 36 ho base 3 i0 (.int .i64 0) 1 8 Tryz.underlying36 hi hz0 hz1 hz2 rfl (by decide) v L.length (L.map ic) hs hown ad 0 cap [] hx (by simp) (by intro j u hj; simp at hj) (by intro u hu; simp at hu) (by simp [maxLen] at *; omega) (by (try simp at *); omega) hbase ?_
      intro v' w' hown' hgrow _
      refine h v' w' ?_ ((Below.refl _ _).grown hgrow hbase (own_blockP hown))
      unfold OwnP; simpa using hown'
  · refine wpList_append_own w hgd s x 36 ho base 3 i0 (.int .i64 0) 1 8 Tryz.underlying36 hi hz0 hz1 hz2 rfl (by decide) v L.length (L.map ic) hs hown ⟨b, off, none⟩ l.length cap (l.map ic) hx (by simp) (newsRP h6) one_ic (by simp [maxLen] at *; omega) (by (try simp at *); omega) hbase ?_
    intro v' w' hown' hgrow _
    refine h v' w' ?_ ((Below.refl _ _).grown hgrow hbase (own_blockP hown))
    unfold OwnP; rw [List.length_append, List.map_append]; exact hown'
/-- One number, just laid, behind numbers of one's own. -/
theorem wpList_app1P {w0 : World} {ops : Array Oper} {rest : List Oper} {o : Oper} {a : Act} {Q : Exit → Act → World → Prop} {u : Value} {t : TypeId} (hgd : o.guard = none) (s x : Operand)
    (ho : o.op = .call { callee := .builtin .append, args := #[s, x], argTypes := #[36, 36] })
    (base : Nat) (v : Value) (L : List Int) (y : Int) (M : List Int) (hM : M = L ++ [y]) (hu : u = ic y) (hs : a.eval s = v) (hx : a.eval x = .slice (some ⟨w0.heap.size, 0, none⟩) 1 1) (hown : OwnP w0 base v L)
    (hlen : L.length + 1 ≤ 17592186044416) (hbase : base ≤ w0.heap.size)
    (h : ∀ v' w', OwnP w' base v' M → Hid (Below base w0 w') → wpList Tryz.prog ops Q rest (a.put o.dst v') w') : wpList Tryz.prog ops Q (o :: rest) a (w0.alloc (.cells #[u] t)) := by
  subst hu
  refine wpList_appP hgd s x ho base v _ L [y] M hM hs hx (hown.alloc _) (.inr ⟨w0.heap.size, 0, 1, rfl, by simp, by simp, by simp [maxLen], by simp, fun j hj => ?_⟩) (by simpa using hlen) (by simp; omega) ?_
  · have : j = 0 := by simpa using hj
    subst this; simp
  · intro v' w' h1 h2
    exact h v' w' h1 (((Below.refl _ _).alloc hbase _).trans h2.out)
theorem OwnP.at {w : World} {base g cap n : Nat} {l : List Int} (h : OwnP w base (.slice (some ⟨g, 0, none⟩) n cap) l) (j : Nat) (hj : j < l.length) : w.cell? ⟨g, j, none⟩ = some (ic l[j]) ∧ w.frozen? ⟨g, j, none⟩ = false := by
  have hn : n = l.length := by
    obtain ⟨a, c, hv, _⟩ := h.form
    simp at hv; exact hv.2.1
  subst hn
  refine ⟨?_, World.ownsRow.frozenAt h j⟩
  rw [World.ownsRow.cellAt h j (by simpa using hj)]
  simp [hj]
theorem OwnP.stored {w : World} {base g cap n : Nat} {l : List Int} (h : OwnP w base (.slice (some ⟨g, 0, none⟩) n cap) l) (j : Nat) (y : Int) : OwnP (w.setCell ⟨g, j, none⟩ (ic y)) base (.slice (some ⟨g, 0, none⟩) n cap) (l.set j y) ∧ Below base w (w.setCell ⟨g, j, none⟩ (ic y)) := by
  have hn : n = l.length := by
    obtain ⟨a, c, hv, _⟩ := h.form
    simp at hv; exact hv.2.1
  subst hn
  have hb := own_blockP h g rfl
  refine ⟨?_, (Below.refl _ _).setCell hb _⟩
  have := (World.ownsRow.stored h j (ic y)).1
  unfold OwnP
  rw [List.length_set, List.map_set]
  exact this
theorem OwnP.some {w : World} {base : Nat} {v : Value} {l : List Int} (h : OwnP w base v l) (h0 : 0 < l.length) : ∃ g cap, v = .slice (some ⟨g, 0, none⟩) l.length cap ∧ base ≤ g ∧ g < w.heap.size ∧ l.length ≤ cap ∧ cap ≤ maxLen := by
  have hlt := World.ownsRow.lt h
  rcases h.2 with ⟨_, h1⟩ | ⟨g, cap, cur, hv, hg, hw, hc, hm, _⟩
  · omega
  · exact ⟨g, cap, hv, hg, (hlt g (by rw [hv]; rfl)).2, hc, hm⟩
theorem ReadsP.at {w : World} {a : Option Addr} {n cap : Nat} {l : List Int} (h : ReadsP w (.slice a n cap) l) (j : Nat) (hj : j < l.length) : ∃ b off, a = some ⟨b, off, none⟩ ∧ b < w.heap.size ∧ w.cell? ⟨b, off + j, none⟩ = some (ic l[j]) := by
  rcases h with ⟨rfl, _⟩ | ⟨b, off, cap', hv, h2, h3, h4, h5, h6⟩
  · simp at hj
  · simp at hv
    exact ⟨b, off, hv.1, h5, h6 j hj⟩
theorem hid_exP {α : Type} (a : α) : ∃ b, Hid (b = a) := ⟨a, rfl⟩
end Go.Proofs.YthicmbjiblbcmaaGreat

/- Runs in memory: those that a slice reads, and those of one's own. -/
namespace Go.Proofs.YthicmbjiblbcmaaGreat
open Go.ChangeShapes Go.WideShapes Go.ChangeAt Go.RowKit Go.Joins

/-- A run: its file, its level, its count, whether it is stale. -/
structure Rn where
  f : Int
  l : Int
  c : Int
  s : Bool
/-- Its numbers are int's. -/
structure RnOk (r : Rn) : Prop where
  f1 : -9223372036854775808 ≤ r.f
  f2 : r.f ≤ 9223372036854775807
  l1 : -9223372036854775808 ≤ r.l
  l2 : r.l ≤ 9223372036854775807
  c1 : -9223372036854775808 ≤ r.c
  c2 : r.c ≤ 9223372036854775807
def r4 (r : Rn) : List Value := [.int .i64 r.f, .int .i64 r.l, .int .i64 r.c, .bool r.s]
theorem r4_len (r : Rn) : (r4 r).length = 4 := rfl
theorem cell_rowP {w : World} {b : Nat} {cs : Array Value} {T : TypeId} (h : w.heap[b]? = some (.cells cs T)) (i : Nat) (hi : i < cs.size) : w.cell? ⟨b, i, none⟩ = some cs[i] ∧ w.frozen? ⟨b, i, none⟩ = false := by
  refine ⟨by simp [World.cell?, h, hi], by simp [World.frozen?, h]⟩
/-- A slice value reads these runs. -/
def NReads (w : World) (v : Value) (L : List Rn) : Prop :=
  ∃ a cap, v = .slice a L.length cap ∧ L.length ≤ cap ∧ cap ≤ maxLen ∧ (∀ r ∈ L, RnOk r) ∧ (L = [] ∨ ∃ b off, a = some ⟨b, off, none⟩ ∧ b < w.heap.size ∧ ∀ j (hj : j < L.length) i (hi : i < 4), w.cell? ⟨b, off + j * 4 + i, none⟩ = some ((r4 L[j])[i]'hi))
theorem NReads.below {w w' : World} {v : Value} {L : List Rn} (h : NReads w v L) (hb : Below w.heap.size w w') : NReads w' v L := by
  obtain ⟨a, cap, rfl, h1, h2, hk, h3⟩ := h
  refine ⟨a, cap, rfl, h1, h2, hk, ?_⟩
  rcases h3 with h3 | ⟨b, off, h4, h5, h6⟩
  · exact .inl h3
  · exact .inr ⟨b, off, h4, Nat.lt_of_lt_of_le h5 hb.size, fun j hj i hi => (hb.cell (p := ⟨b, off + j * 4 + i, none⟩) h5).trans (h6 j hj i hi)⟩
theorem NReads.form {w : World} {v : Value} {L : List Rn} (h : NReads w v L) : ∃ a cap, v = .slice a L.length cap ∧ L.length ≤ cap ∧ cap ≤ maxLen := by
  obtain ⟨a, cap, rfl, h1, h2, _⟩ := h
  exact ⟨a, cap, rfl, h1, h2⟩
theorem NReads.ok {w : World} {v : Value} {L : List Rn} (h : NReads w v L) : ∀ r ∈ L, RnOk r := by
  obtain ⟨a, cap, rfl, h1, h2, hk, _⟩ := h
  exact hk
theorem NReads.ptr {w : World} {a : Option Addr} {n cap : Nat} {L : List Rn} (h : NReads w (.slice a n cap) L) (h0 : 0 < L.length) : ∃ b off, a = some ⟨b, off, none⟩ ∧ b < w.heap.size := by
  obtain ⟨a', cap', hv, h1, h2, _, h3⟩ := h
  simp at hv
  obtain ⟨rfl, rfl, rfl⟩ := hv
  rcases h3 with rfl | ⟨b, off, rfl, h5, h6⟩
  · simp at h0
  · exact ⟨b, off, rfl, h5⟩
theorem NReads.at {w : World} {b off n cap : Nat} {L : List Rn} (h : NReads w (.slice (some ⟨b, off, none⟩) n cap) L) {j : Nat} (hj : j < L.length) : ∀ i (hi : i < 4), w.cell? ⟨b, off + j * 4 + i, none⟩ = some ((r4 L[j])[i]'hi) := by
  obtain ⟨a', cap', hv, h1, h2, _, h3⟩ := h
  simp at hv
  obtain ⟨rfl, rfl, rfl⟩ := hv
  rcases h3 with rfl | ⟨b, off, e, h5, h6⟩
  · simp at hj
  · simp at e
    obtain ⟨rfl, rfl⟩ := e
    exact h6 j hj
/-- The four cells of a run, one by one. -/
theorem NReads.four {w : World} {b off n cap : Nat} {L : List Rn} (h : NReads w (.slice (some ⟨b, off, none⟩) n cap) L) {j : Nat} (hj : j < L.length) (r : Rn) (hr : r = L[j]) :
    w.cell? ⟨b, off + j * 4, none⟩ = some (.int .i64 r.f) ∧ w.cell? ⟨b, off + j * 4 + 1, none⟩ = some (.int .i64 r.l) ∧ w.cell? ⟨b, off + j * 4 + 2, none⟩ = some (.int .i64 r.c) ∧ w.cell? ⟨b, off + j * 4 + 3, none⟩ = some (.bool r.s) := by
  subst hr
  have h' := h.at hj
  exact ⟨h' 0 (by decide), h' 1 (by decide), h' 2 (by decide), h' 3 (by decide)⟩
theorem NReads.nil (w : World) : NReads w (.slice none 0 0) [] := ⟨none, 0, rfl, by simp, by simp, by simp, .inl rfl⟩
/-- A slice of runs of one's own (T: of which kind). -/
def NOwn (T : TypeId) (W : World) (base : Nat) (v : Value) (xs : List Rn) : Prop := W.ownsRow base T 4 v xs.length (xs.flatMap r4) ∧ ∀ r ∈ xs, RnOk r
theorem flat4 : ∀ (xs : List Rn) (j i : Nat) (hj : j < xs.length), i < 4 → (xs.flatMap r4)[4 * j + i]? = (r4 xs[j])[i]?
  | [], j, i, hj, _ => by simp at hj
  | x :: xs, 0, i, _, hi => by
    rw [List.flatMap_cons, List.getElem?_append_left (by rw [r4_len]; omega)]; simp
  | x :: xs, j + 1, i, hj, hi => by
    rw [List.flatMap_cons, List.getElem?_append_right (by rw [r4_len]; omega), r4_len, show 4 * (j + 1) + i - 4 = 4 * j + i by omega]
    exact flat4 xs j i (by simpa using hj) hi
theorem NOwn.reads {T : TypeId} {w : World} {base : Nat} {v : Value} {xs : List Rn} (h : NOwn T w base v xs) : NReads w v xs := by
  have hlt := World.ownsRow.lt h.1
  rcases h.1.2 with ⟨h1, h2⟩ | ⟨g, cap, cur, hv, hg, hw, hc, hm, _⟩
  · have : xs = [] := List.length_eq_zero_iff.1 h2
    subst this
    rw [h1]; exact NReads.nil _
  · have hr := h.1
    rw [hv] at hr
    refine ⟨_, cap, hv, hc, hm, h.2, .inr ⟨g, 0, rfl, (hlt g (by rw [hv]; rfl)).2, fun j hj i hi => ?_⟩⟩
    rw [show 0 + j * 4 + i = 4 * j + i by omega, World.ownsRow.cellAt hr _ (by omega), flat4 xs j i hj hi, List.getElem?_eq_getElem hi]
theorem NOwn.nil (T : TypeId) (w : World) (base : Nat) : NOwn T w base (.slice none 0 0) [] := ⟨World.ownsRow_nil _ _ _ _, by simp⟩
theorem NOwn.below {T : TypeId} {w w' : World} {base : Nat} {v : Value} {xs : List Rn} (h : NOwn T w base v xs) (hb : Below w.heap.size w w') : NOwn T w' base v xs := by
  have hlt := World.ownsRow.lt h.1
  obtain ⟨⟨h1, h2⟩, hk⟩ := h
  refine ⟨⟨h1, ?_⟩, hk⟩
  rcases h2 with h2 | ⟨g, cap, cur, hv, hg, hw, r⟩
  · exact .inl h2
  · exact .inr ⟨g, cap, cur, hv, hg, (hb.block g (hlt g (by rw [hv]; rfl)).2).trans hw, r⟩
theorem NOwn.mono {T : TypeId} {w : World} {base base' : Nat} {v : Value} {xs : List Rn} (h : NOwn T w base v xs) (hb : base' ≤ base) : NOwn T w base' v xs := ⟨own_monoP h.1 hb, h.2⟩
end Go.Proofs.YthicmbjiblbcmaaGreat

/- A struct is stored: the world behind it, by name. -/
namespace Go.Proofs.YthicmbjiblbcmaaGreat
open Go.RowKit

/-- W is w, but for some cells of one block. -/
structure StWP (w W : World) (g off : Nat) (cur : Array Value) (T : TypeId) (vs : List Value) : Prop where
  b : ∀ lo, lo ≤ g → Below lo w W
  o : ∀ k, k ≠ g → W.heap[k]? = w.heap[k]?
  c : ∃ cur', W.heap[g]? = some (.cells cur' T) ∧ cur'.size = cur.size ∧ (∀ k, k < off ∨ off + vs.length ≤ k → cur'[k]? = cur[k]?) ∧ ∀ i (hi : i < vs.length), cur'[off + i]? = some vs[i]
theorem stW_cellsP (g : Nat) (T : TypeId) : ∀ (vs : List Value) (off : Nat) (w : World) (cur : Array Value), w.heap[g]? = some (.cells cur T) → off + vs.length ≤ cur.size → StWP w (w.setCells g off vs) g off cur T vs
  | [], off, w, cur, hg, _ => ⟨fun lo _ => Below.refl _ _, fun _ _ => rfl, ⟨cur, hg, rfl, fun _ _ => rfl, fun i hi => by simp at hi⟩⟩
  | v :: r, off, w, cur, hg, hl => by
    have h1 := heap_setCell_same w g off cur T v hg
    have ih := stW_cellsP g T r (off + 1) (w.setCell ⟨g, off, none⟩ v) (cur.setIfInBounds off v) h1 (by simp at hl ⊢; omega)
    have e : w.setCells g off (v :: r) = (w.setCell ⟨g, off, none⟩ v).setCells g (off + 1) r := rfl
    rw [e]
    obtain ⟨cur', c1, c2, c3, c4⟩ := ih.c
    refine ⟨fun lo hlo => ((Below.refl _ _).setCell hlo _).trans (ih.b lo hlo), fun k hk => (ih.o k hk).trans (Below.heap_setCell _ _ _ _ hk), ⟨cur', c1, by simpa using c2, fun k hk => ?_, fun i hi => ?_⟩⟩
    · simp at hk
      rw [c3 k (by omega), Array.getElem?_setIfInBounds_ne (by omega)]
    · cases i with
      | zero =>
        have hs : off < cur.size := by simp at hl; omega
        rw [Nat.add_zero, c3 off (.inl (by omega))]
        simp [hs]
      | succ i =>
        have := c4 i (by simpa using hi)
        rw [show off + (i + 1) = off + 1 + i by omega, this]
        simp
section
variable {ops : Array Oper} {rest : List Oper} {op : Oper} {a : Act} {w : World} {Q : Exit → Act → World → Prop}
theorem there_ofP {g off n : Nat} {cur : Array Value} {T : TypeId} (hg : w.heap[g]? = some (.cells cur T)) (hl : off + n ≤ cur.size) : w.there g off n := fun j hj => ⟨by
  have : off + j < cur.size := by omega
  simp [World.cell?, hg, this], by simp [World.frozen?, hg]⟩
theorem wp_storeNP {K : Act → World → Prop} (ty : TypeId) (x y : Operand) (ho : op.op = .store ty x y) (g off : Nat) (vs : List Value) (hx : a.eval x = .pointer (some ⟨g, off, none⟩)) (hy : a.eval y = .agg vs.toArray)
    (cur : Array Value) (T : TypeId) (hg : w.heap[g]? = some (.cells cur T)) (hl : off + vs.length ≤ cur.size) (hi : (Tryz.prog.info? ty).map (·.size) = some vs.length) (h1 : vs.toArray.all (·.oneCell') = true)
    (h : ∀ W, StWP w W g off cur T vs → K (a.put op.dst undef) W) : op.wp Tryz.prog a w K Q :=
  wp_store_mid ty x y ho g off vs.toArray hx hy (there_ofP hg (by simpa using hl)) (by simpa using hi) h1 (h _ (stW_cellsP g T vs off w cur hg hl))
theorem wpList_storeNP (hgd : op.guard = none) (ty : TypeId) (x y : Operand) (ho : op.op = .store ty x y) (g off : Nat) (vs : List Value) (hx : a.eval x = .pointer (some ⟨g, off, none⟩)) (hy : a.eval y = .agg vs.toArray)
    (cur : Array Value) (T : TypeId) (hg : w.heap[g]? = some (.cells cur T)) (hl : off + vs.length ≤ cur.size) (hi : (Tryz.prog.info? ty).map (·.size) = some vs.length) (h1 : vs.toArray.all (·.oneCell') = true)
    (h : ∀ W, StWP w W g off cur T vs → wpList Tryz.prog ops Q rest (a.put op.dst undef) W) : wpList Tryz.prog ops Q (op :: rest) a w :=
  wpList_plain hgd fun _ hK => wp_storeNP ty x y ho g off vs hx hy cur T hg hl hi h1 (fun W hW => hK _ _ (h W hW))
/-- The walk stands still here. -/
structure StopP (p : Prop) : Prop where
  out : p
theorem stop_storeP (ty : TypeId) (x y : Operand) (_ho : op.op = .store ty x y) (h : StopP (wpList Tryz.prog ops Q (op :: rest) a w)) : wpList Tryz.prog ops Q (op :: rest) a w := h.out
theorem StopP.of {p : Prop} (h : p) : StopP p := ⟨h⟩
end
end Go.Proofs.YthicmbjiblbcmaaGreat

/- Runs that are a tree; parts of a slice of runs. -/
namespace Go.Proofs.YthicmbjiblbcmaaGreat
open Go.RowKit

def one (r : Rn) : Prop := 1 ≤ r.f ∧ 0 ≤ r.l ∧ r.l ≤ 3 ∧ 1 ≤ r.c
def apart (a b : Rn) : Prop := a.f ≠ b.f ∧ ¬ (0 < b.l ∧ a.l = b.l)
/-- Runs are a tree. -/
def okR (L : List Rn) : Prop := L.length ≤ 64 ∧ (∀ r ∈ L, one r) ∧ L.Pairwise apart
def decR (L : List Rn) : Decidable (okR L) := by unfold okR one apart; infer_instance
def okB (L : List Rn) : Bool := @decide (okR L) (decR L)
theorem okB_true {L : List Rn} (h : okR L) : okB L = true := @decide_eq_true _ (decR L) h
theorem okB_false {L : List Rn} (h : ¬ okR L) : okB L = false := @decide_eq_false _ (decR L) h
theorem okB_iff {L : List Rn} : okB L = true ↔ okR L := @decide_eq_true_iff _ (decR L)
theorem okR_iff (L : List Rn) : okR L ↔ L.length ≤ 64 ∧ ∀ k (hk : k < L.length), one L[k] ∧ ∀ i (hi : i < k), apart L[i] L[k] := by
  unfold okR
  constructor
  · rintro ⟨h1, h2, h3⟩
    refine ⟨h1, fun k hk => ⟨h2 _ (List.getElem_mem hk), fun i hi => ?_⟩⟩
    exact List.pairwise_iff_getElem.1 h3 i k (by omega) hk hi
  · rintro ⟨h1, h2⟩
    refine ⟨h1, fun r hr => ?_, List.pairwise_iff_getElem.2 fun i j hi hj hij => (h2 j hj).2 i hij⟩
    obtain ⟨k, hk, rfl⟩ := List.getElem_of_mem hr
    exact (h2 k hk).1
theorem okR_not {L : List Rn} {k : Nat} (hk : k < L.length) (h : ¬ (one L[k] ∧ ∀ i (hi : i < k), apart L[i] L[k])) : okB L = false := okB_false (fun h' => h (((okR_iff L).1 h').2 k hk))
theorem elemN : Tryz.prog.elem 27 = 47 := by kernel_rfl
theorem undN : Tryz.prog.underlying 27 = some (.slice (Tryz.prog.elem 27)) := by rw [elemN]; exact Tryz.underlying27
theorem sizeN (w : World) : (sizeOf 47).run Tryz.prog w = .ok 4 w := by
  simp [sizeOf]
  rfl
theorem NReads.sliced {w : World} {a : Option Addr} {cap : Nat} {L : List Rn} (h : NReads w (.slice a L.length cap) L) {c d : Nat} (hc : c ≤ d) (hd : d ≤ L.length) : NReads w (sliced a c d cap 4) ((L.take d).drop c) := by
  obtain ⟨a', cap', hv, h1, h2, hk, h3⟩ := h
  simp at hv
  obtain ⟨rfl, rfl⟩ := hv
  unfold Go.sliced
  have hl : ((L.take d).drop c).length = d - c := by simp; omega
  refine ⟨_, cap - c, by rw [hl], by omega, by omega, fun r hr => hk r (List.mem_of_mem_take (List.mem_of_mem_drop hr)), ?_⟩
  rcases Nat.eq_zero_or_pos (d - c) with h0 | h0
  · exact .inl (List.eq_nil_of_length_eq_zero (by omega))
  · rcases h3 with rfl | ⟨b, off, rfl, h5, h6⟩
    · simp at hd; omega
    · have hne : cap ≠ c := by omega
      refine .inr ⟨b, off + c * 4, ?_, h5, fun j hj i hi => ?_⟩
      · rw [if_neg hne]; simp [Addr.add]
      · have := h6 (c + j) (by omega) i hi
        rw [show off + c * 4 + j * 4 + i = off + (c + j) * 4 + i by omega, this]
        congr 2
        simp
/-- L[:d] -/
theorem nsl_upto {w : World} {a : Option Addr} {cap : Nat} {L : List Rn} (h : NReads w (.slice a L.length cap) L) {d : Nat} (hd : d ≤ L.length) :
    ∃ a' cap', (∀ w', (Instr.slice 27 (.slice a L.length cap) none (some (.int .i64 (d : Int))) none).run Tryz.prog w' = .ok (.slice a' d cap') w') ∧ NReads w (.slice a' d cap') (L.take d) := by
  obtain ⟨_, _, hv, hcap, _⟩ := h.form
  simp at hv
  obtain ⟨_, rfl⟩ := hv
  refine ⟨(if cap = 0 then a else a.map (·.add (0 * 4))), cap - 0, fun w' => ?_, ?_⟩
  rotate_left
  · exact h.sliced (Nat.zero_le d) hd
  · rw [run_slice_h _ _ _ _ _ undN _ _ (by omega) (by omega), elemN, sizeN]
    rfl
/-- What a box has after a struct was stored into it. -/
theorem stW_new {w W : World} {b0 : Array Value} {T : TypeId} {vs : List Value} (h : StWP (w.alloc (.cells b0 T)) W w.heap.size 0 b0 T vs) (hb : b0.size = vs.length) : Below w.heap.size w W ∧ W.heap[w.heap.size]? = some (.cells vs.toArray T) ∧ w.heap.size < W.heap.size := by
  have hbl : Below w.heap.size w W := ((Below.refl _ _).alloc (Nat.le_refl _) _).trans (h.b _ (Nat.le_refl _))
  obtain ⟨cur, h1, h2, _, h4⟩ := h.c
  have e : cur = vs.toArray := by
    apply Array.ext (by simp; omega)
    intro i hi hj
    have := h4 i (by simpa using hj)
    rw [Nat.zero_add, Array.getElem?_eq_getElem hi] at this
    simpa using this
  rw [e] at h1
  exact ⟨hbl, h1, (Array.getElem?_eq_some_iff.1 h1).1⟩
/-- The four cells of a run in a box of its own. -/
theorem box4 {W : World} {B : Nat} {r : Rn} {T : TypeId} (h : W.heap[B]? = some (.cells (r4 r).toArray T)) : W.cell? ⟨B, 0, none⟩ = some (.int .i64 r.f) ∧ W.cell? ⟨B, 1, none⟩ = some (.int .i64 r.l) ∧ W.cell? ⟨B, 2, none⟩ = some (.int .i64 r.c) ∧ W.cell? ⟨B, 3, none⟩ = some (.bool r.s) :=
  ⟨(cell_rowP h 0 (by simp [r4])).1, (cell_rowP h 1 (by simp [r4])).1, (cell_rowP h 2 (by simp [r4])).1, (cell_rowP h 3 (by simp [r4])).1⟩
set_option maxRecDepth 100000 in
theorem isLevel_any (x : Int) (w : World) : Calls Tryz.prog 27 #[.int .i64 x] w fun e w' => e = .returned (.bool (decide (0 ≤ x ∧ x ≤ 3))) ∧ w' = w := by
  obtain ⟨d, hd⟩ : ∃ d, decide (0 ≤ x ∧ x ≤ 3) = d := ⟨_, rfl⟩
  rw [hd]
  by_cases h1 : 0 ≤ x
  · go_enter Tryz.func27, Tryz.ntmps27
    go_wp2_with fail
    go_ret
    refine ⟨congrArg _ (show Value.bool (decide (x < 4)) = Value.bool d from congrArg _ ?_), rfl⟩
    rw [← hd, decide_eq_decide]
    omega
  · go_enter Tryz.func27, Tryz.ntmps27
    go_wp2_with fail
    go_ret
    refine ⟨congrArg _ (show Value.bool false = Value.bool d from congrArg _ ?_), rfl⟩
    rw [← hd]
    exact (decide_eq_false (by omega)).symm
end Go.Proofs.YthicmbjiblbcmaaGreat

/- The contract of Right. -/
namespace Go.Proofs.YthicmbjiblbcmaaGreat
open Go.RowKit

set_option maxRecDepth 100000 in
set_option maxHeartbeats 2000000 in
theorem right_anyP (v : Value) (L : List Rn) (w : World) (hR : NReads w v L) : Calls Tryz.prog 15 #[v] w fun e w' => e = .returned (.bool (okB L)) ∧ Below w.heap.size w w' := by
  have HR : Hid (NReads w v L) := hR
  obtain ⟨a, cap, rfl, hl1, hl2⟩ := hR.form
  clear hR
  unfold maxLen at hl2
  obtain ⟨res, HRes⟩ := hid_exP (okB L)
  rw [← HRes.out]
  by_cases h64 : L.length ≤ 64
  · go_enter Tryz.func15, Tryz.ntmps15
    go_wp2_with fail
    go_loopw [12] (fun i wr => ∃ k : Nat, k ≤ L.length ∧ i = .int .i64 (k : Int) ∧ Hid (∀ j (hj : j < L.length), j < k → one L[j] ∧ ∀ i (hi : i < j), apart L[i] L[j]) ∧ Hid (Below w.heap.size w wr)) (fun i _ => L.length - (intOf i).toNat)
    case atStart => exact ⟨0, by omega, rfl, fun j hj h => absurd h (by omega), Below.refl _ _⟩
    case round =>
      obtain ⟨k, hk, rfl, HP, HB⟩ := hrel
      by_cases hlt : k < L.length
      · obtain ⟨b, off, rfl, hb⟩ := HR.out.ptr (by omega)
        obtain ⟨r, Hr⟩ := hid_exP L[k]
        obtain ⟨c0, c1, c2, c3⟩ := (HR.out.below HB.out).four hlt r Hr.out
        obtain ⟨pa, pc, hsl, hsr⟩ := nsl_upto HR.out (d := k) (by omega)
        have HSR : Hid (NReads w (.slice pa k pc) (L.take k)) := hsr
        clear hsr
        go_wp2_with (refine stop_storeP 47 _ _ rfl ?_)
        refine StopP.of ?_
        refine wpList_storeNP rfl _ _ _ rfl wr.heap.size 0 (r4 r) rfl rfl _ _ (heap_alloc_new _ _) (by rw [r4_len]; simp) (by kernel_rfl) (by kernel_rfl) ?_
        intro W hW
        obtain ⟨hbW, hxW, hlW⟩ := stW_new hW (by simp [r4_len])
        have HBW : Hid (Below w.heap.size w W) := HB.out.trans (hbW.mono HB.out.size)
        have HX : Hid _ := hxW
        obtain ⟨d0, d1, d2, d3⟩ := box4 hxW
        clear hW hbW hxW c0 c1 c2 c3
        by_cases hf : 1 ≤ r.f
        · by_cases hlv : 0 ≤ r.l ∧ r.l ≤ 3
          · by_cases hc : 1 ≤ r.c
            · have HO : Hid (one r) := ⟨hf, hlv.1, hlv.2, hc⟩
              have hdl : decide (0 ≤ r.l ∧ r.l ≤ 3) = true := decide_eq_true hlv
              go_wp2_with fail
              refine (isLevel_any _ _).mono ?_
              rw [hdl]
              rintro e w' ⟨rfl, hw'⟩
              subst w'
              go_wp2_with fail
              obtain ⟨hl0, hl3⟩ := hlv
              go_loopw [35] (fun i wq => ∃ j : Nat, j ≤ k ∧ i = .int .i64 (j : Int) ∧ Hid (∀ i (hi : i < L.length), i < j → apart L[i] r) ∧ Hid (Below W.heap.size W wq)) (fun i _ => k - (intOf i).toNat)
              case atStart => exact ⟨0, by omega, rfl, fun j hj h => absurd h (by omega), Below.refl _ _⟩
              case round =>
                obtain ⟨j, hj, rfl, HA, HBq⟩ := hrel
                by_cases hjk : j < k
                · obtain ⟨pb, po, rfl, hpb⟩ := HSR.out.ptr (by simp; omega)
                  have hjl : j < (L.take k).length := by simp; omega
                  obtain ⟨o, Ho⟩ := hid_exP (L.take k)[j]
                  have HBn : Hid (Below w.heap.size w wr) := HBW.out.trans (HBq.out.mono HBW.out.size)
                  obtain ⟨c0, c1, c2, c3⟩ := (HSR.out.below HBn.out).four hjl o Ho.out
                  have HoL : Hid (o = L[j]'(by omega)) := by
                    unfold Hid
                    rw [Ho.out]
                    simp
                  clear hjl Ho
                  go_wp2_with (refine stop_storeP 47 _ _ rfl ?_)
                  refine StopP.of ?_
                  refine wpList_storeNP rfl _ _ _ rfl wr.heap.size 0 (r4 o) rfl rfl _ _ (heap_alloc_new _ _) (by rw [r4_len]; simp) (by kernel_rfl) (by kernel_rfl) ?_
                  intro V hV
                  obtain ⟨hbV, hxV, hlV⟩ := stW_new hV (by simp [r4_len])
                  have HBV : Hid (Below W.heap.size W V) := HBq.out.trans (hbV.mono HBq.out.size)
                  have HBv : Hid (Below w.heap.size w V) := HBW.out.trans (HBV.out.mono HBW.out.size)
                  have hXV := (HBV.out.block _ hlW).trans HX.out
                  obtain ⟨f0, f1, f2, f3⟩ := box4 hxV
                  obtain ⟨d0, d1, d2, d3⟩ := box4 hXV
                  clear hV hbV hxV c0 c1 c2 c3 hXV
                  by_cases hff : o.f = r.f
                  · have hbf : (o.f == r.f) = true := by simpa using hff
                    have HF : Hid (okB L = false) := okR_not hlt (fun h => by
                      have h1 := (h.2 j hjk).1
                      rw [← HoL.out, ← Hr.out] at h1
                      exact h1 hff)
                    clear hff
                    go_wp2_with fail
                    go_ret
                    refine ⟨?_, HBv.out⟩
                    rw [HRes.out, HF.out]
                    rfl
                  · have hbf : (o.f == r.f) = false := by simpa using hff
                    by_cases hl9 : 0 < r.l
                    · by_cases hll : o.l = r.l
                      · have hbl : (o.l == r.l) = true := by simpa using hll
                        have HF : Hid (okB L = false) := okR_not hlt (fun h => by
                          have h1 := (h.2 j hjk).2
                          rw [← HoL.out, ← Hr.out] at h1
                          exact h1 ⟨hl9, hll⟩)
                        clear hff hll
                        go_wp2_with fail
                        go_ret
                        refine ⟨?_, HBv.out⟩
                        rw [HRes.out, HF.out]
                        rfl
                      · have hbl : (o.l == r.l) = false := by simpa using hll
                        have HN : Hid (∀ i (hi : i < L.length), i < j + 1 → apart L[i] r) := by
                          intro i hi hij
                          rcases Nat.lt_or_ge i j with h9 | h9
                          · exact HA.out i hi h9
                          · obtain rfl : i = j := by omega
                            rw [← HoL.out]
                            exact ⟨hff, fun h => hll h.2⟩
                        clear hff hll
                        go_wp2_with fail
                        go_roundw
                        case rel => exact ⟨j + 1, by omega, by go_num, HN.out, HBV.out⟩
                        case measure => simp [intOf]; omega
                    · have HN : Hid (∀ i (hi : i < L.length), i < j + 1 → apart L[i] r) := by
                        intro i hi hij
                        rcases Nat.lt_or_ge i j with h9 | h9
                        · exact HA.out i hi h9
                        · obtain rfl : i = j := by omega
                          rw [← HoL.out]
                          exact ⟨hff, fun h => hl9 h.1⟩
                      clear hff
                      go_wp2_with fail
                      go_roundw
                      case rel => exact ⟨j + 1, by omega, by go_num, HN.out, HBV.out⟩
                      case measure => simp [intOf]; omega
                · have HN : Hid (∀ j (hj : j < L.length), j < k + 1 → one L[j] ∧ ∀ i (hi : i < j), apart L[i] L[j]) := by
                    intro j' hj' hjk'
                    rcases Nat.lt_or_ge j' k with h9 | h9
                    · exact HP.out j' hj' h9
                    · obtain rfl : j' = k := by omega
                      rw [← Hr.out]
                      exact ⟨HO.out, fun i hi => HA.out i (by omega) (by omega)⟩
                  have HBn : Hid (Below w.heap.size w wr) := HBW.out.trans (HBq.out.mono HBW.out.size)
                  go_wp2_with fail
                  go_roundw
                  case rel => exact ⟨k + 1, by omega, by go_num, HN.out, HBn.out⟩
                  case measure => simp [intOf]; omega
            · have HF : Hid (okB L = false) := okR_not hlt (fun h => by
                have h1 := h.1
                rw [← Hr.out] at h1
                exact hc h1.2.2.2)
              have hdl : decide (0 ≤ r.l ∧ r.l ≤ 3) = true := decide_eq_true hlv
              go_wp2_with fail
              refine (isLevel_any _ _).mono ?_
              rw [hdl]
              rintro e w' ⟨rfl, hw'⟩
              subst w'
              go_wp2_with fail
              go_ret
              refine ⟨?_, HBW.out⟩
              rw [HRes.out, HF.out]
              rfl
          · have HF : Hid (okB L = false) := okR_not hlt (fun h => by
              have h1 := h.1
              rw [← Hr.out] at h1
              exact hlv ⟨h1.2.1, h1.2.2.1⟩)
            have hdl : decide (0 ≤ r.l ∧ r.l ≤ 3) = false := decide_eq_false hlv
            go_wp2_with fail
            refine (isLevel_any _ _).mono ?_
            rw [hdl]
            rintro e w' ⟨rfl, hw'⟩
            subst w'
            go_wp2_with fail
            go_ret
            refine ⟨?_, HBW.out⟩
            rw [HRes.out, HF.out]
            rfl
        · have HF : Hid (okB L = false) := okR_not hlt (fun h => by
            have h1 := h.1
            rw [← Hr.out] at h1
            exact hf h1.1)
          go_wp2_with fail
          go_ret
          refine ⟨?_, HBW.out⟩
          rw [HRes.out, HF.out]
          rfl
      · go_wp2_with fail
        go_ret
        refine ⟨?_, HB.out⟩
        rw [HRes.out, okB_true ((okR_iff L).2 ⟨h64, fun j hj => HP.out j hj (by omega)⟩)]
        rfl
  · go_enter Tryz.func15, Tryz.ntmps15
    go_wp2_with fail
    go_ret
    refine ⟨?_, Below.refl _ _⟩
    rw [HRes.out, okB_false (fun h => by have := h.1; omega)]
    rfl
end Go.Proofs.YthicmbjiblbcmaaGreat
