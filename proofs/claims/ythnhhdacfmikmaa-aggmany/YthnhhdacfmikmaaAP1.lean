/- Slices of whole numbers; what is known of facts: plain words. -/
import Derived.Test.YthnhhdacfmikmaaAB3
import Derived.Test.YthnhhdacfmikmaaOB
namespace Go.Proofs.Ythnhhdacfmikmaa
open Go.ChangeShapes Go.WideShapes Go.ChangeAt Go.RowKit Go.Joins

def ic (z : Int) : Value := .int .i64 z
/-- A slice value reads these numbers. -/
def IReads (w : World) (v : Value) (l : List Int) : Prop :=
  (l = [] ∧ ∃ a cap, v = .slice a 0 cap ∧ (a = none → cap = 0)) ∨
  ∃ b off cap, v = .slice (some ⟨b, off, none⟩) l.length cap ∧ 0 < l.length ∧ l.length ≤ cap ∧ cap ≤ maxLen ∧ b < w.heap.size ∧ ∀ j (h : j < l.length), w.cell? ⟨b, off + j, none⟩ = some (ic l[j])
theorem IReads.below {w w' : World} {v : Value} {l : List Int} (h : IReads w v l) (hb : Below w.heap.size w w') : IReads w' v l := by
  rcases h with h | ⟨b, off, cap, h1, h2, h3, h4, h5, h6⟩
  · exact .inl h
  · have := hb.size
    exact .inr ⟨b, off, cap, h1, h2, h3, h4, by omega, fun j hj => (hb.cell (p := ⟨b, off + j, none⟩) h5).trans (h6 j hj)⟩
theorem IReads.form {w : World} {v : Value} {l : List Int} (h : IReads w v l) : ∃ a cap, v = .slice a l.length cap ∧ l.length ≤ maxLen := by
  rcases h with ⟨rfl, a, cap, h, _⟩ | ⟨b, off, cap, h1, h2, h3, h4, h5, h6⟩
  · exact ⟨a, cap, h, by simp⟩
  · exact ⟨_, cap, h1, by omega⟩
theorem ireads_own {w : World} {base : Nat} {e : TypeId} {v : Value} {n : Nat} {l : List Int} (h : w.ownsRow base e 1 v n (l.map ic)) : IReads w v l := by
  obtain ⟨h1, h2⟩ := h
  simp at h1
  rcases h2 with ⟨rfl, h0⟩ | ⟨g, cap, cur, rfl, hg, hw, hn, hm, hs, ht⟩
  · left
    refine ⟨List.length_eq_zero_iff.1 (by omega), none, 0, rfl, fun _ => rfl⟩
  · rcases Nat.eq_zero_or_pos n with h0 | h0
    · left; exact ⟨List.length_eq_zero_iff.1 (by omega), _, cap, by rw [h0], fun h => by cases h⟩
    · right
      have hown : w.ownsRow base e 1 (.slice (some ⟨g, 0, none⟩) n cap) n (l.map ic) := ⟨by simp; exact h1, .inr ⟨g, cap, cur, rfl, hg, hw, hn, hm, hs, ht⟩⟩
      refine ⟨g, 0, cap, by rw [h1], by omega, by omega, hm, (hown.lt g rfl).2, fun j hj => ?_⟩
      have := hown.cells (g := g) rfl j (ic l[j]) (by simp [hj])
      have ea : (⟨g, 0, none⟩ : Addr).add j = ⟨g, 0 + j, none⟩ := by simp [Addr.add]; omega
      rw [ea] at this
      exact this
theorem IReads.at {w : World} {a : Option Addr} {n cap : Nat} {l : List Int} (h : IReads w (.slice a n cap) l) (j : Nat) (hj : j < l.length) : ∃ b off, a = some ⟨b, off, none⟩ ∧ b < w.heap.size ∧ w.cell? ⟨b, off + j, none⟩ = some (ic l[j]) := by
  rcases h with ⟨rfl, _⟩ | ⟨b, off, cap', hv, h2, h3, h4, h5, h6⟩
  · simp at hj
  · simp at hv
    exact ⟨b, off, hv.1, h5, h6 j hj⟩
theorem IReads.cap {w : World} {a : Option Addr} {n cap : Nat} {l : List Int} (h : IReads w (.slice a n cap) l) (h0 : 0 < l.length) : l.length ≤ cap := by
  rcases h with ⟨rfl, _⟩ | ⟨b, off, cap', hv, h2, h3, h4, h5, h6⟩
  · simp at h0
  · simp at hv; omega
theorem sizeI (w : World) : (sizeOf 2).run Try.prog w = .ok 1 w := by
  simp [sizeOf]
  rfl
theorem elemI : Try.prog.elem 22 = 2 := by kernel_rfl
theorem undI : Try.prog.underlying 22 = some (.slice (Try.prog.elem 22)) := by rw [elemI]; exact Try.underlying22
theorem IReads.sliced {w : World} {a : Option Addr} {cap : Nat} {l : List Int} (h : IReads w (.slice a l.length cap) l) {c d : Nat} (hc : c ≤ d) (hd : d ≤ l.length) : IReads w (sliced a c d cap 1) ((l.take d).drop c) := by
  unfold Go.sliced
  rcases Nat.eq_zero_or_pos (d - c) with h0 | h0
  · have e : (l.take d).drop c = [] := List.drop_eq_nil_of_le (by simp; omega)
    rw [e, h0]
    refine .inl ⟨rfl, _, _, rfl, fun hn => ?_⟩
    split at hn
    · subst hn; omega
    · rcases h with ⟨_, a', cap', hv, hz⟩ | ⟨b, off, cap', hv, _⟩
      · simp at hv
        obtain ⟨rfl, _, rfl⟩ := hv
        cases a with
        | none => rw [hz rfl]; omega
        | some x => simp at hn
      · simp at hv
        obtain ⟨rfl, _⟩ := hv
        simp at hn
  · rcases h with ⟨rfl, _⟩ | ⟨b, off, cap', hv, h2, h3, h4, h5, h6⟩
    · simp at hd; omega
    · simp at hv
      obtain ⟨rfl, rfl⟩ := hv
      rw [if_neg (by omega)]
      have hl : ((l.take d).drop c).length = d - c := by simp; omega
      have ea : Option.map (fun x : Addr => x.add (c * 1)) (some (⟨b, off, none⟩ : Addr)) = some ⟨b, off + c, none⟩ := by simp [Addr.add]
      rw [ea]
      refine .inr ⟨b, off + c, cap - c, by rw [hl], by omega, by omega, by omega, h5, fun j hj => ?_⟩
      rw [Nat.add_assoc, h6 (c + j) (by omega)]
      simp
/-- l[c:] -/
theorem isl_from {w : World} {a : Option Addr} {cap : Nat} {l : List Int} (h : IReads w (.slice a l.length cap) l) {c : Nat} (hc : c ≤ l.length) :
    ∃ a' cap', (∀ w', (Instr.slice 22 (.slice a l.length cap) (some (.int .i64 (c : Int))) none none).run Try.prog w' = .ok (.slice a' (l.length - c) cap') w') ∧ IReads w (.slice a' (l.length - c) cap') (l.drop c) := by
  refine ⟨(if cap = c then a else a.map (·.add (c * 1))), cap - c, fun w' => ?_, ?_⟩
  rotate_left
  · have := h.sliced hc (Nat.le_refl _)
    rw [List.take_length] at this
    exact this
  · rw [run_slice_l _ _ _ _ _ undI _ _ (by omega) (by omega), elemI, sizeI]
    rfl
/-- l[:d] -/
theorem isl_upto {w : World} {a : Option Addr} {cap : Nat} {l : List Int} (h : IReads w (.slice a l.length cap) l) {d : Nat} (hd : d ≤ l.length) :
    ∃ a' cap', (∀ w', (Instr.slice 22 (.slice a l.length cap) none (some (.int .i64 (d : Int))) none).run Try.prog w' = .ok (.slice a' d cap') w') ∧ IReads w (.slice a' d cap') (l.take d) := by
  have hcap : d ≤ cap := by
    rcases Nat.eq_zero_or_pos l.length with h0 | h0
    · omega
    · have := h.cap h0; omega
  refine ⟨(if cap = 0 then a else a.map (·.add (0 * 1))), cap - 0, fun w' => ?_, ?_⟩
  rotate_left
  · exact h.sliced (Nat.zero_le d) hd
  · rw [run_slice_h _ _ _ _ _ undI _ _ (by omega) (by omega), elemI, sizeI]
    rfl
set_option maxRecDepth 100000 in
theorem openI {H : Type} {enc : TypeId × Value → H} {W : World} {r : Reach} {b0 base : Nat} {spare : Nat → Bool} {held : Bool} {v : Value} {d : DataW H} {p : List MemPlace}
    (hv : Value.okWide Try.prog W r b0 22 v) (h : DataW.Trod enc Try.prog W base spare held 22 v d p) :
    ∃ l : List Int, IReads W v l ∧ ∀ z ∈ l, -9223372036854775808 ≤ z ∧ z ≤ 9223372036854775807 := by
  obtain ⟨a, len, cap, rfl⟩ := okWide_slice Try.underlying22 hv
  obtain ⟨fuel, hf⟩ := h
  rcases open_ints Try.underlying22 Try.underlying2 (by kernel_rfl) hf with ⟨hcs, _⟩ | ⟨x, l, c, zs, hcs, _, hl, hm, hz, _, hcell, hwz⟩
  · simp [Value.cells] at hcs
    obtain ⟨rfl, rfl, rfl⟩ := hcs
    exact ⟨[], .inl ⟨rfl, _, _, rfl, fun _ => rfl⟩, fun z hz => by cases hz⟩
  · simp [Value.cells] at hcs
    obtain ⟨rfl, rfl, rfl⟩ := hcs
    have hzl : len ≤ zs.length := by rw [hz]; split <;> omega
    rcases Nat.eq_zero_or_pos len with h0 | h0
    · subst h0; exact ⟨[], .inl ⟨rfl, _, _, rfl, fun h => by cases h⟩, fun z hz => by cases hz⟩
    · refine ⟨zs.take len, .inr ?_, fun z hz => bounds_i64 (hwz z (List.mem_of_mem_take hz))⟩
      have hlen : (zs.take len).length = len := by simp; omega
      have c0 := hcell 0 (by omega)
      have e0 : x.add 0 = x := by simp [Addr.add]
      rw [e0] at c0
      obtain ⟨hb, hs⟩ := cell_block c0
      obtain ⟨b, off, spot⟩ := x
      simp only at hb hs
      subst hs
      refine ⟨b, off, cap, by rw [hlen], by omega, by omega, hm, hb, fun j hj => ?_⟩
      have hj' : j < len := by omega
      have cj := hcell j (by omega)
      have ea : (⟨b, off, none⟩ : Addr).add j = ⟨b, off + j, none⟩ := by simp [Addr.add]
      rw [ea] at cj
      rw [cj]
      have hzj : j < zs.length := by omega
      have hg : zs.getD j 0 = zs[j] := by simp [List.getD, hzj]
      rw [hg]
      simp [ic]

/-- The least one, and the greatest one. -/
def IsMn (l : List Int) (m : Int) : Prop := m ∈ l ∧ ∀ z ∈ l, m ≤ z
def IsMx (l : List Int) (m : Int) : Prop := m ∈ l ∧ ∀ z ∈ l, z ≤ m
theorem IsMn.uniq {l : List Int} {a b : Int} (h : IsMn l a) (k : IsMn l b) : a = b := by
  have := h.2 b k.1; have := k.2 a h.1; omega
theorem IsMx.uniq {l : List Int} {a b : Int} (h : IsMx l a) (k : IsMx l b) : a = b := by
  have := h.2 b k.1; have := k.2 a h.1; omega
theorem IsMn.app {l m : List Int} {a b : Int} (h : IsMn l a) (k : IsMn m b) : IsMn (l ++ m) (minF a b) := by
  unfold minF
  split
  · exact ⟨List.mem_append.2 (.inr k.1), fun z hz => by rcases List.mem_append.1 hz with hz | hz; (have := h.2 z hz; omega); exact k.2 z hz⟩
  · exact ⟨List.mem_append.2 (.inl h.1), fun z hz => by rcases List.mem_append.1 hz with hz | hz; exact h.2 z hz; (have := k.2 z hz; omega)⟩
theorem IsMx.app {l m : List Int} {a b : Int} (h : IsMx l a) (k : IsMx m b) : IsMx (l ++ m) (maxF a b) := by
  unfold maxF
  split
  · exact ⟨List.mem_append.2 (.inr k.1), fun z hz => by rcases List.mem_append.1 hz with hz | hz; (have := h.2 z hz; omega); exact k.2 z hz⟩
  · exact ⟨List.mem_append.2 (.inl h.1), fun z hz => by rcases List.mem_append.1 hz with hz | hz; exact h.2 z hz; (have := k.2 z hz; omega)⟩
/-- What is known of facts. -/
def Kn (l : List Int) (a : Ag) : Prop := (l = [] ∧ a = aZ) ∨ (l ≠ [] ∧ a.c = (l.length : Int) ∧ a.o = false ∧ a.s = l.sum ∧ IsMn l a.mn ∧ IsMx l a.mx)
theorem Kn.uniq {l : List Int} {a b : Ag} (h : Kn l a) (k : Kn l b) : a = b := by
  rcases h with ⟨h1, h2⟩ | ⟨h1, h2, h3, h4, h5, h6⟩
  · rcases k with ⟨_, k2⟩ | ⟨k1, _⟩
    · rw [h2, k2]
    · exact absurd h1 k1
  · rcases k with ⟨k1, _⟩ | ⟨k1, k2, k3, k4, k5, k6⟩
    · exact absurd k1 h1
    · obtain ⟨c, o, s, mn, mx⟩ := a
      obtain ⟨c', o', s', mn', mx'⟩ := b
      simp only at h2 h3 h4 h5 h6 k2 k3 k4 k5 k6
      rw [h2, h3, h4, k2, k3, k4, h5.uniq k5, h6.uniq k6]
theorem perm_sum {l m : List Int} (p : l.Perm m) : l.sum = m.sum := by
  induction p with
  | nil => rfl
  | cons x _ ih => simp [ih]
  | swap x y l => simp; omega
  | trans _ _ h1 h2 => exact h1.trans h2
theorem Kn.perm {l m : List Int} {a : Ag} (h : Kn l a) (p : l.Perm m) : Kn m a := by
  rcases h with ⟨h1, h2⟩ | ⟨h1, h2, h3, h4, h5, h6⟩
  · subst h1; exact .inl ⟨List.nil_perm.1 p, h2⟩
  · refine .inr ⟨fun e => by subst e; exact h1 (List.perm_nil.1 p), by rw [h2, p.length_eq], h3, by rw [h4, perm_sum p], ⟨p.mem_iff.1 h5.1, fun z hz => h5.2 z (p.mem_iff.2 hz)⟩, ⟨p.mem_iff.1 h6.1, fun z hz => h6.2 z (p.mem_iff.2 hz)⟩⟩
theorem Kn.one (v : Int) : Kn [v] (oneF v) := by
  refine .inr ⟨by simp, rfl, rfl, by unfold oneF; simp, ⟨by unfold oneF; simp, fun z hz => by simp at hz; subst hz; exact Int.le_refl _⟩, ⟨by unfold oneF; simp, fun z hz => by simp at hz; subst hz; exact Int.le_refl _⟩⟩
theorem Kn.app {l m : List Int} {a b : Ag} (h : Kn l a) (k : Kn m b) (hn : l.length + m.length ≤ 1000) : Kn (l ++ m) (mrg a b) := by
  rcases h with ⟨rfl, rfl⟩ | ⟨h1, h2, h3, h4, h5, h6⟩
  · have : mrg aZ b = b := by unfold mrg aZ; simp
    rw [this]; exact k
  · have hl : 0 < l.length := List.length_pos_iff.2 h1
    rcases k with ⟨rfl, rfl⟩ | ⟨k1, k2, k3, k4, k5, k6⟩
    · have : mrg a aZ = a := by unfold mrg; rw [if_neg (by omega), if_pos (show aZ.c = 0 from rfl)]
      rw [this, List.append_nil]
      exact .inr ⟨h1, h2, h3, h4, h5, h6⟩
    · have hm : 0 < m.length := List.length_pos_iff.2 k1
      have e : mrg a b = ⟨cntF a.c b.c, ovF a.c b.c || a.o || b.o, a.s + b.s, minF a.mn b.mn, maxF a.mx b.mx⟩ := by
        unfold mrg; rw [if_neg (by omega), if_neg (by omega)]
      rw [e]
      refine .inr ⟨by simp [h1], ?_, ?_, ?_, h5.app k5, h6.app k6⟩
      · show cntF a.c b.c = _
        unfold cntF; rw [if_pos (by omega), h2, k2, List.length_append]; omega
      · show (ovF a.c b.c || a.o || b.o) = false
        have : ovF a.c b.c = false := by unfold ovF; rw [decide_eq_false]; omega
        rw [this, h3, k3]; rfl
      · show a.s + b.s = _
        rw [h4, k4, List.sum_append]
theorem Kn.c {l : List Int} {a : Ag} (h : Kn l a) : a.c = (l.length : Int) ∧ a.o = false := by
  rcases h with ⟨rfl, rfl⟩ | ⟨_, h2, h3, _⟩
  · exact ⟨rfl, rfl⟩
  · exact ⟨h2, h3⟩
end Go.Proofs.Ythnhhdacfmikmaa
