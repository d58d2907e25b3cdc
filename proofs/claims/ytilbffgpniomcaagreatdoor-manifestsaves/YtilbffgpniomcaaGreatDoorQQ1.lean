/- C0 C1 C2 SHp MF0, joined. -/
import Derived.Test.YtilbffgpniomcaaGreatDoorRows
import Derived.WalkKit
import Derived.WalkSpells
import Derived.WalkLawsBesides
import Derived.WalkMore
import Derived.Below
import Derived.Laws.AppendOwn
import Derived.Laws.IdiomStrings
import Derived.Laws.BytesString
import Derived.Laws.Strings
import Derived.Deep.RegionHeld3
import Derived.Laws.AppendOwnNone
import Derived.Laws.BitsAllLaws
import Derived.ScopeJumps
/- Bytes that a slice reads, whoever made it. -/
namespace Go.Proofs.YtilbffgpniomcaaGreatDoor
open Go.RowKit

/-- A byte's cell. -/
def bc (x : UInt8) : Value := .int .u8 (x.toNat : Int)
/-- A slice value reads these bytes. -/
def Reads (w : World) (v : Value) (l : List UInt8) : Prop :=
  (l = [] ∧ ∃ a cap, v = .slice a 0 cap ∧ (a = none → cap = 0)) ∨
  ∃ b off cap, v = .slice (some ⟨b, off, none⟩) l.length cap ∧ 0 < l.length ∧ l.length ≤ cap ∧ cap ≤ maxLen ∧ b < w.heap.size ∧ ∀ j (h : j < l.length), w.cell? ⟨b, off + j, none⟩ = some (bc l[j])
theorem Reads.below {w w' : World} {v : Value} {l : List UInt8} (h : Reads w v l) (hb : Below w.heap.size w w') : Reads w' v l := by
  rcases h with h | ⟨b, off, cap, h1, h2, h3, h4, h5, h6⟩
  · exact .inl h
  · have := hb.size
    exact .inr ⟨b, off, cap, h1, h2, h3, h4, by omega, fun j hj => (hb.cell (p := ⟨b, off + j, none⟩) h5).trans (h6 j hj)⟩
theorem Reads.drew {w : World} {v : Value} {l : List UInt8} (h : Reads w v l) : Reads w.drew v l := h
theorem Reads.alloc {w : World} {v : Value} {l : List UInt8} (h : Reads w v l) (o : Obj) : Reads (w.alloc o) v l := h.below ((Below.refl _ _).alloc (Nat.le_refl _) _)
/-- What it is, as a slice. -/
theorem Reads.form {w : World} {v : Value} {l : List UInt8} (h : Reads w v l) : ∃ a cap, v = .slice a l.length cap ∧ l.length ≤ maxLen := by
  rcases h with ⟨rfl, a, cap, h, _⟩ | ⟨b, off, cap, h1, h2, h3, h4, h5, h6⟩
  · exact ⟨a, cap, h, by simp⟩
  · exact ⟨_, cap, h1, by omega⟩
theorem reads_own {w : World} {base : Nat} {e : TypeId} {v : Value} {n : Nat} {l : List UInt8} (h : w.ownsRow base e 1 v n (l.map bc)) : Reads w v l := by
  obtain ⟨h1, h2⟩ := h
  simp at h1
  rcases h2 with ⟨rfl, h0⟩ | ⟨g, cap, cur, rfl, hg, hw, hn, hm, hs, ht⟩
  · left
    refine ⟨List.length_eq_zero_iff.1 (by omega), none, 0, rfl, fun _ => rfl⟩
  · rcases Nat.eq_zero_or_pos n with h0 | h0
    · left; exact ⟨List.length_eq_zero_iff.1 (by omega), _, cap, by rw [h0], fun h => by cases h⟩
    · right
      have hown : w.ownsRow base e 1 (.slice (some ⟨g, 0, none⟩) n cap) n (l.map bc) := ⟨by simp; exact h1, .inr ⟨g, cap, cur, rfl, hg, hw, hn, hm, hs, ht⟩⟩
      refine ⟨g, 0, cap, by rw [h1], by omega, by omega, hm, (hown.lt g rfl).2, fun j hj => ?_⟩
      have := hown.cells (g := g) rfl j (bc l[j]) (by simp [hj])
      have ea : (⟨g, 0, none⟩ : Addr).add j = ⟨g, 0 + j, none⟩ := by simp [Addr.add]; omega
      rw [ea] at this
      exact this
theorem own_block {w : World} {base : Nat} {e : TypeId} {size : Nat} {v : Value} {n : Nat} {xs : List Value} (h : w.ownsRow base e size v n xs) : ∀ k, v.ownBlock = some k → base ≤ k := fun k hk => (h.lt k hk).1
theorem own_mono {w : World} {base base' : Nat} {e : TypeId} {size : Nat} {v : Value} {n : Nat} {xs : List Value} (h : w.ownsRow base e size v n xs) (hb : base' ≤ base) : w.ownsRow base' e size v n xs := by
  obtain ⟨h1, h2⟩ := h
  refine ⟨h1, ?_⟩
  rcases h2 with h2 | ⟨g, cap, cur, hv, hg, r⟩
  · exact .inl h2
  · exact .inr ⟨g, cap, cur, hv, by omega, r⟩
/-- Its text. -/
theorem reads_text {w : World} {v : Value} {l : List UInt8} (h : Reads w v l) : (convert 22 9 v).run Tryz.prog w = .ok (.string ⟨l.toArray⟩) w := by
  rcases h with ⟨rfl, a, cap, rfl, _⟩ | ⟨b, off, cap, rfl, h2, h3, h4, h5, h6⟩
  · rw [run_convert_bytes_string w 22 9 5 a 0 cap Tryz.underlying22 Tryz.underlying5 Tryz.underlying9]
    cases a <;> simp [Conv.bytesToString, loadCells]
    all_goals rfl
  · exact run_convert_bytes_back (P := Tryz.prog) w 22 9 5 ⟨b, off, none⟩ cap l Tryz.underlying22 Tryz.underlying5 Tryz.underlying9 (by
      intro j hj
      have ea : (⟨b, off, none⟩ : Addr).add j = ⟨b, off + j, none⟩ := by simp [Addr.add]
      rw [ea]
      exact h6 j hj)
theorem info5 : (Tryz.prog.info? 5).map (fun i => (i.zero, i.size, i.bytes)) = some (some (.int .u8 0), 1, 1) := by kernel_rfl
theorem news1 {w : World} {x : Value} {t : TypeId} : ∀ j u, [x][j]? = some u → (w.alloc (.cells #[x] t)).cell? ((⟨w.heap.size, 0, none⟩ : Addr).add j) = some u := by
  intro j u hj
  match j, hj with
  | 0, hj => simp at hj; subst hj; simp [Addr.add]
theorem news2 {w : World} {x y : Value} {t : TypeId} : ∀ j u, [x, y][j]? = some u → (w.alloc (.cells #[x, y] t)).cell? ((⟨w.heap.size, 0, none⟩ : Addr).add j) = some u := by
  intro j u hj
  match j, hj with
  | 0, hj => simp at hj; subst hj; simp [Addr.add]
  | 1, hj => simp at hj; subst hj; simp [Addr.add]
theorem one1 {k : IntKind} {x : Int} : ∀ u ∈ [Value.int k x], u.oneCell' = true := by intro u hu; simp at hu; subst hu; rfl
theorem one2 {k : IntKind} {x y : Int} : ∀ u ∈ [Value.int k x, Value.int k y], u.oneCell' = true := by intro u hu; simp at hu; rcases hu with rfl | rfl <;> rfl
theorem len_ok {n m : Nat} (h : n + m ≤ 100000) : n + m ≤ maxLen ∧ (n + m) * 1 ≤ 140737488355328 := by unfold maxLen; omega
theorem al_ok {w w1 : World} {o : Obj} (h : w.heap.size ≤ w1.heap.size) : w.heap.size ≤ (w1.alloc o).heap.size := by simp; omega
theorem reads_take {w : World} {b off cap : Nat} {l : List UInt8} (c : Nat) (hc : c ≤ l.length) (hcap : l.length ≤ cap) (hm : cap ≤ maxLen) (hb : b < w.heap.size) (h : ∀ j (h : j < l.length), w.cell? ⟨b, off + j, none⟩ = some (bc l[j])) : Reads w (.slice (some ⟨b, off, none⟩) c cap) (l.take c) := by
  rcases Nat.eq_zero_or_pos c with h0 | h0
  · subst h0; exact .inl ⟨rfl, _, _, rfl, fun h => by cases h⟩
  · have hl : (l.take c).length = c := by simp; omega
    refine .inr ⟨b, off, cap, by rw [hl], by omega, by omega, hm, hb, fun j hj => ?_⟩
    rw [h j (by omega)]
    simp
theorem newsR {w : World} {b off : Nat} {l : List UInt8} (h : ∀ j (h : j < l.length), w.cell? ⟨b, off + j, none⟩ = some (bc l[j])) : ∀ j u, (l.map bc)[j]? = some u → w.cell? ((⟨b, off, none⟩ : Addr).add j) = some u := by
  intro j u hj
  rw [List.getElem?_map] at hj
  rcases Nat.lt_or_ge j l.length with hlt | hge
  · rw [List.getElem?_eq_getElem hlt] at hj
    simp at hj
    subst hj
    have ea : (⟨b, off, none⟩ : Addr).add j = ⟨b, off + j, none⟩ := by simp [Addr.add]
    rw [ea]; exact h j hlt
  · rw [List.getElem?_eq_none hge] at hj; simp at hj
theorem one_bc {l : List UInt8} : ∀ u ∈ l.map bc, u.oneCell' = true := by
  intro u hu
  obtain ⟨x, _, rfl⟩ := List.mem_map.1 hu
  rfl
/-- Bytes of one's own: their slice's array was made since base. -/
def Own (w : World) (base : Nat) (v : Value) (l : List UInt8) : Prop := w.ownsRow base 5 1 v l.length (l.map bc)
theorem Own.nil (w : World) (base : Nat) : Own w base (.slice none 0 0) [] := World.ownsRow_nil _ _ _ _
theorem Own.reads {w : World} {base : Nat} {v : Value} {l : List UInt8} (h : Own w base v l) : Reads w v l := reads_own h
theorem Own.mono {w : World} {base base' : Nat} {v : Value} {l : List UInt8} (h : Own w base v l) (hb : base' ≤ base) : Own w base' v l := own_mono h hb
theorem Own.below {w w' : World} {base : Nat} {v : Value} {l : List UInt8} (h : Own w base v l) (hb : Below w.heap.size w w') : Own w' base v l := by
  have hlt := World.ownsRow.lt h
  obtain ⟨h1, h2⟩ := h
  refine ⟨h1, ?_⟩
  rcases h2 with h2 | ⟨g, cap, cur, hv, hg, hw, r⟩
  · exact .inl h2
  · exact .inr ⟨g, cap, cur, hv, hg, (hb.block g (hlt g (by rw [hv]; rfl)).2).trans hw, r⟩
theorem Own.alloc {w : World} {base : Nat} {v : Value} {l : List UInt8} (h : Own w base v l) (o : Obj) : Own (w.alloc o) base v l := World.ownsRow.alloc h o
theorem Own.form {w : World} {base : Nat} {v : Value} {l : List UInt8} (h : Own w base v l) : ∃ a cap, v = .slice a l.length cap ∧ l.length ≤ maxLen := h.reads.form
/-- Bytes, whatever their slice is, behind bytes of one's own. -/
theorem wpList_app {w : World} {ops : Array Oper} {rest : List Oper} {o : Oper} {a : Act} {Q : Exit → Act → World → Prop} (hgd : o.guard = none) (s x : Operand)
    (ho : o.op = .call { callee := .builtin .append, args := #[s, x], argTypes := #[22, 22] })
    (base : Nat) (v vx : Value) (L l M : List UInt8) (hM : M = L ++ l) (hs : a.eval s = v) (hx : a.eval x = vx) (hown : Own w base v L) (hr : Reads w vx l)
    (hlen : L.length + l.length ≤ 140737488355328) (hbase : base ≤ w.heap.size)
    (h : ∀ v' w', Own w' base v' M → Hid (Below base w w') → wpList Tryz.prog ops Q rest (a.put o.dst v') w') : wpList Tryz.prog ops Q (o :: rest) a w := by
  subst hM
  obtain ⟨i0, hi, hz0, hz1, hz2⟩ := info_parts info5
  rcases hr with ⟨rfl, ad, cap, rfl, hn⟩ | ⟨b, off, cap, rfl, h2, h3, h4, h5, h6⟩
  · cases ad with
    | none =>
      obtain rfl := hn rfl
      refine wpList_append_own_none hgd s x 22 ho base 5 i0 1 Tryz.underlying22 hi v L.length (L.map bc) hs hown hx ?_
      exact h v w (by rw [List.append_nil]; exact hown) (Below.refl _ _)
    | some ad =>
      refine wpList_append_own w hgd s x 22 ho base 5 i0 (.int .u8 0) 1 1 Tryz.underlying22 hi hz0 hz1 hz2 rfl (by decide) v L.length (L.map bc) hs hown ad 0 cap [] hx (by simp) (by intro j u hj; simp at hj) (by intro u hu; simp at hu) (by simp [maxLen] at *; omega) (by simp at *; omega) hbase ?_
      intro v' w' hown' hgrow _
      refine h v' w' ?_ ((Below.refl _ _).grown hgrow hbase (own_block hown))
      unfold Own; simpa using hown'
  · refine wpList_append_own w hgd s x 22 ho base 5 i0 (.int .u8 0) 1 1 Tryz.underlying22 hi hz0 hz1 hz2 rfl (by decide) v L.length (L.map bc) hs hown ⟨b, off, none⟩ l.length cap (l.map bc) hx (by simp) (newsR h6) one_bc (by simp [maxLen] at *; omega) (by simp at *; omega) hbase ?_
    intro v' w' hown' hgrow _
    refine h v' w' ?_ ((Below.refl _ _).grown hgrow hbase (own_block hown))
    unfold Own; rw [List.length_append, List.map_append]; exact hown'
/-- One byte, just laid, behind bytes of one's own. -/
theorem wpList_app1 {w0 : World} {ops : Array Oper} {rest : List Oper} {o : Oper} {a : Act} {Q : Exit → Act → World → Prop} {u : Value} {t : TypeId} (hgd : o.guard = none) (s x : Operand)
    (ho : o.op = .call { callee := .builtin .append, args := #[s, x], argTypes := #[22, 22] })
    (base : Nat) (v : Value) (L : List UInt8) (y : UInt8) (M : List UInt8) (hM : M = L ++ [y]) (hu : u = bc y) (hs : a.eval s = v) (hx : a.eval x = .slice (some ⟨w0.heap.size, 0, none⟩) 1 1) (hown : Own w0 base v L)
    (hlen : L.length + 1 ≤ 140737488355328) (hbase : base ≤ w0.heap.size)
    (h : ∀ v' w', Own w' base v' M → Hid (Below base w0 w') → wpList Tryz.prog ops Q rest (a.put o.dst v') w') : wpList Tryz.prog ops Q (o :: rest) a (w0.alloc (.cells #[u] t)) := by
  subst hu
  refine wpList_app hgd s x ho base v _ L [y] M hM hs hx (hown.alloc _) (.inr ⟨w0.heap.size, 0, 1, rfl, by simp, by simp, by simp [maxLen], by simp, fun j hj => ?_⟩) (by simpa using hlen) (by simp; omega) ?_
  · have : j = 0 := by simpa using hj
    subst this; simp
  · intro v' w' h1 h2
    exact h v' w' h1 (((Below.refl _ _).alloc hbase _).trans h2.out)
theorem Own.at {w : World} {base g cap n : Nat} {l : List UInt8} (h : Own w base (.slice (some ⟨g, 0, none⟩) n cap) l) (j : Nat) (hj : j < l.length) : w.cell? ⟨g, j, none⟩ = some (bc l[j]) ∧ w.frozen? ⟨g, j, none⟩ = false := by
  have hn : n = l.length := by
    obtain ⟨a, c, hv, _⟩ := h.form
    simp at hv; exact hv.2.1
  subst hn
  refine ⟨?_, World.ownsRow.frozenAt h j⟩
  rw [World.ownsRow.cellAt h j (by simpa using hj)]
  simp [hj]
theorem Own.stored {w : World} {base g cap n : Nat} {l : List UInt8} (h : Own w base (.slice (some ⟨g, 0, none⟩) n cap) l) (j : Nat) (y : UInt8) : Own (w.setCell ⟨g, j, none⟩ (bc y)) base (.slice (some ⟨g, 0, none⟩) n cap) (l.set j y) ∧ Below base w (w.setCell ⟨g, j, none⟩ (bc y)) := by
  have hn : n = l.length := by
    obtain ⟨a, c, hv, _⟩ := h.form
    simp at hv; exact hv.2.1
  subst hn
  have hb := own_block h g rfl
  refine ⟨?_, (Below.refl _ _).setCell hb _⟩
  have := (World.ownsRow.stored h j (bc y)).1
  unfold Own
  rw [List.length_set, List.map_set]
  exact this
theorem Own.some {w : World} {base : Nat} {v : Value} {l : List UInt8} (h : Own w base v l) (h0 : 0 < l.length) : ∃ g cap, v = .slice (some ⟨g, 0, none⟩) l.length cap ∧ base ≤ g ∧ g < w.heap.size ∧ l.length ≤ cap ∧ cap ≤ maxLen := by
  have hlt := World.ownsRow.lt h
  rcases h.2 with ⟨_, h1⟩ | ⟨g, cap, cur, hv, hg, hw, hc, hm, _⟩
  · omega
  · exact ⟨g, cap, hv, hg, (hlt g (by rw [hv]; rfl)).2, hc, hm⟩
theorem Reads.at {w : World} {a : Option Addr} {n cap : Nat} {l : List UInt8} (h : Reads w (.slice a n cap) l) (j : Nat) (hj : j < l.length) : ∃ b off, a = some ⟨b, off, none⟩ ∧ b < w.heap.size ∧ w.cell? ⟨b, off + j, none⟩ = some (bc l[j]) := by
  rcases h with ⟨rfl, _⟩ | ⟨b, off, cap', hv, h2, h3, h4, h5, h6⟩
  · simp at hj
  · simp at hv
    exact ⟨b, off, hv.1, h5, h6 j hj⟩
/-- The same, as the run's equation. -/
theorem run_app {w : World} (ty : TypeId) (base : Nat) (v vx : Value) (L l M : List UInt8) (hM : M = L ++ l) (hown : Own w base v L) (hr : Reads w vx l) (hlen : L.length + l.length ≤ 140737488355328) (hbase : base ≤ w.heap.size) :
    ∃ v' w', (Builtin.append_ #[22, 22] ty #[v, vx]).run Tryz.prog w = .ok v' w' ∧ Own w' base v' M ∧ Hid (Below base w w') := by
  subst hM
  obtain ⟨i0, hi, hz0, hz1, hz2⟩ := info_parts info5
  rcases hr with ⟨rfl, ad, cap, rfl, hn⟩ | ⟨b, off, cap, rfl, h2, h3, h4, h5, h6⟩
  · cases ad with
    | none =>
      obtain rfl := hn rfl
      exact ⟨v, w, run_append_owned_none (P := Tryz.prog) w base 22 ty 5 i0 1 Tryz.underlying22 hi v L.length (L.map bc) hown, by rw [List.append_nil]; exact hown, Below.refl _ _⟩
    | some ad =>
      obtain ⟨v', w', hrun, hown', hgrow, _⟩ := run_append_own (P := Tryz.prog) w base 22 ty 5 i0 (.int .u8 0) 1 1 Tryz.underlying22 hi hz0 hz1 hz2 rfl (by decide) v L.length (L.map bc) hown ad 0 cap [] (by simp) (by intro j u hj; simp at hj) (by intro u hu; simp at hu) (by simp [maxLen] at *; omega) (by simp at *; omega) hbase
      exact ⟨v', w', hrun, by unfold Own; simpa using hown', (Below.refl _ _).grown hgrow hbase (own_block hown)⟩
  · obtain ⟨v', w', hrun, hown', hgrow, _⟩ := run_append_own (P := Tryz.prog) w base 22 ty 5 i0 (.int .u8 0) 1 1 Tryz.underlying22 hi hz0 hz1 hz2 rfl (by decide) v L.length (L.map bc) hown ⟨b, off, none⟩ l.length cap (l.map bc) (by simp) (newsR h6) one_bc (by simp [maxLen] at *; omega) (by simp at *; omega) hbase
    exact ⟨v', w', hrun, by unfold Own; rw [List.length_append, List.map_append]; exact hown', (Below.refl _ _).grown hgrow hbase (own_block hown)⟩
/-- The same, at one operation. -/
theorem wp_app {w : World} {o : Oper} {a : Act} {K : Act → World → Prop} {Q : Exit → Act → World → Prop} (s x : Operand)
    (ho : o.op = .call { callee := .builtin .append, args := #[s, x], argTypes := #[22, 22] })
    (base : Nat) (v vx : Value) (L l M : List UInt8) (hM : M = L ++ l) (hs : a.eval s = v) (hx : a.eval x = vx) (hown : Own w base v L) (hr : Reads w vx l)
    (hlen : L.length + l.length ≤ 140737488355328) (hbase : base ≤ w.heap.size)
    (h : ∀ v' w', Own w' base v' M → Hid (Below base w w') → K (a.put o.dst v') w') : o.wp Tryz.prog a w K Q := by
  obtain ⟨v', w', hrun, h1, h2⟩ := run_app (w := w) o.type base v vx L l M hM hown hr hlen hbase
  unfold Oper.wp
  simp [execOp, ho, resolve, invoke, builtin, hs, hx, hrun, Result.andThen]
  exact h v' w' h1 h2
theorem hid_ex {α : Type} (a : α) : ∃ b, Hid (b = a) := ⟨a, rfl⟩
end Go.Proofs.YtilbffgpniomcaaGreatDoor

/- The contract of code.Short: a number, short. -/
namespace Go.Proofs.YtilbffgpniomcaaGreatDoor
open Go.RowKit

/-- A number's bytes, short. -/
def sh (n : Nat) : List UInt8 := if n < 128 then [UInt8.ofNat n] else UInt8.ofNat (n % 128 + 128) :: sh (n / 128)
termination_by n
decreasing_by omega
theorem sh_lo {n : Nat} (h : n < 128) : sh n = [UInt8.ofNat n] := by rw [sh]; simp [h]
theorem sh_hi {n : Nat} (h : ¬ n < 128) : sh n = UInt8.ofNat (n % 128 + 128) :: sh (n / 128) := by rw [sh]; simp [h]
theorem bc_of {n : Nat} (h : n < 256) : bc (UInt8.ofNat n) = .int .u8 (n : Int) := by
  unfold bc
  have : (UInt8.ofNat n).toNat = n := by simp [UInt8.toNat_ofNat']; omega
  rw [this]
theorem sh_len (k : Nat) : ∀ n, n < 128 ^ (k + 1) → (sh n).length ≤ k + 1 := by
  induction k with
  | zero => intro n hn; rw [sh_lo (by simpa using hn)]; simp
  | succ k ih =>
    intro n hn
    by_cases h : n < 128
    · rw [sh_lo h]; simp
    · rw [sh_hi h]
      have := ih (n / 128) (by rw [Nat.div_lt_iff_lt_mul (by omega)]; rw [Nat.pow_succ] at hn; exact hn)
      simp; omega
theorem sh_len10 {n : Nat} (h : n < 18446744073709551616) : (sh n).length ≤ 10 := sh_len 9 n (Nat.lt_of_lt_of_le h (by decide))
theorem sh_pos (n : Nat) : 0 < (sh n).length := by
  by_cases h : n < 128
  · rw [sh_lo h]; simp
  · rw [sh_hi h]; simp

set_option maxRecDepth 100000 in
set_option maxHeartbeats 1000000 in
theorem short_any (n : Nat) (hn : n < 18446744073709551616) (w : World) :
    Calls Tryz.prog 79 #[.int .u64 (n : Int)] w fun e w' => ∃ v, e = .returned v ∧ w'.ownsRow w.heap.size 5 1 v (sh n).length ((sh n).map bc) ∧ Below w.heap.size w w' := by
  obtain ⟨i0, hi, hz0, hz1, hz2⟩ := info_parts info5
  go_enter Tryz.func79, Tryz.ntmps79
  go_wp2_with fail
  go_loopw [0, 3] (fun x v wr => ∃ (m : Nat) (L : List UInt8), m < 18446744073709551616 ∧ x = .int .u64 (m : Int) ∧ sh n = L ++ sh m ∧ wr.ownsRow w.heap.size 5 1 v L.length (L.map bc) ∧ Below w.heap.size w wr) (fun x _ _ => (intOf x).toNat)
  case atStart => exact ⟨n, [], hn, rfl, rfl, World.ownsRow_nil _ _ _ _, Below.refl _ _⟩
  case round =>
    obtain ⟨m, L, hm, rfl, hL, hown, hbr⟩ := hrel
    have hsz := hbr.size
    have hlen := sh_len10 hn
    rw [hL, List.length_append] at hlen
    have hpos := sh_pos m
    by_cases hlt : m < 128
    · have hlti : (m : Int) < 128 := by omega
      have HO0 : Hid _ := hL
      clear hL
      go_wp2_with (at_builtin; refine wpList_append_own _ rfl _ _ 22 rfl w.heap.size 5 i0 (.int .u8 0) 1 1 Tryz.underlying22 hi hz0 hz1 hz2 rfl (by decide) _ _ _ rfl (hown.alloc _) ⟨wr.heap.size, 0, none⟩ 1 1 [.int .u8 (m : Int)] rfl rfl news1 one1 (len_ok (by omega)).1 (len_ok (by omega)).2 (al_ok hsz) ?_)
      intro v' w1 hown' hgrow _
      have HO2 : Hid (w1.ownsRow w.heap.size 5 1 v' (sh n).length ((sh n).map bc)) := by
        have e : (sh n).length = L.length + 1 := by rw [HO0.out, sh_lo hlt]; simp
        rw [e, HO0.out, sh_lo hlt, List.map_append]
        simp only [List.map_cons, List.map_nil]
        rw [bc_of (by omega)]
        exact hown'
      have HB2 : Hid (Below w.heap.size w w1) := (hbr.alloc hbr.size _).grown hgrow (by have := hbr.size; simp; omega) (own_block hown)
      clear hown hown' hgrow hbr
      go_wp2_with fail
      go_ret
      exact ⟨_, rfl, HO2.out, HB2.out⟩
    · have hlti : ¬ (m : Int) < 128 := by omega
      have HO0 : Hid _ := hL
      clear hL
      go_wp2_with (at_builtin; refine wpList_append_own _ rfl _ _ 22 rfl w.heap.size 5 i0 (.int .u8 0) 1 1 Tryz.underlying22 hi hz0 hz1 hz2 rfl (by decide) _ _ _ rfl (hown.alloc _) ⟨wr.heap.size, 0, none⟩ 1 1 [.int .u8 ((m : Int) % 128 + 128)] rfl rfl news1 one1 (len_ok (by omega)).1 (len_ok (by omega)).2 (al_ok hsz) ?_)
      intro v' w1 hown' hgrow _
      have hp2 : (sh m).length = (sh (m / 128)).length + 1 := by rw [sh_hi hlt]; simp
      have HO2 : Hid (w1.ownsRow w.heap.size 5 1 v' (L ++ [UInt8.ofNat (m % 128 + 128)]).length ((L ++ [UInt8.ofNat (m % 128 + 128)]).map bc)) := by
        rw [List.map_append, List.length_append]
        simp only [List.map_cons, List.map_nil]
        rw [bc_of (by omega)]
        have e : ((m % 128 + 128 : Nat) : Int) = (m : Int) % 128 + 128 := by omega
        rw [e]
        exact hown'
      have HB2 : Hid (Below w.heap.size w w1) := (hbr.alloc hbr.size _).grown hgrow (by have := hbr.size; simp; omega) (own_block hown)
      have HE : Hid (sh n = (L ++ [UInt8.ofNat (m % 128 + 128)]) ++ sh (m / 128)) := by unfold Hid; rw [HO0.out, sh_hi hlt]; simp
      clear hown hown' hgrow hbr HO0
      go_wp2_with fail
      go_roundw
      case rel => exact ⟨m / 128, L ++ [UInt8.ofNat (m % 128 + 128)], by omega, by go_num, HE.out, HO2.out, HB2.out⟩
      case measure => simp [intOf]; omega
end Go.Proofs.YtilbffgpniomcaaGreatDoor

/- The contract of code.ReadShort. -/
namespace Go.Proofs.YtilbffgpniomcaaGreatDoor
open Go.RowKit

/-- What ReadShort tells of bytes, of which i were read, and made v. -/
def rsF : List UInt8 → Nat → Nat → Nat × Nat × Int
  | [], _, _ => (0, 0, 10)
  | x :: l, i, v =>
    if i = 9 ∧ 1 < x.toNat then (0, 0, 11)
    else if 128 ≤ x.toNat then rsF l (i + 1) (v + x.toNat % 128 * 128 ^ i)
    else if x.toNat = 0 ∧ 0 < i then (0, 0, 3) else (v + x.toNat % 128 * 128 ^ i, i + 1, 0)

/-- What holds at each jump to the fault. -/
def JRs (l : List UInt8) (w : World) (a' : Act) (w' : World) : Prop := w' = w ∧ ∃ (u0 u1 u2 u3 u4 u5 u7 u8 u9 u10 u11 u12 u13 u14 u15 u16 u17 u18 u19 u20 u21 u22 u23 u24 u25 u26 u27 u28 u29 u30 u31 u32 u33 u34 u35 u36 u37 u38 u39 u40 u41 u42 : Value), a' = { tmps := #[u0, u1, u2, u3, u4, u5, .int .i64 (rsF l 0 0).2.2, u7, u8, u9, u10, u11, u12, u13, u14, u15, u16, u17, u18, u19, u20, u21, u22, u23, u24, u25, u26, u27, u28, u29, u30, u31, u32, u33, u34, u35, u36, u37, u38, u39, u40, u41, u42], defers := [] } ∧ (rsF l 0 0).1 = 0 ∧ (rsF l 0 0).2.1 = 0
theorem JRs_of {l : List UInt8} {w : World} {E : Int} {u0 u1 u2 u3 u4 u5 u7 u8 u9 u10 u11 u12 u13 u14 u15 u16 u17 u18 u19 u20 u21 u22 u23 u24 u25 u26 u27 u28 u29 u30 u31 u32 u33 u34 u35 u36 u37 u38 u39 u40 u41 u42 : Value} (h : rsF l 0 0 = (0, 0, E)) : JRs l w { tmps := #[u0, u1, u2, u3, u4, u5, .int .i64 E, u7, u8, u9, u10, u11, u12, u13, u14, u15, u16, u17, u18, u19, u20, u21, u22, u23, u24, u25, u26, u27, u28, u29, u30, u31, u32, u33, u34, u35, u36, u37, u38, u39, u40, u41, u42], defers := [] } w := by
  refine ⟨rfl, u0, u1, u2, u3, u4, u5, u7, u8, u9, u10, u11, u12, u13, u14, u15, u16, u17, u18, u19, u20, u21, u22, u23, u24, u25, u26, u27, u28, u29, u30, u31, u32, u33, u34, u35, u36, u37, u38, u39, u40, u41, u42, ?_, by rw [h], by rw [h]⟩
  rw [h]
theorem jump_ret {l : Nat} {J : Act → World → Prop} {Q : Exit → Act → World → Prop} {a : Act} {w : World} : Exit.jump l J Q .ret a w = Q .ret a w := rfl
theorem rsF_cons (x : UInt8) (l : List UInt8) (i v : Nat) : rsF (x :: l) i v = if i = 9 ∧ 1 < x.toNat then (0, 0, 11) else if 128 ≤ x.toNat then rsF l (i + 1) (v + x.toNat % 128 * 128 ^ i) else if x.toNat = 0 ∧ 0 < i then (0, 0, 3) else (v + x.toNat % 128 * 128 ^ i, i + 1, 0) := rfl
theorem pow128 (k : Nat) (hk : k ≤ 9) : 128 ^ k ≤ 9223372036854775808 := by
  have : 128 ^ k ≤ 128 ^ 9 := Nat.pow_le_pow_right (by omega) hk
  exact Nat.le_trans this (by decide)
theorem pow2_128 (k : Nat) : (2 : Nat) ^ (7 * k) = 128 ^ k := by rw [Nat.pow_mul]
theorem short_fit (z k : Nat) (hk : k ≤ 9) (hz : z < 128) (h9 : k = 9 → z ≤ 1) : z * 128 ^ k ≤ 9223372036854775808 := by
  by_cases h : k = 9
  · subst h
    have := h9 rfl
    have : z * 128 ^ 9 ≤ 1 * 128 ^ 9 := Nat.mul_le_mul_right _ this
    exact Nat.le_trans this (by decide)
  · have h1 : z * 128 ^ k ≤ 128 * 128 ^ k := Nat.mul_le_mul_right _ (by omega)
    have h2 : 128 * 128 ^ k = 128 ^ (k + 1) := by rw [Nat.pow_succ, Nat.mul_comm]
    rw [h2] at h1
    exact Nat.le_trans h1 (pow128 (k + 1) (by omega))
theorem or_short (v y k : Nat) (hk : k ≤ 9) (hv : v < 128 ^ k) (h9 : k = 9 → y % 128 ≤ 1) : bits .or .u64 (v : Int) (IntKind.u64.wrap ((y : Int) % 128 * 2 ^ (7 * k))) = ((v + y % 128 * 128 ^ k : Nat) : Int) := by
  have hf := short_fit (y % 128) k hk (by omega) h9
  have hp := pow128 k hk
  have e : (y : Int) % 128 * 2 ^ (7 * k) = ((y % 128 * 128 ^ k : Nat) : Int) := by
    rw [← pow2_128]; push_cast; rfl
  rw [e, IntKind.wrap_u64]
  have e2 : ((y % 128 * 128 ^ k : Nat) : Int) % 18446744073709551616 = ((y % 128 * 128 ^ k : Nat) : Int) := by omega
  rw [e2, bits_or_u64_nat _ _ (by omega) (by omega), Nat.or_comm, nat_join (7 * k) _ _ (by rw [pow2_128]; exact Nat.mul_mod_left _ _) (by rw [pow2_128]; exact hv), Nat.add_comm]

set_option maxRecDepth 100000 in
set_option maxHeartbeats 1000000 in
theorem readShort_some (b off cap : Nat) (l : List UInt8) (h0 : 0 < l.length) (w : World) (hc : ∀ j (h : j < l.length), w.cell? ⟨b, off + j, none⟩ = some (bc l[j])) :
    Calls Tryz.prog 70 #[.slice (some ⟨b, off, none⟩) l.length cap] w fun e w' => e = .returned (.tuple #[.int .u64 (rsF l 0 0).1, .int .i64 (rsF l 0 0).2.1, .int .i64 (rsF l 0 0).2.2]) ∧ Below w.heap.size w w' := by
  go_enter Tryz.func70, Tryz.ntmps70
  go_wp2_with fail
  refine wp_scope_jumps 0 (JRs l w) (fun _ _ => 0) rfl ?_ ?_
  · go_wp2_with fail
    go_loop [5, 6, 11] (fun x e i => ∃ k v : Nat, k ≤ l.length ∧ e = .int .i64 10 ∧ k ≤ 9 ∧ v < 128 ^ k ∧ i = .int .i64 (k : Int) ∧ x = .int .u64 (v : Int) ∧ rsF (l.drop k) k v = rsF l 0 0) (fun _ _ i => l.length - (intOf i).toNat)
    case atStart => exact ⟨0, 0, by omega, rfl, by omega, by decide, rfl, rfl, rfl⟩
    case round =>
      obtain ⟨k, v, hk, rfl, hk9, hv, rfl, rfl, hF⟩ := hrel
      by_cases hlt : k < l.length
      · have hcell := hc k hlt
        have hki : (k : Int) < (l.length : Int) := by omega
        rw [List.drop_eq_getElem_cons hlt, rsF_cons] at hF
        generalize l[k] = x at *
        have hx : x.toNat < 256 := UInt8.toNat_lt x
        unfold bc at hcell
        generalize x.toNat = y at *
        clear hc
        by_cases h9 : k = 9 ∧ 1 < y
        · rw [if_pos h9] at hF
          have HF : Hid _ := hF.symm
          have i1 : ((k : Int) == 9) = true := by simp; omega
          have i2 : 1 < (y : Int) := by omega
          clear hF h9
          go_wp2_with fail
          go_step3
          exact And.intro (a := 0 = 0) rfl (JRs_of HF.out)
        · rw [if_neg h9] at hF
          have HOR : Hid _ := or_short v y k hk9 hv (fun h => by omega)
          by_cases h128 : 128 ≤ y
          · rw [if_pos h128] at hF
            have HF : Hid _ := hF
            have i1 : (128 : Int) ≤ (y : Int) := by omega
            have i3 : ((k : Int) == 9) = false := by simp; omega
            have hk8 : k ≤ 8 := by omega
            have hv2 : v + y % 128 * 128 ^ k < 128 ^ (k + 1) := by
              have h2 : y % 128 * 128 ^ k ≤ 127 * 128 ^ k := Nat.mul_le_mul_right _ (by omega)
              have h3 : 128 ^ (k + 1) = 128 * 128 ^ k := by rw [Nat.pow_succ, Nat.mul_comm]
              generalize 128 ^ k = q at *
              omega
            clear hF h9 h128
            go_wp2_with fail
            rw [HOR.out]
            go_round
            case rel => exact ⟨k + 1, _, by omega, rfl, by omega, hv2, by go_num, rfl, HF.out⟩
            case measure => simp [intOf]; omega
          · rw [if_neg h128] at hF
            have i1 : ¬ (128 : Int) ≤ (y : Int) := by omega
            by_cases h00 : y = 0 ∧ 0 < k
            · rw [if_pos h00] at hF
              have HF : Hid _ := hF.symm
              have i2 : ((y : Int) == 0) = true := by simp; omega
              have i4 : (0 : Int) < (k : Int) := by omega
              clear hF h9 h128 h00
              by_cases i5 : k = 9
              · have i3 : ((k : Int) == 9) = true := by simp; omega
                have i6 : ¬ 1 < (y : Int) := by simp at i2; omega
                clear i5
                go_wp2_with fail
                go_step3
                exact And.intro (a := 0 = 0) rfl (JRs_of HF.out)
              · have i3 : ((k : Int) == 9) = false := by simp; omega
                go_wp2_with fail
                go_step3
                exact And.intro (a := 0 = 0) rfl (JRs_of HF.out)
            · rw [if_neg h00] at hF
              have HF : Hid _ := hF.symm
              have i5 : ((k : Int) == 9) = decide (k = 9) := by by_cases h : k = 9 <;> simp [h] <;> omega
              have i6 : ((y : Int) == 0) = decide (y = 0) := by by_cases h : y = 0 <;> simp [h] <;> omega
              by_cases h9b : k = 9
              · have i3 : ((k : Int) == 9) = true := by rw [i5]; simpa using h9b
                have i7 : ¬ 1 < (y : Int) := by omega
                have i8 : ((y : Int) == 0) = false := by rw [i6]; simp; omega
                clear i5 i6 hF h9 h128 h00 h9b
                go_wp2_with fail
                rw [HOR.out, jump_ret]
                go_ret3
                exact ⟨by rw [HF.out]; rfl, Below.refl _ _⟩
              · have i3 : ((k : Int) == 9) = false := by rw [i5]; simpa using h9b
                by_cases hy0 : y = 0
                · have i8 : ((y : Int) == 0) = true := by rw [i6]; simpa using hy0
                  have i9 : ¬ (0 : Int) < (k : Int) := by omega
                  have HY : Hid (y = 0) := hy0
                  clear i5 i6 hF h9 h128 h00 h9b hy0
                  go_wp2_with fail
                  rw [HOR.out, jump_ret]
                  go_ret3
                  exact ⟨by rw [HF.out]; rfl, Below.refl _ _⟩
                · have i8 : ((y : Int) == 0) = false := by rw [i6]; simpa using hy0
                  clear i5 i6 hF h9 h128 h00 h9b hy0
                  go_wp2_with fail
                  rw [HOR.out, jump_ret]
                  go_ret3
                  exact ⟨by rw [HF.out]; rfl, Below.refl _ _⟩
      · have hke : k = l.length := by omega
        subst hke
        rw [List.drop_length] at hF
        have HF : Hid _ := hF.symm
        clear hc hF
        go_wp2_with fail
        go_step3
        go_wp2_with fail
        rw [jump_ret]
        go_ret3
        exact ⟨by rw [HF.out]; rfl, Below.refl _ _⟩
  · rintro a' w' ⟨rfl, u0, u1, u2, u3, u4, u5, u7, u8, u9, u10, u11, u12, u13, u14, u15, u16, u17, u18, u19, u20, u21, u22, u23, u24, u25, u26, u27, u28, u29, u30, u31, u32, u33, u34, u35, u36, u37, u38, u39, u40, u41, u42, rfl, e1, e2⟩
    have E1 : Hid _ := e1
    have E2 : Hid _ := e2
    clear e1 e2
    go_wp2_with fail
    rw [jump_ret]
    go_ret3
    exact ⟨by rw [E1.out, E2.out]; rfl, Below.refl _ _⟩

set_option maxRecDepth 100000 in
set_option maxHeartbeats 1000000 in
theorem readShort_none (a : Option Addr) (cap : Nat) (w : World) :
    Calls Tryz.prog 70 #[.slice a 0 cap] w fun e w' => e = .returned (.tuple #[.int .u64 0, .int .i64 0, .int .i64 10]) ∧ Below w.heap.size w w' := by
  go_enter Tryz.func70, Tryz.ntmps70
  go_wp2_with fail
  go_step3
  go_wp2_with fail
  go_loop [6, 11] (fun e i => e = .int .i64 10 ∧ i = .int .i64 0) (fun _ _ => 0)
  case atStart => exact ⟨rfl, rfl⟩
  case round =>
    obtain ⟨rfl, rfl⟩ := hrel
    go_wp2_with fail
    go_step3
    go_wp2_with fail
    (try rw [Exit.noGoto_ret])
    go_ret3
    exact ⟨rfl, Below.refl _ _⟩
theorem readShort_any (v : Value) (l : List UInt8) (w : World) (h : Reads w v l) :
    Calls Tryz.prog 70 #[v] w fun e w' => e = .returned (.tuple #[.int .u64 (rsF l 0 0).1, .int .i64 (rsF l 0 0).2.1, .int .i64 (rsF l 0 0).2.2]) ∧ Below w.heap.size w w' := by
  rcases h with ⟨rfl, a, cap, rfl, _⟩ | ⟨b, off, cap, rfl, h2, h3, h4, h5, h6⟩
  · exact readShort_none a cap w
  · exact readShort_some b off cap l h2 w h6
end Go.Proofs.YtilbffgpniomcaaGreatDoor

/- Short numbers: what is written is read, and what is read is written so. -/
namespace Go.Proofs.YtilbffgpniomcaaGreatDoor
open Go.RowKit

theorem u8_of {x : UInt8} {n : Nat} (h : x.toNat = n) : UInt8.ofNat n = x := by rw [← h]; exact UInt8.ofNat_toNat ..
/-- What ReadShort reads, written again, stands there. -/
theorem rsF_ok (l : List UInt8) : ∀ i v V N, rsF l i v = (V, N, 0) → i ≤ 9 → v < 128 ^ i →
    ∃ u c, N = i + c ∧ 1 ≤ c ∧ c ≤ l.length ∧ V = v + 128 ^ i * u ∧ sh u = l.take c ∧ (0 < i → 0 < u) ∧ V < 18446744073709551616 := by
  induction l with
  | nil => intro i v V N h _ _; simp [rsF] at h
  | cons x l ih =>
    intro i v V N h hi hv
    rw [rsF_cons] at h
    have hx : x.toNat < 256 := UInt8.toNat_lt x
    by_cases h9 : i = 9 ∧ 1 < x.toNat
    · rw [if_pos h9] at h; simp at h
    · rw [if_neg h9] at h
      by_cases h128 : 128 ≤ x.toNat
      · rw [if_pos h128] at h
        have hi8 : i ≤ 8 := by omega
        have hp : 128 ^ (i + 1) = 128 * 128 ^ i := by rw [Nat.pow_succ, Nat.mul_comm]
        obtain ⟨u, c, h1, h2, h3, h4, h5, h6, h7⟩ := ih (i + 1) _ V N h (by omega) (by
          have h2 : x.toNat % 128 * 128 ^ i ≤ 127 * 128 ^ i := Nat.mul_le_mul_right _ (by omega)
          generalize 128 ^ i = q at *
          omega)
        have hu := h6 (by omega)
        refine ⟨x.toNat % 128 + 128 * u, c + 1, by omega, by omega, by simp; omega, ?_, ?_, fun _ => by omega, h7⟩
        · rw [h4, hp, Nat.mul_add, Nat.mul_comm (x.toNat % 128)]
          have : 128 ^ i * (128 * u) = 128 * 128 ^ i * u := by rw [← Nat.mul_assoc, Nat.mul_comm (128 ^ i) 128]
          omega
        · rw [sh_hi (by omega), List.take_succ_cons]
          have e1 : (x.toNat % 128 + 128 * u) % 128 + 128 = x.toNat := by omega
          have e2 : (x.toNat % 128 + 128 * u) / 128 = u := by omega
          rw [e1, e2, h5, u8_of rfl]
      · rw [if_neg h128] at h
        by_cases h00 : x.toNat = 0 ∧ 0 < i
        · rw [if_pos h00] at h; simp at h
        · rw [if_neg h00] at h
          simp only [Prod.mk.injEq] at h
          obtain ⟨rfl, rfl, _⟩ := h
          have em : x.toNat % 128 = x.toNat := by omega
          have hf := short_fit x.toNat i hi (by omega) (fun h => by omega)
          have hp := pow128 i hi
          rw [em]
          refine ⟨x.toNat, 1, rfl, by omega, by simp, by rw [Nat.mul_comm], ?_, fun h => by omega, by omega⟩
          rw [sh_lo (by omega), u8_of rfl]; rfl
theorem rsF_bad (l : List UInt8) : ∀ i v, (rsF l i v).2.2 ≠ 0 → (rsF l i v).1 = 0 ∧ (rsF l i v).2.1 = 0 := by
  induction l with
  | nil => intro i v _; exact ⟨rfl, rfl⟩
  | cons x l ih =>
    intro i v h
    rw [rsF_cons] at h ⊢
    split
    · exact ⟨rfl, rfl⟩
    · rename_i h1
      rw [if_neg h1] at h
      split
      · rename_i h2
        rw [if_pos h2] at h
        exact ih _ _ h
      · rename_i h2
        rw [if_neg h2] at h
        split
        · exact ⟨rfl, rfl⟩
        · rename_i h3
          rw [if_neg h3] at h
          exact absurd rfl h
theorem rsF_sh (u : Nat) : ∀ (m : List UInt8) i v, v < 128 ^ i → v + 128 ^ i * u < 18446744073709551616 → (0 < i → 0 < u) → rsF (sh u ++ m) i v = (v + 128 ^ i * u, i + (sh u).length, 0) := by
  induction u using Nat.strongRecOn with
  | _ u ih =>
    intro m i v hv hlt hpos
    have f : ∀ k : Nat, k < 256 → (UInt8.ofNat k).toNat = k := fun k hk => by simp [UInt8.toNat_ofNat']; omega
    by_cases h : u < 128
    · rw [sh_lo h]
      show rsF (UInt8.ofNat u :: m) i v = _
      rw [rsF_cons, f u (by omega)]
      have h9 : ¬ (i = 9 ∧ 1 < u) := by
        rintro ⟨rfl, h1⟩
        have h2 : 128 ^ 9 * 2 ≤ 128 ^ 9 * u := Nat.mul_le_mul_left _ h1
        have e : (128 : Nat) ^ 9 * 2 = 18446744073709551616 := by decide
        omega
      rw [if_neg h9, if_neg (by omega), if_neg (by omega), Nat.mod_eq_of_lt h, Nat.mul_comm u]
      rfl
    · rw [sh_hi h]
      show rsF (UInt8.ofNat (u % 128 + 128) :: (sh (u / 128) ++ m)) i v = _
      rw [rsF_cons, f _ (by omega)]
      have hp : 128 ^ (i + 1) = 128 * 128 ^ i := by rw [Nat.pow_succ, Nat.mul_comm]
      have h9 : ¬ (i = 9 ∧ 1 < u % 128 + 128) := by
        rintro ⟨rfl, _⟩
        have h2 : 128 ^ 9 * 128 ≤ 128 ^ 9 * u := Nat.mul_le_mul_left _ (by omega)
        have e : (128 : Nat) ^ 9 * 2 = 18446744073709551616 := by decide
        omega
      have em : (u % 128 + 128) % 128 = u % 128 := by omega
      rw [if_neg h9, if_pos (by omega), em]
      have hsum : v + u % 128 * 128 ^ i + 128 ^ (i + 1) * (u / 128) = v + 128 ^ i * u := by
        have e1 : u = u % 128 + 128 * (u / 128) := by omega
        have e2 : 128 ^ i * u = 128 ^ i * (u % 128) + 128 ^ i * (128 * (u / 128)) := by rw [← Nat.mul_add, ← e1]
        have e3 : 128 ^ (i + 1) * (u / 128) = 128 ^ i * (128 * (u / 128)) := by rw [Nat.pow_succ, Nat.mul_assoc]
        rw [e2, e3, Nat.mul_comm (u % 128)]; omega
      have h1 : u % 128 * 128 ^ i ≤ 127 * 128 ^ i := Nat.mul_le_mul_right _ (by omega)
      rw [ih (u / 128) (by omega) m (i + 1) (v + u % 128 * 128 ^ i) (by rw [hp]; generalize 128 ^ i = q at *; omega) (by rw [hsum]; exact hlt) (fun _ => by omega), hsum]
      simp; omega
end Go.Proofs.YtilbffgpniomcaaGreatDoor

/- manifest: edits and their bytes, plainly. -/
namespace Go.Proofs.YtilbffgpniomcaaGreatDoor
open Go.RowKit

/-- A run; an edit. -/
structure Ru where
  f : Int
  l : Int
  c : Int
structure Ed where
  dr : List Int
  ad : List Ru
  lo : Int
  ne : Int
  ma : Int
def Ru.n (r : Ru) : List Int := [r.f, r.l, r.c]
/-- An edit's numbers, in their order. -/
def nmE (x : Ed) : List Int := (x.dr.length : Int) :: (x.dr ++ ((x.ad.length : Int) :: (x.ad.flatMap Ru.n ++ [x.lo, x.ne, x.ma])))
def shB (l : List Int) : List UInt8 := l.flatMap fun v => sh v.toNat
def okN (l : List Int) : Bool := l.all fun v => decide (0 ≤ v)
/-- What Write tells. -/
def edW (x : Ed) : Option (List UInt8) := if 64 < x.dr.length ∨ 64 < x.ad.length then none else if okN (nmE x) = true then some (shB (nmE x)) else none
/-- The next number, if there is one and it is not too great, and what is left. -/
def nxN (most : Nat) (b : List UInt8) : Option (Int × List UInt8) := if (rsF b 0 0).2.2 ≠ 0 ∨ most < (rsF b 0 0).1 then none else some ((rsF b 0 0).1, b.drop (rsF b 0 0).2.1)
def big : Nat := 9223372036854775807
def nxs : Nat → List UInt8 → Option (List Int × List UInt8)
  | 0, b => some ([], b)
  | k + 1, b => match nxN big b with
    | none => none
    | some (v, r) => match nxs k r with
      | none => none
      | some (l, r') => some (v :: l, r')
/-- Numbers in threes. -/
def ruN : List Int → List Ru
  | a :: b :: c :: l => ⟨a, b, c⟩ :: ruN l
  | _ => []
/-- What Read tells. -/
def edR (b : List UInt8) : Option Ed := match nxN 64 b with
  | none => none
  | some (n, b1) => match nxs n.toNat b1 with
    | none => none
    | some (ds, b2) => match nxN 64 b2 with
      | none => none
      | some (m, b3) => match nxs (3 * m.toNat) b3 with
        | none => none
        | some (rs, b4) => match nxs 3 b4 with
          | none => none
          | some (t, b5) => if b5 = [] then some ⟨ds, ruN rs, t.getD 0 0, t.getD 1 0, t.getD 2 0⟩ else none
theorem nx_sh {most v : Nat} (h : v ≤ most) (h2 : v < 18446744073709551616) (r : List UInt8) : nxN most (sh v ++ r) = some ((v : Int), r) := by
  have e := rsF_sh v r 0 0 (by simp) (by simp; omega) (fun h => by omega)
  have e' : rsF (sh v ++ r) 0 0 = (v, (sh v).length, 0) := by simpa using e
  unfold nxN
  rw [e', if_neg (by simp; omega)]
  simp
theorem nx_inv {most : Nat} {b r : List UInt8} {v : Int} (h : nxN most b = some (v, r)) : 0 ≤ v ∧ v.toNat ≤ most ∧ b = sh v.toNat ++ r := by
  unfold nxN at h
  by_cases c : (rsF b 0 0).2.2 ≠ 0 ∨ most < (rsF b 0 0).1
  · rw [if_pos c] at h; cases h
  · rw [if_neg c] at h
    simp only [Option.some.injEq, Prod.mk.injEq] at h
    obtain ⟨rfl, rfl⟩ := h
    have h0 : (rsF b 0 0).2.2 = 0 := Classical.byContradiction fun e => c (.inl e)
    obtain ⟨u, k, g1, g2, g3, g4, g5, _, _⟩ := rsF_ok b 0 0 (rsF b 0 0).1 (rsF b 0 0).2.1 (by rw [← h0]) (by omega) (by simp)
    have e1 : (rsF b 0 0).2.1 = k := by omega
    have e2 : (rsF b 0 0).1 = u := by rw [g4]; simp
    have e3 : ¬ most < (rsF b 0 0).1 := fun e => c (.inr e)
    refine ⟨by omega, by simp only [Int.toNat_natCast]; omega, ?_⟩
    simp only [Int.toNat_natCast]
    rw [e1, e2, g5, List.take_append_drop]
theorem nx_len {most : Nat} {b r : List UInt8} {v : Int} (h : nxN most b = some (v, r)) : r.length < b.length := by
  obtain ⟨_, _, rfl⟩ := nx_inv h
  have : 0 < (sh v.toNat).length := by rw [sh]; split <;> simp
  rw [List.length_append]; omega
theorem shB_cons (v : Int) (l : List Int) : shB (v :: l) = sh v.toNat ++ shB l := by unfold shB; rw [List.flatMap_cons]
theorem shB_app (a b : List Int) : shB (a ++ b) = shB a ++ shB b := by unfold shB; rw [List.flatMap_append]
theorem nxs_sh : ∀ (l : List Int) (r : List UInt8), (∀ v ∈ l, 0 ≤ v ∧ v ≤ 9223372036854775807) → nxs l.length (shB l ++ r) = some (l, r)
  | [], r, _ => rfl
  | v :: l, r, h => by
    obtain ⟨h1, h2⟩ := h v (List.mem_cons_self ..)
    have hv : nxN big (sh v.toNat ++ (shB l ++ r)) = some (v, shB l ++ r) := by
      rw [nx_sh (by unfold big; omega) (by omega)]
      rw [Int.toNat_of_nonneg h1]
    rw [shB_cons, List.append_assoc, List.length_cons, nxs, hv]
    simp only
    rw [nxs_sh l r fun x hx => h x (List.mem_cons_of_mem _ hx)]
theorem nxs_inv : ∀ (k : Nat) {b r : List UInt8} {l : List Int}, nxs k b = some (l, r) → l.length = k ∧ (∀ v ∈ l, 0 ≤ v ∧ v ≤ 9223372036854775807) ∧ b = shB l ++ r
  | 0, b, r, l, h => by
    simp only [nxs, Option.some.injEq, Prod.mk.injEq] at h
    obtain ⟨rfl, rfl⟩ := h
    exact ⟨rfl, (fun v hv => by cases hv), rfl⟩
  | k + 1, b, r, l, h => by
    rw [nxs] at h
    cases hc : nxN big b with
    | none => rw [hc] at h; cases h
    | some q =>
      obtain ⟨v, r1⟩ := q
      rw [hc] at h
      simp only at h
      cases hd : nxs k r1 with
      | none => rw [hd] at h; cases h
      | some q =>
        obtain ⟨l1, r2⟩ := q
        rw [hd] at h
        simp only [Option.some.injEq, Prod.mk.injEq] at h
        obtain ⟨rfl, rfl⟩ := h
        obtain ⟨a1, a2, a3⟩ := nx_inv hc
        obtain ⟨b1, b2, b3⟩ := nxs_inv k hd
        unfold big at a2
        refine ⟨by rw [List.length_cons, b1], fun x hx => ?_, by rw [a3, b3, shB_cons, List.append_assoc]⟩
        rcases List.mem_cons.1 hx with rfl | hx
        · exact ⟨a1, by omega⟩
        · exact b2 x hx
theorem ruN_flat : ∀ l : List Ru, ruN (l.flatMap Ru.n) = l
  | [] => rfl
  | a :: l => by
    have : (a :: l).flatMap Ru.n = a.f :: a.l :: a.c :: l.flatMap Ru.n := rfl
    rw [this, ruN, ruN_flat l]
theorem flat_ruN : ∀ (k : Nat) (l : List Int), l.length = 3 * k → (ruN l).flatMap Ru.n = l ∧ (ruN l).length = k
  | 0, l, h => by
    have : l = [] := List.length_eq_zero_iff.1 (by omega)
    subst this; exact ⟨rfl, rfl⟩
  | k + 1, [], h => by simp at h
  | k + 1, [_], h => by simp at h; omega
  | k + 1, [_, _], h => by simp at h; omega
  | k + 1, a :: b :: c :: l, h => by
    obtain ⟨h1, h2⟩ := flat_ruN k l (by simp at h; omega)
    rw [ruN, List.flatMap_cons, h1, List.length_cons, h2]
    exact ⟨rfl, rfl⟩
theorem ru_len (l : List Ru) : (l.flatMap Ru.n).length = 3 * l.length := by
  induction l with
  | nil => rfl
  | cons a l ih => rw [List.flatMap_cons, List.length_append, ih, List.length_cons]; show 3 + _ = _; omega
/-- Every number is one of 64 digits. -/
def EdB (x : Ed) : Prop := ∀ v ∈ nmE x, v ≤ 9223372036854775807
theorem edR_wr {x : Ed} {b : List UInt8} (h : edW x = some b) (hb : EdB x) : edR b = some x := by
  unfold edW at h
  by_cases h1 : 64 < x.dr.length ∨ 64 < x.ad.length
  · rw [if_pos h1] at h; cases h
  · rw [if_neg h1] at h
    by_cases h2 : okN (nmE x) = true
    · rw [if_pos h2] at h
      simp only [Option.some.injEq] at h
      subst h
      have hall : ∀ v ∈ nmE x, 0 ≤ v ∧ v ≤ 9223372036854775807 := fun v hv => ⟨by have := List.all_eq_true.1 h2 v hv; simpa using this, hb v hv⟩
      obtain ⟨dr, ad, lo, ne, ma⟩ := x
      simp only at h1
      unfold nmE at hall ⊢
      simp only at hall ⊢
      have m1 : ∀ v ∈ dr, 0 ≤ v ∧ v ≤ 9223372036854775807 := fun v hv => hall v (by simp [hv])
      have m2 : ∀ v ∈ ad.flatMap Ru.n, 0 ≤ v ∧ v ≤ 9223372036854775807 := fun v hv => hall v (by
        rw [List.mem_cons, List.mem_append, List.mem_cons, List.mem_append]
        exact .inr (.inr (.inr (.inl hv))))
      have m3 : ∀ v ∈ [lo, ne, ma], 0 ≤ v ∧ v ≤ 9223372036854775807 := fun v hv => hall v (by
        rw [List.mem_cons, List.mem_append, List.mem_cons, List.mem_append]
        exact .inr (.inr (.inr (.inr hv))))
      unfold edR
      rw [shB_cons, shB_app, shB_cons, shB_app, Int.toNat_natCast, nx_sh (by omega) (by omega)]
      simp only [Int.toNat_natCast]
      rw [nxs_sh dr _ m1]
      simp only
      rw [nx_sh (by omega) (by omega)]
      simp only [Int.toNat_natCast]
      rw [← ru_len, nxs_sh _ _ m2]
      simp only
      have e3 := nxs_sh [lo, ne, ma] [] m3
      rw [List.append_nil] at e3
      have e3' : nxs 3 (shB [lo, ne, ma]) = some ([lo, ne, ma], []) := e3
      rw [e3']
      simp [ruN_flat]
    · rw [if_neg h2] at h; cases h
theorem three_of {α : Type} : ∀ {l : List α}, l.length = 3 → ∃ a b c, l = [a, b, c]
  | [a, b, c], _ => ⟨a, b, c, rfl⟩
theorem edW_rd {b : List UInt8} {x : Ed} (h : edR b = some x) : edW x = some b := by
  unfold edR at h
  cases h1 : nxN 64 b with
  | none => rw [h1] at h; cases h
  | some q =>
    obtain ⟨n, b1⟩ := q
    rw [h1] at h; simp only at h
    cases h2 : nxs n.toNat b1 with
    | none => rw [h2] at h; cases h
    | some q =>
      obtain ⟨ds, b2⟩ := q
      rw [h2] at h; simp only at h
      cases h3 : nxN 64 b2 with
      | none => rw [h3] at h; cases h
      | some q =>
        obtain ⟨m, b3⟩ := q
        rw [h3] at h; simp only at h
        cases h4 : nxs (3 * m.toNat) b3 with
        | none => rw [h4] at h; cases h
        | some q =>
          obtain ⟨rs, b4⟩ := q
          rw [h4] at h; simp only at h
          cases h5 : nxs 3 b4 with
          | none => rw [h5] at h; cases h
          | some q =>
            obtain ⟨t, b5⟩ := q
            rw [h5] at h; simp only at h
            by_cases h6 : b5 = []
            · rw [if_pos h6] at h
              simp only [Option.some.injEq] at h
              subst h6 h
              obtain ⟨a1, a2, a3⟩ := nx_inv h1
              obtain ⟨c1, c2, c3⟩ := nxs_inv _ h2
              obtain ⟨d1, d2, d3⟩ := nx_inv h3
              obtain ⟨e1, e2, e3⟩ := nxs_inv _ h4
              obtain ⟨f1, f2, f3⟩ := nxs_inv _ h5
              obtain ⟨lo, ne, ma, rfl⟩ := three_of f1
              obtain ⟨g1, g2⟩ := flat_ruN m.toNat rs e1
              have k1 : ((ds.length : Nat) : Int) = n := by rw [c1]; omega
              have k2 : (((ruN rs).length : Nat) : Int) = m := by rw [g2]; omega
              have en : nmE ⟨ds, ruN rs, [lo, ne, ma].getD 0 0, [lo, ne, ma].getD 1 0, [lo, ne, ma].getD 2 0⟩ = n :: (ds ++ (m :: (rs ++ [lo, ne, ma]))) := by
                unfold nmE
                simp only [g1, k1, k2]
                rfl
              unfold edW
              rw [if_neg (by simp only; omega), en, if_pos]
              · rw [shB_cons, shB_app, shB_cons, shB_app, a3, c3, d3, e3, f3, List.append_nil]
              · unfold okN
                rw [List.all_eq_true]
                intro v hv
                rw [List.mem_cons, List.mem_append, List.mem_cons, List.mem_append] at hv
                rcases hv with rfl | hv | rfl | hv | hv
                · simpa using a1
                · simpa using (c2 v hv).1
                · simpa using d1
                · simpa using (e2 v hv).1
                · simpa using (f2 v hv).1
            · rw [if_neg h6] at h; cases h
end Go.Proofs.YtilbffgpniomcaaGreatDoor
