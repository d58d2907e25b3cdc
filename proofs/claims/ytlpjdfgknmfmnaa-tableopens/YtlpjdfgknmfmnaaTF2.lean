/- C0 W10 W11 A3, joined. -/
import Derived.Test.YtlpjdfgknmfmnaaTF1
import Derived.Test.YtlpjdfgknmfmnaaRows
import Derived.WalkKit
import Derived.WalkSpells
import Derived.WalkLawsBesides
import Derived.WalkMore
import Derived.Below
import Derived.Laws.AppendOwn
import Derived.Laws.IdiomStrings
import Derived.Laws.BytesString
import Derived.Laws.Strings
import Derived.Deep.RegionHeld3
import Derived.Laws.AppendOwnNone
/- Bytes that a slice reads, whoever made it. -/
namespace Go.Proofs.Ytlpjdfgknmfmnaa
open Go.RowKit

/-- A byte's cell. -/
def bc (x : UInt8) : Value := .int .u8 (x.toNat : Int)
/-- A slice value reads these bytes. -/
def Reads (w : World) (v : Value) (l : List UInt8) : Prop :=
  (l = [] ∧ ∃ a cap, v = .slice a 0 cap ∧ (a = none → cap = 0)) ∨
  ∃ b off cap, v = .slice (some ⟨b, off, none⟩) l.length cap ∧ 0 < l.length ∧ l.length ≤ cap ∧ cap ≤ maxLen ∧ b < w.heap.size ∧ ∀ j (h : j < l.length), w.cell? ⟨b, off + j, none⟩ = some (bc l[j])
theorem Reads.below {w w' : World} {v : Value} {l : List UInt8} (h : Reads w v l) (hb : Below w.heap.size w w') : Reads w' v l := by
  rcases h with h | ⟨b, off, cap, h1, h2, h3, h4, h5, h6⟩
  · exact .inl h
  · have := hb.size
    exact .inr ⟨b, off, cap, h1, h2, h3, h4, by omega, fun j hj => (hb.cell (p := ⟨b, off + j, none⟩) h5).trans (h6 j hj)⟩
theorem Reads.drew {w : World} {v : Value} {l : List UInt8} (h : Reads w v l) : Reads w.drew v l := h
theorem Reads.alloc {w : World} {v : Value} {l : List UInt8} (h : Reads w v l) (o : Obj) : Reads (w.alloc o) v l := h.below ((Below.refl _ _).alloc (Nat.le_refl _) _)
/-- What it is, as a slice. -/
theorem Reads.form {w : World} {v : Value} {l : List UInt8} (h : Reads w v l) : ∃ a cap, v = .slice a l.length cap ∧ l.length ≤ maxLen := by
  rcases h with ⟨rfl, a, cap, h, _⟩ | ⟨b, off, cap, h1, h2, h3, h4, h5, h6⟩
  · exact ⟨a, cap, h, by simp⟩
  · exact ⟨_, cap, h1, by omega⟩
theorem reads_own {w : World} {base : Nat} {e : TypeId} {v : Value} {n : Nat} {l : List UInt8} (h : w.ownsRow base e 1 v n (l.map bc)) : Reads w v l := by
  obtain ⟨h1, h2⟩ := h
  simp at h1
  rcases h2 with ⟨rfl, h0⟩ | ⟨g, cap, cur, rfl, hg, hw, hn, hm, hs, ht⟩
  · left
    refine ⟨List.length_eq_zero_iff.1 (by omega), none, 0, rfl, fun _ => rfl⟩
  · rcases Nat.eq_zero_or_pos n with h0 | h0
    · left; exact ⟨List.length_eq_zero_iff.1 (by omega), _, cap, by rw [h0], fun h => by cases h⟩
    · right
      have hown : w.ownsRow base e 1 (.slice (some ⟨g, 0, none⟩) n cap) n (l.map bc) := ⟨by simp; exact h1, .inr ⟨g, cap, cur, rfl, hg, hw, hn, hm, hs, ht⟩⟩
      refine ⟨g, 0, cap, by rw [h1], by omega, by omega, hm, (hown.lt g rfl).2, fun j hj => ?_⟩
      have := hown.cells (g := g) rfl j (bc l[j]) (by simp [hj])
      have ea : (⟨g, 0, none⟩ : Addr).add j = ⟨g, 0 + j, none⟩ := by simp [Addr.add]; omega
      rw [ea] at this
      exact this
theorem own_block {w : World} {base : Nat} {e : TypeId} {size : Nat} {v : Value} {n : Nat} {xs : List Value} (h : w.ownsRow base e size v n xs) : ∀ k, v.ownBlock = some k → base ≤ k := fun k hk => (h.lt k hk).1
theorem own_mono {w : World} {base base' : Nat} {e : TypeId} {size : Nat} {v : Value} {n : Nat} {xs : List Value} (h : w.ownsRow base e size v n xs) (hb : base' ≤ base) : w.ownsRow base' e size v n xs := by
  obtain ⟨h1, h2⟩ := h
  refine ⟨h1, ?_⟩
  rcases h2 with h2 | ⟨g, cap, cur, hv, hg, r⟩
  · exact .inl h2
  · exact .inr ⟨g, cap, cur, hv, by omega, r⟩
/-- Its text. -/
theorem reads_text {w : World} {v : Value} {l : List UInt8} (h : Reads w v l) : (convert 25 9 v).run Try.prog w = .ok (.string ⟨l.toArray⟩) w := by
  rcases h with ⟨rfl, a, cap, rfl, _⟩ | ⟨b, off, cap, rfl, h2, h3, h4, h5, h6⟩
  · rw [run_convert_bytes_string w 25 9 5 a 0 cap Try.underlying25 Try.underlying5 Try.underlying9]
    cases a <;> simp [Conv.bytesToString, loadCells]
    all_goals rfl
  · exact run_convert_bytes_back (P := Try.prog) w 25 9 5 ⟨b, off, none⟩ cap l Try.underlying25 Try.underlying5 Try.underlying9 (by
      intro j hj
      have ea : (⟨b, off, none⟩ : Addr).add j = ⟨b, off + j, none⟩ := by simp [Addr.add]
      rw [ea]
      exact h6 j hj)
theorem info5 : (Try.prog.info? 5).map (fun i => (i.zero, i.size, i.bytes)) = some (some (.int .u8 0), 1, 1) := by kernel_rfl
theorem news1 {w : World} {x : Value} {t : TypeId} : ∀ j u, [x][j]? = some u → (w.alloc (.cells #[x] t)).cell? ((⟨w.heap.size, 0, none⟩ : Addr).add j) = some u := by
  intro j u hj
  match j, hj with
  | 0, hj => simp at hj; subst hj; simp [Addr.add]
theorem news2 {w : World} {x y : Value} {t : TypeId} : ∀ j u, [x, y][j]? = some u → (w.alloc (.cells #[x, y] t)).cell? ((⟨w.heap.size, 0, none⟩ : Addr).add j) = some u := by
  intro j u hj
  match j, hj with
  | 0, hj => simp at hj; subst hj; simp [Addr.add]
  | 1, hj => simp at hj; subst hj; simp [Addr.add]
theorem one1 {k : IntKind} {x : Int} : ∀ u ∈ [Value.int k x], u.oneCell' = true := by intro u hu; simp at hu; subst hu; rfl
theorem len_ok {n m : Nat} (h : n + m ≤ 100000) : n + m ≤ maxLen ∧ (n + m) * 1 ≤ 140737488355328 := by unfold maxLen; omega
theorem al_ok {w w1 : World} {o : Obj} (h : w.heap.size ≤ w1.heap.size) : w.heap.size ≤ (w1.alloc o).heap.size := by simp; omega
theorem reads_take {w : World} {b off cap : Nat} {l : List UInt8} (c : Nat) (hc : c ≤ l.length) (hcap : l.length ≤ cap) (hm : cap ≤ maxLen) (hb : b < w.heap.size) (h : ∀ j (h : j < l.length), w.cell? ⟨b, off + j, none⟩ = some (bc l[j])) : Reads w (.slice (some ⟨b, off, none⟩) c cap) (l.take c) := by
  rcases Nat.eq_zero_or_pos c with h0 | h0
  · subst h0; exact .inl ⟨rfl, _, _, rfl, fun h => by cases h⟩
  · have hl : (l.take c).length = c := by simp; omega
    refine .inr ⟨b, off, cap, by rw [hl], by omega, by omega, hm, hb, fun j hj => ?_⟩
    rw [h j (by omega)]
    simp
theorem newsR {w : World} {b off : Nat} {l : List UInt8} (h : ∀ j (h : j < l.length), w.cell? ⟨b, off + j, none⟩ = some (bc l[j])) : ∀ j u, (l.map bc)[j]? = some u → w.cell? ((⟨b, off, none⟩ : Addr).add j) = some u := by
  intro j u hj
  rw [List.getElem?_map] at hj
  rcases Nat.lt_or_ge j l.length with hlt | hge
  · rw [List.getElem?_eq_getElem hlt] at hj
    simp at hj
    subst hj
    have ea : (⟨b, off, none⟩ : Addr).add j = ⟨b, off + j, none⟩ := by simp [Addr.add]
    rw [ea]; exact h j hlt
  · rw [List.getElem?_eq_none hge] at hj; simp at hj
theorem one_bc {l : List UInt8} : ∀ u ∈ l.map bc, u.oneCell' = true := by
  intro u hu
  obtain ⟨x, _, rfl⟩ := List.mem_map.1 hu
  rfl
/-- Bytes of one's own: their slice's array was made since base. -/
def Own (w : World) (base : Nat) (v : Value) (l : List UInt8) : Prop := w.ownsRow base 5 1 v l.length (l.map bc)
theorem Own.nil (w : World) (base : Nat) : Own w base (.slice none 0 0) [] := World.ownsRow_nil _ _ _ _
theorem Own.reads {w : World} {base : Nat} {v : Value} {l : List UInt8} (h : Own w base v l) : Reads w v l := reads_own h
theorem Own.mono {w : World} {base base' : Nat} {v : Value} {l : List UInt8} (h : Own w base v l) (hb : base' ≤ base) : Own w base' v l := own_mono h hb
theorem Own.below {w w' : World} {base : Nat} {v : Value} {l : List UInt8} (h : Own w base v l) (hb : Below w.heap.size w w') : Own w' base v l := by
  have hlt := World.ownsRow.lt h
  obtain ⟨h1, h2⟩ := h
  refine ⟨h1, ?_⟩
  rcases h2 with h2 | ⟨g, cap, cur, hv, hg, hw, r⟩
  · exact .inl h2
  · exact .inr ⟨g, cap, cur, hv, hg, (hb.block g (hlt g (by rw [hv]; rfl)).2).trans hw, r⟩
theorem Own.alloc {w : World} {base : Nat} {v : Value} {l : List UInt8} (h : Own w base v l) (o : Obj) : Own (w.alloc o) base v l := World.ownsRow.alloc h o
theorem Own.form {w : World} {base : Nat} {v : Value} {l : List UInt8} (h : Own w base v l) : ∃ a cap, v = .slice a l.length cap ∧ l.length ≤ maxLen := h.reads.form
/-- Bytes, whatever their slice is, behind bytes of one's own. -/
theorem wpList_app {w : World} {ops : Array Oper} {rest : List Oper} {o : Oper} {a : Act} {Q : Exit → Act → World → Prop} (hgd : o.guard = none) (s x : Operand)
    (ho : o.op = .call { callee := .builtin .append, args := #[s, x], argTypes := #[25, 25] })
    (base : Nat) (v vx : Value) (L l M : List UInt8) (hM : M = L ++ l) (hs : a.eval s = v) (hx : a.eval x = vx) (hown : Own w base v L) (hr : Reads w vx l)
    (hlen : L.length + l.length ≤ 140737488355328) (hbase : base ≤ w.heap.size)
    (h : ∀ v' w', Own w' base v' M → Hid (Below base w w') → wpList Try.prog ops Q rest (a.put o.dst v') w') : wpList Try.prog ops Q (o :: rest) a w := by
  subst hM
  obtain ⟨i0, hi, hz0, hz1, hz2⟩ := info_parts info5
  rcases hr with ⟨rfl, ad, cap, rfl, hn⟩ | ⟨b, off, cap, rfl, h2, h3, h4, h5, h6⟩
  · cases ad with
    | none =>
      obtain rfl := hn rfl
      refine wpList_append_own_none hgd s x 25 ho base 5 i0 1 Try.underlying25 hi v L.length (L.map bc) hs hown hx ?_
      exact h v w (by rw [List.append_nil]; exact hown) (Below.refl _ _)
    | some ad =>
      refine wpList_append_own w hgd s x 25 ho base 5 i0 (.int .u8 0) 1 1 Try.underlying25 hi hz0 hz1 hz2 rfl (by decide) v L.length (L.map bc) hs hown ad 0 cap [] hx (by simp) (by intro j u hj; simp at hj) (by intro u hu; simp at hu) (by simp [maxLen] at *; omega) (by simp at *; omega) hbase ?_
      intro v' w' hown' hgrow _
      refine h v' w' ?_ ((Below.refl _ _).grown hgrow hbase (own_block hown))
      unfold Own; simpa using hown'
  · refine wpList_append_own w hgd s x 25 ho base 5 i0 (.int .u8 0) 1 1 Try.underlying25 hi hz0 hz1 hz2 rfl (by decide) v L.length (L.map bc) hs hown ⟨b, off, none⟩ l.length cap (l.map bc) hx (by simp) (newsR h6) one_bc (by simp [maxLen] at *; omega) (by simp at *; omega) hbase ?_
    intro v' w' hown' hgrow _
    refine h v' w' ?_ ((Below.refl _ _).grown hgrow hbase (own_block hown))
    unfold Own; rw [List.length_append, List.map_append]; exact hown'
/-- One byte, just laid, behind bytes of one's own. -/
theorem wpList_app1 {w0 : World} {ops : Array Oper} {rest : List Oper} {o : Oper} {a : Act} {Q : Exit → Act → World → Prop} {u : Value} {t : TypeId} (hgd : o.guard = none) (s x : Operand)
    (ho : o.op = .call { callee := .builtin .append, args := #[s, x], argTypes := #[25, 25] })
    (base : Nat) (v : Value) (L : List UInt8) (y : UInt8) (M : List UInt8) (hM : M = L ++ [y]) (hu : u = bc y) (hs : a.eval s = v) (hx : a.eval x = .slice (some ⟨w0.heap.size, 0, none⟩) 1 1) (hown : Own w0 base v L)
    (hlen : L.length + 1 ≤ 140737488355328) (hbase : base ≤ w0.heap.size)
    (h : ∀ v' w', Own w' base v' M → Hid (Below base w0 w') → wpList Try.prog ops Q rest (a.put o.dst v') w') : wpList Try.prog ops Q (o :: rest) a (w0.alloc (.cells #[u] t)) := by
  subst hu
  refine wpList_app hgd s x ho base v _ L [y] M hM hs hx (hown.alloc _) (.inr ⟨w0.heap.size, 0, 1, rfl, by simp, by simp, by simp [maxLen], by simp, fun j hj => ?_⟩) (by simpa using hlen) (by simp; omega) ?_
  · have : j = 0 := by simpa using hj
    subst this; simp
  · intro v' w' h1 h2
    exact h v' w' h1 (((Below.refl _ _).alloc hbase _).trans h2.out)
theorem Own.at {w : World} {base g cap n : Nat} {l : List UInt8} (h : Own w base (.slice (some ⟨g, 0, none⟩) n cap) l) (j : Nat) (hj : j < l.length) : w.cell? ⟨g, j, none⟩ = some (bc l[j]) ∧ w.frozen? ⟨g, j, none⟩ = false := by
  have hn : n = l.length := by
    obtain ⟨a, c, hv, _⟩ := h.form
    simp at hv; exact hv.2.1
  subst hn
  refine ⟨?_, World.ownsRow.frozenAt h j⟩
  rw [World.ownsRow.cellAt h j (by simpa using hj)]
  simp [hj]
theorem Own.stored {w : World} {base g cap n : Nat} {l : List UInt8} (h : Own w base (.slice (some ⟨g, 0, none⟩) n cap) l) (j : Nat) (y : UInt8) : Own (w.setCell ⟨g, j, none⟩ (bc y)) base (.slice (some ⟨g, 0, none⟩) n cap) (l.set j y) ∧ Below base w (w.setCell ⟨g, j, none⟩ (bc y)) := by
  have hn : n = l.length := by
    obtain ⟨a, c, hv, _⟩ := h.form
    simp at hv; exact hv.2.1
  subst hn
  have hb := own_block h g rfl
  refine ⟨?_, (Below.refl _ _).setCell hb _⟩
  have := (World.ownsRow.stored h j (bc y)).1
  unfold Own
  rw [List.length_set, List.map_set]
  exact this
theorem Own.some {w : World} {base : Nat} {v : Value} {l : List UInt8} (h : Own w base v l) (h0 : 0 < l.length) : ∃ g cap, v = .slice (some ⟨g, 0, none⟩) l.length cap ∧ base ≤ g ∧ g < w.heap.size ∧ l.length ≤ cap ∧ cap ≤ maxLen := by
  have hlt := World.ownsRow.lt h
  rcases h.2 with ⟨_, h1⟩ | ⟨g, cap, cur, hv, hg, hw, hc, hm, _⟩
  · omega
  · exact ⟨g, cap, hv, hg, (hlt g (by rw [hv]; rfl)).2, hc, hm⟩
theorem Reads.at {w : World} {a : Option Addr} {n cap : Nat} {l : List UInt8} (h : Reads w (.slice a n cap) l) (j : Nat) (hj : j < l.length) : ∃ b off, a = some ⟨b, off, none⟩ ∧ b < w.heap.size ∧ w.cell? ⟨b, off + j, none⟩ = some (bc l[j]) := by
  rcases h with ⟨rfl, _⟩ | ⟨b, off, cap', hv, h2, h3, h4, h5, h6⟩
  · simp at hj
  · simp at hv
    exact ⟨b, off, hv.1, h5, h6 j hj⟩
/-- The same, as the run's equation. -/
theorem run_app {w : World} (ty : TypeId) (base : Nat) (v vx : Value) (L l M : List UInt8) (hM : M = L ++ l) (hown : Own w base v L) (hr : Reads w vx l) (hlen : L.length + l.length ≤ 140737488355328) (hbase : base ≤ w.heap.size) :
    ∃ v' w', (Builtin.append_ #[25, 25] ty #[v, vx]).run Try.prog w = .ok v' w' ∧ Own w' base v' M ∧ Hid (Below base w w') := by
  subst hM
  obtain ⟨i0, hi, hz0, hz1, hz2⟩ := info_parts info5
  rcases hr with ⟨rfl, ad, cap, rfl, hn⟩ | ⟨b, off, cap, rfl, h2, h3, h4, h5, h6⟩
  · cases ad with
    | none =>
      obtain rfl := hn rfl
      exact ⟨v, w, run_append_owned_none (P := Try.prog) w base 25 ty 5 i0 1 Try.underlying25 hi v L.length (L.map bc) hown, by rw [List.append_nil]; exact hown, Below.refl _ _⟩
    | some ad =>
      obtain ⟨v', w', hrun, hown', hgrow, _⟩ := run_append_own (P := Try.prog) w base 25 ty 5 i0 (.int .u8 0) 1 1 Try.underlying25 hi hz0 hz1 hz2 rfl (by decide) v L.length (L.map bc) hown ad 0 cap [] (by simp) (by intro j u hj; simp at hj) (by intro u hu; simp at hu) (by simp [maxLen] at *; omega) (by simp at *; omega) hbase
      exact ⟨v', w', hrun, by unfold Own; simpa using hown', (Below.refl _ _).grown hgrow hbase (own_block hown)⟩
  · obtain ⟨v', w', hrun, hown', hgrow, _⟩ := run_append_own (P := Try.prog) w base 25 ty 5 i0 (.int .u8 0) 1 1 Try.underlying25 hi hz0 hz1 hz2 rfl (by decide) v L.length (L.map bc) hown ⟨b, off, none⟩ l.length cap (l.map bc) (by simp) (newsR h6) one_bc (by simp [maxLen] at *; omega) (by simp at *; omega) hbase
    exact ⟨v', w', hrun, by unfold Own; rw [List.length_append, List.map_append]; exact hown', (Below.refl _ _).grown hgrow hbase (own_block hown)⟩
/-- The same, at one operation. -/
theorem wp_app {w : World} {o : Oper} {a : Act} {K : Act → World → Prop} {Q : Exit → Act → World → Prop} (s x : Operand)
    (ho : o.op = .call { callee := .builtin .append, args := #[s, x], argTypes := #[25, 25] })
    (base : Nat) (v vx : Value) (L l M : List UInt8) (hM : M = L ++ l) (hs : a.eval s = v) (hx : a.eval x = vx) (hown : Own w base v L) (hr : Reads w vx l)
    (hlen : L.length + l.length ≤ 140737488355328) (hbase : base ≤ w.heap.size)
    (h : ∀ v' w', Own w' base v' M → Hid (Below base w w') → K (a.put o.dst v') w') : o.wp Try.prog a w K Q := by
  obtain ⟨v', w', hrun, h1, h2⟩ := run_app (w := w) o.type base v vx L l M hM hown hr hlen hbase
  unfold Oper.wp
  simp [execOp, ho, resolve, invoke, builtin, hs, hx, hrun, Result.andThen]
  exact h v' w' h1 h2
theorem hid_ex {α : Type} (a : α) : ∃ b, Hid (b = a) := ⟨a, rfl⟩
end Go.Proofs.Ytlpjdfgknmfmnaa

/- The contract of word.Write: numbers as eight bytes each, the greatest first. -/
namespace Go.Proofs.Ytlpjdfgknmfmnaa
open Go.RowKit

/-- Byte i of eight, the greatest first. -/
def byteOf (x : Int) (i : Nat) : Int := x / 2 ^ (8 * (7 - i)) % 256
/-- The first k bytes of all numbers' bytes. -/
def bytesTo (zs : List Int) (k : Nat) : List Int := (List.range k).map fun j => byteOf (zs.getD (j / 8) 0) (j % 8)
theorem bytesTo_succ (zs : List Int) (k : Nat) : bytesTo zs (k + 1) = bytesTo zs k ++ [byteOf (zs.getD (k / 8) 0) (k % 8)] := by
  simp [bytesTo, List.range_succ]
theorem bytesTo_len (zs : List Int) (k : Nat) : (bytesTo zs k).length = k := by simp [bytesTo]
set_option maxRecDepth 100000 in
set_option maxHeartbeats 2000000 in
theorem wordWrite_any (b n : Nat) (zs : List Int) (hn : zs.length = n) (hn2 : n ≤ 1000) (hz : ∀ x ∈ zs, 0 ≤ x ∧ x < 18446744073709551616) (w : World) (hbw : b < w.heap.size)
    (hc : ∀ i, i < zs.length → w.cell? ⟨b, i, none⟩ = some (.int .u64 (zs.getD i 0)))
    (hmk : ∀ w, (Instr.makeSlice 25 (.int .i64 0) (.int .i64 (8 * (n : Int)))).run Try.prog w = .ok (.slice (some ⟨w.heap.size, 0, none⟩) 0 (8 * n)) (w.alloc (.cells (Array.replicate (8 * n) (.int .u8 0)) 5))) :
    Calls Try.prog 17 #[.slice (some ⟨b, 0, none⟩) n n] w fun e w' => ∃ v, e = .returned v ∧ w'.ownsRow w.heap.size 5 1 v (8 * n) ((bytesTo zs (8 * n)).map (Value.int .u8)) ∧ Below w.heap.size w w' := by
  obtain ⟨i0, hi, hz0, hz1, hz2⟩ := info_parts info5
  go_enter Try.func17, Try.ntmps17
  go_wp2_with fail
  have hown0 : (w.alloc (.cells (Array.replicate (8 * n) (.int .u8 0)) 5)).ownsRow w.heap.size 5 1 (.slice (some ⟨w.heap.size, 0, none⟩) 0 (8 * n)) 0 [] := by
    refine ⟨rfl, Or.inr ⟨w.heap.size, 8 * n, Array.replicate (8 * n) (.int .u8 0), rfl, Nat.le_refl _, ?_, Nat.zero_le _, ?_, ?_, ?_⟩⟩
    · show (w.heap.push _)[w.heap.size]? = _
      simp
    · unfold maxLen; omega
    · simp
    · simp
  clear hmk
  go_loopw [3, 13] (fun v i wr => ∃ k : Nat, k ≤ n ∧ i = .int .i64 k ∧ wr.ownsRow w.heap.size 5 1 v (8 * k) ((bytesTo zs (8 * k)).map (Value.int .u8)) ∧ Below w.heap.size w wr) (fun _ i _ => n - (intOf i).toNat)
  case atStart => exact ⟨0, Nat.zero_le _, rfl, hown0, (Below.refl _ _).alloc (by simp) _⟩
  case round =>
    obtain ⟨k, hk, rfl, hown, hbr⟩ := hrel
    clear hown0
    by_cases hlt : k < n
    · have hcell : wr.cell? ⟨b, k, none⟩ = some (.int .u64 (zs.getD k 0)) := (hbr.cell (p := ⟨b, k, none⟩) hbw).trans (hc k (by omega))
      have hzk := hz _ (getD_mem zs k (by omega))
      have HO : Hid _ := hown
      have HB : Hid _ := hbr
      have HE : Hid (zs.getD k 0 = zs.getD k 0) := rfl
      have hsz := hbr.size
      clear hown hbr hc
      generalize hx : zs.getD k 0 = x at *
      have HX : Hid (zs.getD k 0 = x) := hx
      clear hx
      go_wp2_with fail
      go_loopw [3, 17] (fun v i wq => ∃ m : Nat, m ≤ 8 ∧ i = .int .i64 m ∧ wq.ownsRow w.heap.size 5 1 v (8 * k + m) ((bytesTo zs (8 * k + m)).map (Value.int .u8)) ∧ Below w.heap.size w wq) (fun _ i _ => 8 - (intOf i).toNat)
      case atStart => exact ⟨0, by omega, rfl, HO.out, HB.out⟩
      case round =>
        obtain ⟨m, hm, rfl, hown, hbr⟩ := hrel
        clear HO HB
        by_cases hlm : m < 8
        · have hsz2 := hbr.size
          go_wp2_with (at_builtin; refine wpList_append_own _ rfl _ _ 25 rfl w.heap.size 5 i0 (.int .u8 0) 1 1 Try.underlying25 hi hz0 hz1 hz2 rfl (by decide) _ _ _ rfl (hown.alloc _) ⟨wr.heap.size, 0, none⟩ 1 1 [.int .u8 (x / 2 ^ (8 * (7 - m)) % 256)] rfl rfl ?c1 ?c2 ?c3 ?c4 ?c5 ?_)
          case c1 =>
            intro j u hj
            match j, hj with
            | 0, hj => simp at hj; subst hj; simp [Addr.add]
          case c2 => intro u hu; simp at hu; subst hu; rfl
          case c3 => unfold maxLen; omega
          case c4 => omega
          case c5 => simp; omega
          intro v' w1 hown' hgrow _
          have HO2 : Hid (w1.ownsRow w.heap.size 5 1 v' (8 * k + (m + 1)) ((bytesTo zs (8 * k + (m + 1))).map (Value.int .u8))) := by
            have e : bytesTo zs (8 * k + (m + 1)) = bytesTo zs (8 * k + m) ++ [byteOf x m] := by
              have := bytesTo_succ zs (8 * k + m)
              have e1 : (8 * k + m) / 8 = k := by omega
              have e2 : (8 * k + m) % 8 = m := by omega
              rw [e1, e2, HX.out] at this
              exact this
            rw [e, List.map_append]
            exact hown'
          have HB2 : Hid (Below w.heap.size w w1) := (hbr.alloc hbr.size _).grown hgrow (by simp; omega) (own_block hown)
          clear hown hown' hgrow hbr
          go_wp2_with fail
          go_roundw
          case rel => exact ⟨m + 1, by omega, by go_num, HO2.out, HB2.out⟩
          case measure => simp [intOf]; omega
        · have hm8 : m = 8 := by omega
          subst hm8
          have HO2 : Hid _ := hown
          have HB2 : Hid _ := hbr
          clear hown hbr
          go_wp2_with fail
          go_roundw
          case rel => exact ⟨k + 1, by omega, by go_num, HO2.out, HB2.out⟩
          case measure => simp [intOf]; omega
    · have hke : k = n := by omega
      subst hke
      have HO2 : Hid _ := hown
      have HB2 : Hid _ := hbr
      clear hown hbr
      go_wp2_with fail
      go_ret
      exact ⟨_, rfl, HO2.out, HB2.out⟩
end Go.Proofs.Ytlpjdfgknmfmnaa

/- The contract of wide.Write: sixteen bytes, the greatest first. -/
namespace Go.Proofs.Ytlpjdfgknmfmnaa
open Go.RowKit

theorem mk8 : ∀ w, (Instr.makeSlice 25 (.int .i64 0) (.int .i64 (8 * ((1 : Nat) : Int)))).run Try.prog w = .ok (.slice (some ⟨w.heap.size, 0, none⟩) 0 (8 * 1)) (w.alloc (.cells (Array.replicate (8 * 1) (.int .u8 0)) 5)) := fun _ => by kernel_rfl
theorem mk16 : ∀ w, (Instr.makeSlice 25 (.int .i64 0) (.int .i64 (8 * ((2 : Nat) : Int)))).run Try.prog w = .ok (.slice (some ⟨w.heap.size, 0, none⟩) 0 (8 * 2)) (w.alloc (.cells (Array.replicate (8 * 2) (.int .u8 0)) 5)) := fun _ => by kernel_rfl
/-- The eight bytes of one number, the sixteen of two. -/
def eight (x : Int) : List Int := bytesTo [x] 8
def sixteen (x y : Int) : List Int := bytesTo [x, y] 16
theorem eight_len (x : Int) : (eight x).length = 8 := bytesTo_len _ _
theorem sixteen_len (x y : Int) : (sixteen x y).length = 16 := bytesTo_len _ _
theorem word1 (b : Nat) (x : Int) (hx : 0 ≤ x ∧ x < 18446744073709551616) (w : World) (hbw : b < w.heap.size) (h0 : w.cell? ⟨b, 0, none⟩ = some (.int .u64 x)) :
    Calls Try.prog 17 #[.slice (some ⟨b, 0, none⟩) 1 1] w fun e w' => ∃ v, e = .returned v ∧ w'.ownsRow w.heap.size 5 1 v 8 ((eight x).map (Value.int .u8)) ∧ Below w.heap.size w w' :=
  wordWrite_any b 1 [x] rfl (by omega) (by intro z hz; simp at hz; subst hz; exact hx) w hbw (by
    intro i hi
    match i, hi with
    | 0, _ => simpa using h0) mk8
theorem word2 (b : Nat) (x y : Int) (hx : 0 ≤ x ∧ x < 18446744073709551616) (hy : 0 ≤ y ∧ y < 18446744073709551616) (w : World) (hbw : b < w.heap.size) (h0 : w.cell? ⟨b, 0, none⟩ = some (.int .u64 x)) (h1 : w.cell? ⟨b, 1, none⟩ = some (.int .u64 y)) :
    Calls Try.prog 17 #[.slice (some ⟨b, 0, none⟩) 2 2] w fun e w' => ∃ v, e = .returned v ∧ w'.ownsRow w.heap.size 5 1 v 16 ((sixteen x y).map (Value.int .u8)) ∧ Below w.heap.size w w' :=
  wordWrite_any b 2 [x, y] rfl (by omega) (by intro z hz; simp at hz; rcases hz with rfl | rfl <;> assumption) w hbw (by
    intro i hi
    match i, hi with
    | 0, _ => simpa using h0
    | 1, _ => simpa using h1) mk16

set_option maxHeartbeats 400000 in
theorem wideWrite_any (x : Int) (w : World) :
    Calls Try.prog 84 #[.agg #[.int .i64 (hi x), .int .u64 (lo x)]] w fun e w' => ∃ v, e = .returned v ∧ w'.ownsRow w.heap.size 5 1 v 16 ((sixteen (hi x % 18446744073709551616) (lo x)).map (Value.int .u8)) ∧ Below w.heap.size w w' := by
  have lx := lo_bd x; have hx := hi_bd x
  go_enter Try.func84, Try.ntmps84
  go_wp2_with fail
  simp only [IntKind.wrap_u64]
  refine (word2 _ (hi x % 18446744073709551616) (lo x) (by omega) lx _ (by simp) (by simp [go_sem]) (by simp [go_sem])).mono ?_
  rintro e w1 ⟨v, rfl, hown, hb⟩
  have HB : Hid (Below w.heap.size w w1) := (((Below.refl _ _).alloc (by simp) _).alloc (by simp) _).trans (hb.mono (by simp; omega))
  have HO : Hid _ := own_mono hown (base' := w.heap.size) (by simp; omega)
  clear hown hb
  go_wp2_with fail
  go_ret
  exact ⟨_, rfl, HO.out, HB.out⟩
end Go.Proofs.Ytlpjdfgknmfmnaa

/- The contract of agg.Write, of what is right: 41 bytes. -/
namespace Go.Proofs.Ytlpjdfgknmfmnaa
open Go.RowKit

theorem own_below {w1 w2 : World} {base : Nat} {e : TypeId} {size : Nat} {v : Value} {n : Nat} {xs : List Value} (h : w1.ownsRow base e size v n xs) (hb : Below w1.heap.size w1 w2) : w2.ownsRow base e size v n xs := by
  obtain ⟨h1, h2⟩ := h
  refine ⟨h1, ?_⟩
  rcases h2 with h2 | ⟨g, cap, cur, hv, hg, hh, r⟩
  · exact .inl h2
  · refine .inr ⟨g, cap, cur, hv, hg, ?_, r⟩
    have : g < w1.heap.size := by
      rcases Nat.lt_or_ge g w1.heap.size with h | h
      · exact h
      · rw [Array.getElem?_eq_none h] at hh; cases hh
    rw [hb.block g this]; exact hh
theorem own_form {w : World} {base : Nat} {e : TypeId} {v : Value} {n : Nat} {xs : List Value} (h : w.ownsRow base e 1 v n xs) (hn : n ≠ 0) :
    ∃ g cap, v = .slice (some ⟨g, 0, none⟩) n cap ∧ base ≤ g ∧ g < w.heap.size ∧ ∀ j u, xs[j]? = some u → w.cell? ((⟨g, 0, none⟩ : Addr).add j) = some u := by
  obtain ⟨h1, h2⟩ := h
  rcases h2 with ⟨_, h2⟩ | ⟨g, cap, cur, hv, hg, hh, hnc, _, hcs, ht⟩
  · exact absurd h2 hn
  · refine ⟨g, cap, hv, hg, ?_, ?_⟩
    · rcases Nat.lt_or_ge g w.heap.size with h | h
      · exact h
      · rw [Array.getElem?_eq_none h] at hh; cases hh
    · intro j u hj
      have hjl : j < n := by
        have := (List.getElem?_eq_some_iff.1 hj).1
        rw [h1] at this; omega
      have ea : (⟨g, 0, none⟩ : Addr).add j = ⟨g, j, none⟩ := by simp [Addr.add]; intro e; exact e.symm
      rw [ea]
      have hcur : cur[j]? = some u := by
        rw [← ht, Nat.mul_one, List.getElem?_take, if_pos hjl] at hj
        simpa using hj
      simp [World.cell?, hh, hcur]

def aggBytes (a : Ag) : List Int := [if a.o = true then 1 else 0] ++ eight a.c ++ sixteen (hi a.s % 18446744073709551616) (lo a.s) ++ sixteen (a.mn % 18446744073709551616) (a.mx % 18446744073709551616)
def zer41 : Array Value := Array.replicate 41 (.int .u8 0)
def one41 : Array Value := zer41.setIfInBounds 0 (.int .u8 1)
theorem zer41_0 : zer41[0]? = some (.int .u8 0) := rfl
theorem mk41 : ∀ w, (Instr.makeSlice 25 (.int .i64 1) (.int .i64 41)).run Try.prog w = .ok (.slice (some ⟨w.heap.size, 0, none⟩) 1 41) (w.alloc (.cells zer41 5)) := fun _ => by kernel_rfl
theorem cell_al {w1 : World} {x : Obj} {b o : Nat} {v : Option Value} (h : w1.cell? ⟨b, o, none⟩ = v) (hb : b < w1.heap.size) : (w1.alloc x).cell? ⟨b, o, none⟩ = v := by
  rw [World.cell?_alloc_lt w1 x ⟨b, o, none⟩ hb]; exact h
theorem bcellA {w1 w2 : World} {b o : Nat} {v : Option Value} (hb : Below w1.heap.size w1 w2) (h : b < w1.heap.size) (hc : w1.cell? ⟨b, o, none⟩ = v) : w2.cell? ⟨b, o, none⟩ = v := by
  rw [hb.cell (p := ⟨b, o, none⟩) h]; exact hc
theorem grown_cell {w1 w2 : World} {r : Option Nat} {b o : Nat} {v : Option Value} (hg : w1.grownBy w2 r) (h : b < w1.heap.size) (hr : ∀ k, r = some k → b ≠ k) (hc : w1.cell? ⟨b, o, none⟩ = v) : w2.cell? ⟨b, o, none⟩ = v := by
  have e : w2.cell? ⟨b, o, none⟩ = w1.cell? ⟨b, o, none⟩ := World.cell?_of_block (w := w1) (hg.block b h (fun e => hr b e.symm rfl))
  rw [e]; exact hc
/-- The box of what is known, in a world. -/
def BoxA (a : Ag) (b : Nat) (w : World) : Prop := b < w.heap.size ∧ w.cell? ⟨b, 0, none⟩ = some (.int .u64 a.c) ∧ w.cell? ⟨b, 2, none⟩ = some (.int .i64 (hi a.s)) ∧ w.cell? ⟨b, 3, none⟩ = some (.int .u64 (lo a.s)) ∧ w.cell? ⟨b, 4, none⟩ = some (.int .i64 a.mn) ∧ w.cell? ⟨b, 5, none⟩ = some (.int .i64 a.mx)
theorem BoxA.below {a : Ag} {b : Nat} {w1 w2 : World} (h : BoxA a b w1) (hb : Below w1.heap.size w1 w2) : BoxA a b w2 := by
  obtain ⟨h0, h1, h2, h3, h4, h5⟩ := h
  have := hb.size
  exact ⟨by omega, bcellA hb h0 h1, bcellA hb h0 h2, bcellA hb h0 h3, bcellA hb h0 h4, bcellA hb h0 h5⟩
theorem BoxA.al {a : Ag} {b : Nat} {w1 : World} {o : Obj} (h : BoxA a b w1) : BoxA a b (w1.alloc o) := by
  obtain ⟨h0, h1, h2, h3, h4, h5⟩ := h
  exact ⟨by simp; omega, cell_al h1 h0, cell_al h2 h0, cell_al h3 h0, cell_al h4 h0, cell_al h5 h0⟩
theorem BoxA.grown {a : Ag} {b : Nat} {w1 w2 : World} {r : Option Nat} (h : BoxA a b w1) (hg : w1.grownBy w2 r) (hr : ∀ k, r = some k → b ≠ k) : BoxA a b w2 := by
  obtain ⟨h0, h1, h2, h3, h4, h5⟩ := h
  have := hg.size
  exact ⟨by omega, grown_cell hg h0 hr h1, grown_cell hg h0 hr h2, grown_cell hg h0 hr h3, grown_cell hg h0 hr h4, grown_cell hg h0 hr h5⟩
theorem own_block1 {w : World} {base : Nat} {e : TypeId} {size : Nat} {v : Value} {n : Nat} {xs : List Value} (h : w.ownsRow base e size v n xs) (b : Nat) (hb : b < base) : ∀ k, v.ownBlock = some k → b ≠ k := by
  intro k hk e; have := own_block h k hk; omega

set_option maxRecDepth 100000 in
set_option maxHeartbeats 1000000 in
theorem aggWrite_plain (a : Ag) (ho : a.o = false) (hr : rightB a = true) (c1 : 0 ≤ a.c ∧ a.c < 18446744073709551616) (w : World) :
    Calls Try.prog 51 #[.agg #[.int .u64 a.c, .bool a.o, .int .i64 (hi a.s), .int .u64 (lo a.s), .int .i64 a.mn, .int .i64 a.mx]] w fun e w' => ∃ v, e = .returned (.tuple #[v, .int .i64 0]) ∧ w'.ownsRow (w.heap.size + 1) 5 1 v 41 ((aggBytes a).map (Value.int .u8)) ∧ Below w.heap.size w w' := by
  obtain ⟨i0, hif, hz0, hz1, hz2⟩ := info_parts info5
  have HO : Hid _ := ho
  have HR : Hid _ := hr
  clear ho hr
  have hmk := mk41
  have hz41 := zer41_0
  go_enter Try.func51, Try.ntmps51
  go_wp2_with fail
  refine (right_any a _).mono ?_
  rw [HR.out]
  rintro e w1 ⟨rfl, hb1⟩
  have hs1 : w.heap.size < w1.heap.size := by have := hb1.size; simp at this; omega
  have k0 := hb1.cell (p := ⟨w.heap.size, 0, none⟩) (by simp)
  have k1 := hb1.cell (p := ⟨w.heap.size, 1, none⟩) (by simp)
  have k2 := hb1.cell (p := ⟨w.heap.size, 2, none⟩) (by simp)
  have k3 := hb1.cell (p := ⟨w.heap.size, 3, none⟩) (by simp)
  have k4 := hb1.cell (p := ⟨w.heap.size, 4, none⟩) (by simp)
  have k5 := hb1.cell (p := ⟨w.heap.size, 5, none⟩) (by simp)
  simp [go_sem] at k0 k1 k2 k3 k4 k5
  rw [HO.out] at k1
  have HX : Hid (BoxA a w.heap.size w1) := ⟨hs1, k0, k2, k3, k4, k5⟩
  have HB1 : Hid (Below w.heap.size w w1) := ((Below.refl _ _).alloc (by simp) _).trans (hb1.mono (by simp))
  clear hb1
  go_wp2_with fail
  clear k0 k1 k2 k3 k4 k5 hmk
  have hown1 : (w1.alloc (.cells zer41 5)).ownsRow (w.heap.size + 1) 5 1 (.slice (some ⟨w1.heap.size, 0, none⟩) 1 41) 1 [.int .u8 0] := by
    refine ⟨rfl, Or.inr ⟨w1.heap.size, 41, zer41, rfl, by omega, ?_, by decide, by decide, rfl, rfl⟩⟩
    show (w1.heap.push _)[w1.heap.size]? = _
    simp
  refine (word1 (w1.heap.size + 1) a.c c1 _ (by simp) (by simp [go_sem])).mono ?_
  rintro e w2 ⟨v2, rfl, hown2, hb2⟩
  have hown3 := own_below (hown1.alloc (.cells #[.int .u64 a.c] 37)) hb2
  have hx2 : BoxA a w.heap.size w2 := (HX.out.al.al).below hb2
  have HB2 : Hid (Below w.heap.size w w2) := ((HB1.out.alloc HB1.out.size _).alloc (by simp; omega) _).trans (hb2.mono (by simp; omega))
  have hsz2 : w.heap.size + 1 < w2.heap.size := by have := hb2.size; simp at this; omega
  obtain ⟨g2, cap2, hv2, hg2, hg2', hnews2⟩ := own_form hown2 (by decide)
  rw [hv2]
  clear hown1 hb2 hown2 hv2
  go_wp2_with (at_builtin; refine wpList_append_own _ rfl (.tmp 13) (.tmp 17) 25 rfl (w.heap.size + 1) 5 i0 (.int .u8 0) 1 1 Try.underlying25 hif hz0 hz1 hz2 rfl (by decide) _ 1 _ rfl hown3 ⟨g2, 0, none⟩ 8 cap2 ((eight a.c).map (Value.int .u8)) rfl (by rw [List.length_map, eight_len]) hnews2 (by intro u hu; obtain ⟨z, _, rfl⟩ := List.mem_map.1 hu; rfl) (by unfold maxLen; omega) (by omega) ?c5 ?_)
  case c5 => omega
  intro v3 w3 hown4 hgrow3 _
  have hx3 : BoxA a w.heap.size w3 := hx2.grown hgrow3 (own_block1 hown3 _ (by omega))
  have HB3 : Hid (Below w.heap.size w w3) := HB2.out.grown hgrow3 HB2.out.size (fun k hk => by have := own_block hown3 k hk; omega)
  have hsz3 : w.heap.size + 1 < w3.heap.size := by have := hgrow3.size; omega
  obtain ⟨j0, j1, j2, j3, j4, j5⟩ := hx3
  have HX3 : Hid (BoxA a w.heap.size w3) := ⟨j0, j1, j2, j3, j4, j5⟩
  have HO4 : Hid _ := hown4
  clear hown3 hown4 hgrow3 hx2 hnews2
  go_wp2_with fail
  clear j1 j2 j3 j4 j5
  refine (wideWrite_any a.s _).mono ?_
  rintro e w4 ⟨v4, rfl, hown5, hb4⟩
  have hown6 := own_below HO4.out hb4
  have hx4 : BoxA a w.heap.size w4 := HX3.out.below hb4
  have HB4 : Hid (Below w.heap.size w w4) := HB3.out.trans (hb4.mono HB3.out.size)
  have hsz4 : w.heap.size + 1 < w4.heap.size := by have := hb4.size; omega
  obtain ⟨g4, cap4, hv4, hg4, hg4', hnews4⟩ := own_form hown5 (by decide)
  rw [hv4]
  clear hb4 hown5 hv4 HO4
  go_wp2_with (at_builtin; refine wpList_append_own _ rfl (.tmp 19) (.tmp 22) 25 rfl (w.heap.size + 1) 5 i0 (.int .u8 0) 1 1 Try.underlying25 hif hz0 hz1 hz2 rfl (by decide) _ 9 _ rfl hown6 ⟨g4, 0, none⟩ 16 cap4 ((sixteen (hi a.s % 18446744073709551616) (lo a.s)).map (Value.int .u8)) rfl (by rw [List.length_map, sixteen_len]) hnews4 (by intro u hu; obtain ⟨z, _, rfl⟩ := List.mem_map.1 hu; rfl) (by unfold maxLen; omega) (by omega) ?c5 ?_)
  case c5 => omega
  intro v5 w5 hown7 hgrow5 _
  have hx5 : BoxA a w.heap.size w5 := hx4.grown hgrow5 (own_block1 hown6 _ (by omega))
  have HB5 : Hid (Below w.heap.size w w5) := HB4.out.grown hgrow5 HB4.out.size (fun k hk => by have := own_block hown6 k hk; omega)
  have hsz5 : w.heap.size + 1 < w5.heap.size := by have := hgrow5.size; omega
  obtain ⟨j0, j1, j2, j3, j4, j5⟩ := hx5
  have HO7 : Hid _ := hown7
  clear hown6 hown7 hgrow5 hx4 hnews4
  go_wp2_with fail
  clear j1 j2 j3 j4 j5
  simp only [IntKind.wrap_u64]
  refine (word2 w5.heap.size (a.mn % 18446744073709551616) (a.mx % 18446744073709551616) (by omega) (by omega) _ (by simp) (by simp [go_sem]) (by simp [go_sem])).mono ?_
  rintro e w6 ⟨v6, rfl, hown8, hb6⟩
  have hown9 := own_below (World.ownsRow.alloc (Hid.out HO7) (.cells #[.int .u64 (a.mn % 18446744073709551616), .int .u64 (a.mx % 18446744073709551616)] 37)) hb6
  have HB6 : Hid (Below w.heap.size w w6) := (HB5.out.alloc HB5.out.size _).trans (hb6.mono (by simp; omega))
  have hsz6 : w.heap.size + 1 < w6.heap.size := by have := hb6.size; simp at this; omega
  obtain ⟨g6, cap6, hv6, hg6, hg6', hnews6⟩ := own_form hown8 (by decide)
  rw [hv6]
  clear hb6 hown8 hv6 HO7
  go_wp2_with (at_builtin; refine wpList_append_own _ rfl (.tmp 24) (.tmp 32) 25 rfl (w.heap.size + 1) 5 i0 (.int .u8 0) 1 1 Try.underlying25 hif hz0 hz1 hz2 rfl (by decide) _ 25 _ rfl hown9 ⟨g6, 0, none⟩ 16 cap6 ((sixteen (a.mn % 18446744073709551616) (a.mx % 18446744073709551616)).map (Value.int .u8)) rfl (by rw [List.length_map, sixteen_len]) hnews6 (by intro u hu; obtain ⟨z, _, rfl⟩ := List.mem_map.1 hu; rfl) (by unfold maxLen; omega) (by omega) ?c5 ?_)
  case c5 => omega
  intro v7 w7 hown10 hgrow7 _
  have HB7 : Hid (Below w.heap.size w w7) := HB6.out.grown hgrow7 HB6.out.size (fun k hk => by have := own_block hown9 k hk; omega)
  have HO10 : Hid (w7.ownsRow (w.heap.size + 1) 5 1 v7 41 ((aggBytes a).map (Value.int .u8))) := by
    have e : (aggBytes a).map (Value.int .u8) = [Value.int .u8 0] ++ (eight a.c).map (Value.int .u8) ++ (sixteen (hi a.s % 18446744073709551616) (lo a.s)).map (Value.int .u8) ++ (sixteen (a.mn % 18446744073709551616) (a.mx % 18446744073709551616)).map (Value.int .u8) := by
      unfold aggBytes; rw [HO.out]; simp
    rw [e]; exact hown10
  clear hown9 hown10 hgrow7 hnews6
  go_wp2_with fail
  go_ret2
  exact ⟨_, rfl, HO10.out, HB7.out⟩
end Go.Proofs.Ytlpjdfgknmfmnaa
