/- A2 C0 S2 MG0 MG1, joined. -/
import Derived.Test.YthicmbjiblbcmaaGreatTQ6
import Derived.Test.YthicmbjiblbcmaaGreatRows
import Derived.WalkKit
import Derived.WalkSpells
import Derived.WalkLawsBesides
import Derived.WalkMore
import Derived.Below
import Derived.Laws.AppendOwn
import Derived.Laws.IdiomStrings
import Derived.Laws.BytesString
import Derived.Laws.Strings
import Derived.Deep.RegionHeld3
import Derived.Laws.AppendOwnNone
import Derived.Lib.Bytealg
/- The contracts of agg.Right and One. -/
namespace Go.Proofs.YthicmbjiblbcmaaGreat
open Go.RowKit

def rightB (a : Ag) : Bool := if a.c = 0 then (!a.o && (hi a.s == 0) && (lo a.s == 0) && (a.mn == 0) && (a.mx == 0)) else (decide (a.mn ≤ a.mx) && (!a.o || (a.c == 18446744073709551615)))

set_option maxRecDepth 100000 in
set_option maxHeartbeats 1000000 in
theorem right_zero (a : Ag) (h : a.c = 0) (w : World) :
    Calls Tryz.prog 61 #[.agg #[.int .u64 a.c, .bool a.o, .int .i64 (hi a.s), .int .u64 (lo a.s), .int .i64 a.mn, .int .i64 a.mx]] w fun e w' => e = .returned (.bool (rightB a)) ∧ Below w.heap.size w w' := by
  obtain ⟨c, o, s, mn, mx⟩ := a
  simp only at h
  subst h
  have hb : ((0 : Int) == 0) = true := rfl
  go_enter Tryz.func61, Tryz.ntmps61
  go_wp2_with fail
  all_goals
    go_ret
    refine ⟨?_, (Below.refl _ _).alloc (by simp) _⟩
    simp [rightB, *]
set_option maxRecDepth 100000 in
set_option maxHeartbeats 1000000 in
theorem right_some (a : Ag) (h : a.c ≠ 0) (w : World) :
    Calls Tryz.prog 61 #[.agg #[.int .u64 a.c, .bool a.o, .int .i64 (hi a.s), .int .u64 (lo a.s), .int .i64 a.mn, .int .i64 a.mx]] w fun e w' => e = .returned (.bool (rightB a)) ∧ Below w.heap.size w w' := by
  have e : rightB a = (decide (a.mn ≤ a.mx) && (!a.o || (a.c == 18446744073709551615))) := by unfold rightB; rw [if_neg h]
  have hb : (a.c == 0) = false := by simp [h]
  by_cases h1 : a.mn ≤ a.mx
  · have hd : decide (a.mn ≤ a.mx) = true := by simpa using h1
    cases ho : a.o
    · have HE : Hid (rightB a = true) := by unfold Hid; rw [e, hd, ho]; rfl
      clear e h h1 ho
      go_enter Tryz.func61, Tryz.ntmps61
      go_wp2_with fail
      go_ret
      exact ⟨by rw [HE.out]; rfl, (Below.refl _ _).alloc (by simp) _⟩
    · have HE : Hid (rightB a = (a.c == 18446744073709551615)) := by unfold Hid; rw [e, hd, ho]; simp
      clear e h h1 ho
      generalize hm : (a.c == 18446744073709551615) = mm at *
      cases mm
      · go_enter Tryz.func61, Tryz.ntmps61
        go_wp2_with fail
        go_ret
        exact ⟨by rw [HE.out]; rfl, (Below.refl _ _).alloc (by simp) _⟩
      · go_enter Tryz.func61, Tryz.ntmps61
        go_wp2_with fail
        go_ret
        exact ⟨by rw [HE.out]; rfl, (Below.refl _ _).alloc (by simp) _⟩
  · have hd : decide (a.mn ≤ a.mx) = false := by simpa using h1
    have HE : Hid (rightB a = false) := by unfold Hid; rw [e, hd]; rfl
    clear e h h1
    go_enter Tryz.func61, Tryz.ntmps61
    go_wp2_with fail
    go_ret
    exact ⟨by rw [HE.out]; rfl, (Below.refl _ _).alloc (by simp) _⟩
theorem right_any (a : Ag) (w : World) :
    Calls Tryz.prog 61 #[.agg #[.int .u64 a.c, .bool a.o, .int .i64 (hi a.s), .int .u64 (lo a.s), .int .i64 a.mn, .int .i64 a.mx]] w fun e w' => e = .returned (.bool (rightB a)) ∧ Below w.heap.size w w' := by
  by_cases h : a.c = 0
  · exact right_zero a h w
  · exact right_some a h w

def oneF (v : Int) : Ag := ⟨1, false, v, v, v⟩
end Go.Proofs.YthicmbjiblbcmaaGreat

/- Bytes that a slice reads, whoever made it. -/
namespace Go.Proofs.YthicmbjiblbcmaaGreat
open Go.RowKit

/-- A byte's cell. -/
def bc (x : UInt8) : Value := .int .u8 (x.toNat : Int)
/-- A slice value reads these bytes. -/
def Reads (w : World) (v : Value) (l : List UInt8) : Prop :=
  (l = [] ∧ ∃ a cap, v = .slice a 0 cap ∧ (a = none → cap = 0)) ∨
  ∃ b off cap, v = .slice (some ⟨b, off, none⟩) l.length cap ∧ 0 < l.length ∧ l.length ≤ cap ∧ cap ≤ maxLen ∧ b < w.heap.size ∧ ∀ j (h : j < l.length), w.cell? ⟨b, off + j, none⟩ = some (bc l[j])
theorem Reads.below {w w' : World} {v : Value} {l : List UInt8} (h : Reads w v l) (hb : Below w.heap.size w w') : Reads w' v l := by
  rcases h with h | ⟨b, off, cap, h1, h2, h3, h4, h5, h6⟩
  · exact .inl h
  · have := hb.size
    exact .inr ⟨b, off, cap, h1, h2, h3, h4, by omega, fun j hj => (hb.cell (p := ⟨b, off + j, none⟩) h5).trans (h6 j hj)⟩
theorem Reads.drew {w : World} {v : Value} {l : List UInt8} (h : Reads w v l) : Reads w.drew v l := h
theorem Reads.alloc {w : World} {v : Value} {l : List UInt8} (h : Reads w v l) (o : Obj) : Reads (w.alloc o) v l := h.below ((Below.refl _ _).alloc (Nat.le_refl _) _)
/-- What it is, as a slice. -/
theorem Reads.form {w : World} {v : Value} {l : List UInt8} (h : Reads w v l) : ∃ a cap, v = .slice a l.length cap ∧ l.length ≤ maxLen := by
  rcases h with ⟨rfl, a, cap, h, _⟩ | ⟨b, off, cap, h1, h2, h3, h4, h5, h6⟩
  · exact ⟨a, cap, h, by simp⟩
  · exact ⟨_, cap, h1, by omega⟩
theorem reads_own {w : World} {base : Nat} {e : TypeId} {v : Value} {n : Nat} {l : List UInt8} (h : w.ownsRow base e 1 v n (l.map bc)) : Reads w v l := by
  obtain ⟨h1, h2⟩ := h
  simp at h1
  rcases h2 with ⟨rfl, h0⟩ | ⟨g, cap, cur, rfl, hg, hw, hn, hm, hs, ht⟩
  · left
    refine ⟨List.length_eq_zero_iff.1 (by omega), none, 0, rfl, fun _ => rfl⟩
  · rcases Nat.eq_zero_or_pos n with h0 | h0
    · left; exact ⟨List.length_eq_zero_iff.1 (by omega), _, cap, by rw [h0], fun h => by cases h⟩
    · right
      have hown : w.ownsRow base e 1 (.slice (some ⟨g, 0, none⟩) n cap) n (l.map bc) := ⟨by simp; exact h1, .inr ⟨g, cap, cur, rfl, hg, hw, hn, hm, hs, ht⟩⟩
      refine ⟨g, 0, cap, by rw [h1], by omega, by omega, hm, (hown.lt g rfl).2, fun j hj => ?_⟩
      have := hown.cells (g := g) rfl j (bc l[j]) (by simp [hj])
      have ea : (⟨g, 0, none⟩ : Addr).add j = ⟨g, 0 + j, none⟩ := by simp [Addr.add]; omega
      rw [ea] at this
      exact this
theorem own_block {w : World} {base : Nat} {e : TypeId} {size : Nat} {v : Value} {n : Nat} {xs : List Value} (h : w.ownsRow base e size v n xs) : ∀ k, v.ownBlock = some k → base ≤ k := fun k hk => (h.lt k hk).1
theorem own_mono {w : World} {base base' : Nat} {e : TypeId} {size : Nat} {v : Value} {n : Nat} {xs : List Value} (h : w.ownsRow base e size v n xs) (hb : base' ≤ base) : w.ownsRow base' e size v n xs := by
  obtain ⟨h1, h2⟩ := h
  refine ⟨h1, ?_⟩
  rcases h2 with h2 | ⟨g, cap, cur, hv, hg, r⟩
  · exact .inl h2
  · exact .inr ⟨g, cap, cur, hv, by omega, r⟩
/-- Its text. -/
theorem reads_text {w : World} {v : Value} {l : List UInt8} (h : Reads w v l) : (convert 49 9 v).run Tryz.prog w = .ok (.string ⟨l.toArray⟩) w := by
  rcases h with ⟨rfl, a, cap, rfl, _⟩ | ⟨b, off, cap, rfl, h2, h3, h4, h5, h6⟩
  · rw [run_convert_bytes_string w 49 9 5 a 0 cap Tryz.underlying49 Tryz.underlying5 Tryz.underlying9]
    cases a <;> simp [Conv.bytesToString, loadCells]
    all_goals rfl
  · exact run_convert_bytes_back (P := Tryz.prog) w 49 9 5 ⟨b, off, none⟩ cap l Tryz.underlying49 Tryz.underlying5 Tryz.underlying9 (by
      intro j hj
      have ea : (⟨b, off, none⟩ : Addr).add j = ⟨b, off + j, none⟩ := by simp [Addr.add]
      rw [ea]
      exact h6 j hj)
theorem info5 : (Tryz.prog.info? 5).map (fun i => (i.zero, i.size, i.bytes)) = some (some (.int .u8 0), 1, 1) := by kernel_rfl
theorem news1 {w : World} {x : Value} {t : TypeId} : ∀ j u, [x][j]? = some u → (w.alloc (.cells #[x] t)).cell? ((⟨w.heap.size, 0, none⟩ : Addr).add j) = some u := by
  intro j u hj
  match j, hj with
  | 0, hj => simp at hj; subst hj; simp [Addr.add]
theorem news2 {w : World} {x y : Value} {t : TypeId} : ∀ j u, [x, y][j]? = some u → (w.alloc (.cells #[x, y] t)).cell? ((⟨w.heap.size, 0, none⟩ : Addr).add j) = some u := by
  intro j u hj
  match j, hj with
  | 0, hj => simp at hj; subst hj; simp [Addr.add]
  | 1, hj => simp at hj; subst hj; simp [Addr.add]
theorem one1 {k : IntKind} {x : Int} : ∀ u ∈ [Value.int k x], u.oneCell' = true := by intro u hu; simp at hu; subst hu; rfl
theorem one2 {k : IntKind} {x y : Int} : ∀ u ∈ [Value.int k x, Value.int k y], u.oneCell' = true := by intro u hu; simp at hu; rcases hu with rfl | rfl <;> rfl
theorem len_ok {n m : Nat} (h : n + m ≤ 100000) : n + m ≤ maxLen ∧ (n + m) * 1 ≤ 140737488355328 := by unfold maxLen; omega
theorem al_ok {w w1 : World} {o : Obj} (h : w.heap.size ≤ w1.heap.size) : w.heap.size ≤ (w1.alloc o).heap.size := by simp; omega
theorem reads_take {w : World} {b off cap : Nat} {l : List UInt8} (c : Nat) (hc : c ≤ l.length) (hcap : l.length ≤ cap) (hm : cap ≤ maxLen) (hb : b < w.heap.size) (h : ∀ j (h : j < l.length), w.cell? ⟨b, off + j, none⟩ = some (bc l[j])) : Reads w (.slice (some ⟨b, off, none⟩) c cap) (l.take c) := by
  rcases Nat.eq_zero_or_pos c with h0 | h0
  · subst h0; exact .inl ⟨rfl, _, _, rfl, fun h => by cases h⟩
  · have hl : (l.take c).length = c := by simp; omega
    refine .inr ⟨b, off, cap, by rw [hl], by omega, by omega, hm, hb, fun j hj => ?_⟩
    rw [h j (by omega)]
    simp
theorem newsR {w : World} {b off : Nat} {l : List UInt8} (h : ∀ j (h : j < l.length), w.cell? ⟨b, off + j, none⟩ = some (bc l[j])) : ∀ j u, (l.map bc)[j]? = some u → w.cell? ((⟨b, off, none⟩ : Addr).add j) = some u := by
  intro j u hj
  rw [List.getElem?_map] at hj
  rcases Nat.lt_or_ge j l.length with hlt | hge
  · rw [List.getElem?_eq_getElem hlt] at hj
    simp at hj
    subst hj
    have ea : (⟨b, off, none⟩ : Addr).add j = ⟨b, off + j, none⟩ := by simp [Addr.add]
    rw [ea]; exact h j hlt
  · rw [List.getElem?_eq_none hge] at hj; simp at hj
theorem one_bc {l : List UInt8} : ∀ u ∈ l.map bc, u.oneCell' = true := by
  intro u hu
  obtain ⟨x, _, rfl⟩ := List.mem_map.1 hu
  rfl
/-- Bytes of one's own: their slice's array was made since base. -/
def Own (w : World) (base : Nat) (v : Value) (l : List UInt8) : Prop := w.ownsRow base 5 1 v l.length (l.map bc)
theorem Own.nil (w : World) (base : Nat) : Own w base (.slice none 0 0) [] := World.ownsRow_nil _ _ _ _
theorem Own.reads {w : World} {base : Nat} {v : Value} {l : List UInt8} (h : Own w base v l) : Reads w v l := reads_own h
theorem Own.mono {w : World} {base base' : Nat} {v : Value} {l : List UInt8} (h : Own w base v l) (hb : base' ≤ base) : Own w base' v l := own_mono h hb
theorem Own.below {w w' : World} {base : Nat} {v : Value} {l : List UInt8} (h : Own w base v l) (hb : Below w.heap.size w w') : Own w' base v l := by
  have hlt := World.ownsRow.lt h
  obtain ⟨h1, h2⟩ := h
  refine ⟨h1, ?_⟩
  rcases h2 with h2 | ⟨g, cap, cur, hv, hg, hw, r⟩
  · exact .inl h2
  · exact .inr ⟨g, cap, cur, hv, hg, (hb.block g (hlt g (by rw [hv]; rfl)).2).trans hw, r⟩
theorem Own.alloc {w : World} {base : Nat} {v : Value} {l : List UInt8} (h : Own w base v l) (o : Obj) : Own (w.alloc o) base v l := World.ownsRow.alloc h o
theorem Own.form {w : World} {base : Nat} {v : Value} {l : List UInt8} (h : Own w base v l) : ∃ a cap, v = .slice a l.length cap ∧ l.length ≤ maxLen := h.reads.form
/-- Bytes, whatever their slice is, behind bytes of one's own. -/
theorem wpList_app {w : World} {ops : Array Oper} {rest : List Oper} {o : Oper} {a : Act} {Q : Exit → Act → World → Prop} (hgd : o.guard = none) (s x : Operand)
    (ho : o.op = .call { callee := .builtin .append, args := #[s, x], argTypes := #[49, 49] })
    (base : Nat) (v vx : Value) (L l M : List UInt8) (hM : M = L ++ l) (hs : a.eval s = v) (hx : a.eval x = vx) (hown : Own w base v L) (hr : Reads w vx l)
    (hlen : L.length + l.length ≤ 140737488355328) (hbase : base ≤ w.heap.size)
    (h : ∀ v' w', Own w' base v' M → Hid (Below base w w') → wpList Tryz.prog ops Q rest (a.put o.dst v') w') : wpList Tryz.prog ops Q (o :: rest) a w := by
  subst hM
  obtain ⟨i0, hi, hz0, hz1, hz2⟩ := info_parts info5
  rcases hr with ⟨rfl, ad, cap, rfl, hn⟩ | ⟨b, off, cap, rfl, h2, h3, h4, h5, h6⟩
  · cases ad with
    | none =>
      obtain rfl := hn rfl
      refine wpList_append_own_none hgd s x 49 ho base 5 i0 1 Tryz.underlying49 hi v L.length (L.map bc) hs hown hx ?_
      exact h v w (by rw [List.append_nil]; exact hown) (Below.refl _ _)
    | some ad =>
      refine wpList_append_own w hgd s x 49 ho base 5 i0 (.int .u8 0) 1 1 Tryz.underlying49 hi hz0 hz1 hz2 rfl (by decide) v L.length (L.map bc) hs hown ad 0 cap [] hx (by simp) (by intro j u hj; simp at hj) (by intro u hu; simp at hu) (by simp [maxLen] at *; omega) (by simp at *; omega) hbase ?_
      intro v' w' hown' hgrow _
      refine h v' w' ?_ ((Below.refl _ _).grown hgrow hbase (own_block hown))
      unfold Own; simpa using hown'
  · refine wpList_append_own w hgd s x 49 ho base 5 i0 (.int .u8 0) 1 1 Tryz.underlying49 hi hz0 hz1 hz2 rfl (by decide) v L.length (L.map bc) hs hown ⟨b, off, none⟩ l.length cap (l.map bc) hx (by simp) (newsR h6) one_bc (by simp [maxLen] at *; omega) (by simp at *; omega) hbase ?_
    intro v' w' hown' hgrow _
    refine h v' w' ?_ ((Below.refl _ _).grown hgrow hbase (own_block hown))
    unfold Own; rw [List.length_append, List.map_append]; exact hown'
/-- One byte, just laid, behind bytes of one's own. -/
theorem wpList_app1 {w0 : World} {ops : Array Oper} {rest : List Oper} {o : Oper} {a : Act} {Q : Exit → Act → World → Prop} {u : Value} {t : TypeId} (hgd : o.guard = none) (s x : Operand)
    (ho : o.op = .call { callee := .builtin .append, args := #[s, x], argTypes := #[49, 49] })
    (base : Nat) (v : Value) (L : List UInt8) (y : UInt8) (M : List UInt8) (hM : M = L ++ [y]) (hu : u = bc y) (hs : a.eval s = v) (hx : a.eval x = .slice (some ⟨w0.heap.size, 0, none⟩) 1 1) (hown : Own w0 base v L)
    (hlen : L.length + 1 ≤ 140737488355328) (hbase : base ≤ w0.heap.size)
    (h : ∀ v' w', Own w' base v' M → Hid (Below base w0 w') → wpList Tryz.prog ops Q rest (a.put o.dst v') w') : wpList Tryz.prog ops Q (o :: rest) a (w0.alloc (.cells #[u] t)) := by
  subst hu
  refine wpList_app hgd s x ho base v _ L [y] M hM hs hx (hown.alloc _) (.inr ⟨w0.heap.size, 0, 1, rfl, by simp, by simp, by simp [maxLen], by simp, fun j hj => ?_⟩) (by simpa using hlen) (by simp; omega) ?_
  · have : j = 0 := by simpa using hj
    subst this; simp
  · intro v' w' h1 h2
    exact h v' w' h1 (((Below.refl _ _).alloc hbase _).trans h2.out)
theorem Own.at {w : World} {base g cap n : Nat} {l : List UInt8} (h : Own w base (.slice (some ⟨g, 0, none⟩) n cap) l) (j : Nat) (hj : j < l.length) : w.cell? ⟨g, j, none⟩ = some (bc l[j]) ∧ w.frozen? ⟨g, j, none⟩ = false := by
  have hn : n = l.length := by
    obtain ⟨a, c, hv, _⟩ := h.form
    simp at hv; exact hv.2.1
  subst hn
  refine ⟨?_, World.ownsRow.frozenAt h j⟩
  rw [World.ownsRow.cellAt h j (by simpa using hj)]
  simp [hj]
theorem Own.stored {w : World} {base g cap n : Nat} {l : List UInt8} (h : Own w base (.slice (some ⟨g, 0, none⟩) n cap) l) (j : Nat) (y : UInt8) : Own (w.setCell ⟨g, j, none⟩ (bc y)) base (.slice (some ⟨g, 0, none⟩) n cap) (l.set j y) ∧ Below base w (w.setCell ⟨g, j, none⟩ (bc y)) := by
  have hn : n = l.length := by
    obtain ⟨a, c, hv, _⟩ := h.form
    simp at hv; exact hv.2.1
  subst hn
  have hb := own_block h g rfl
  refine ⟨?_, (Below.refl _ _).setCell hb _⟩
  have := (World.ownsRow.stored h j (bc y)).1
  unfold Own
  rw [List.length_set, List.map_set]
  exact this
theorem Own.some {w : World} {base : Nat} {v : Value} {l : List UInt8} (h : Own w base v l) (h0 : 0 < l.length) : ∃ g cap, v = .slice (some ⟨g, 0, none⟩) l.length cap ∧ base ≤ g ∧ g < w.heap.size ∧ l.length ≤ cap ∧ cap ≤ maxLen := by
  have hlt := World.ownsRow.lt h
  rcases h.2 with ⟨_, h1⟩ | ⟨g, cap, cur, hv, hg, hw, hc, hm, _⟩
  · omega
  · exact ⟨g, cap, hv, hg, (hlt g (by rw [hv]; rfl)).2, hc, hm⟩
theorem Reads.at {w : World} {a : Option Addr} {n cap : Nat} {l : List UInt8} (h : Reads w (.slice a n cap) l) (j : Nat) (hj : j < l.length) : ∃ b off, a = some ⟨b, off, none⟩ ∧ b < w.heap.size ∧ w.cell? ⟨b, off + j, none⟩ = some (bc l[j]) := by
  rcases h with ⟨rfl, _⟩ | ⟨b, off, cap', hv, h2, h3, h4, h5, h6⟩
  · simp at hj
  · simp at hv
    exact ⟨b, off, hv.1, h5, h6 j hj⟩
/-- The same, as the run's equation. -/
theorem run_app {w : World} (ty : TypeId) (base : Nat) (v vx : Value) (L l M : List UInt8) (hM : M = L ++ l) (hown : Own w base v L) (hr : Reads w vx l) (hlen : L.length + l.length ≤ 140737488355328) (hbase : base ≤ w.heap.size) :
    ∃ v' w', (Builtin.append_ #[49, 49] ty #[v, vx]).run Tryz.prog w = .ok v' w' ∧ Own w' base v' M ∧ Hid (Below base w w') := by
  subst hM
  obtain ⟨i0, hi, hz0, hz1, hz2⟩ := info_parts info5
  rcases hr with ⟨rfl, ad, cap, rfl, hn⟩ | ⟨b, off, cap, rfl, h2, h3, h4, h5, h6⟩
  · cases ad with
    | none =>
      obtain rfl := hn rfl
      exact ⟨v, w, run_append_owned_none (P := Tryz.prog) w base 49 ty 5 i0 1 Tryz.underlying49 hi v L.length (L.map bc) hown, by rw [List.append_nil]; exact hown, Below.refl _ _⟩
    | some ad =>
      obtain ⟨v', w', hrun, hown', hgrow, _⟩ := run_append_own (P := Tryz.prog) w base 49 ty 5 i0 (.int .u8 0) 1 1 Tryz.underlying49 hi hz0 hz1 hz2 rfl (by decide) v L.length (L.map bc) hown ad 0 cap [] (by simp) (by intro j u hj; simp at hj) (by intro u hu; simp at hu) (by simp [maxLen] at *; omega) (by simp at *; omega) hbase
      exact ⟨v', w', hrun, by unfold Own; simpa using hown', (Below.refl _ _).grown hgrow hbase (own_block hown)⟩
  · obtain ⟨v', w', hrun, hown', hgrow, _⟩ := run_append_own (P := Tryz.prog) w base 49 ty 5 i0 (.int .u8 0) 1 1 Tryz.underlying49 hi hz0 hz1 hz2 rfl (by decide) v L.length (L.map bc) hown ⟨b, off, none⟩ l.length cap (l.map bc) (by simp) (newsR h6) one_bc (by simp [maxLen] at *; omega) (by simp at *; omega) hbase
    exact ⟨v', w', hrun, by unfold Own; rw [List.length_append, List.map_append]; exact hown', (Below.refl _ _).grown hgrow hbase (own_block hown)⟩
/-- The same, at one operation. -/
theorem wp_app {w : World} {o : Oper} {a : Act} {K : Act → World → Prop} {Q : Exit → Act → World → Prop} (s x : Operand)
    (ho : o.op = .call { callee := .builtin .append, args := #[s, x], argTypes := #[49, 49] })
    (base : Nat) (v vx : Value) (L l M : List UInt8) (hM : M = L ++ l) (hs : a.eval s = v) (hx : a.eval x = vx) (hown : Own w base v L) (hr : Reads w vx l)
    (hlen : L.length + l.length ≤ 140737488355328) (hbase : base ≤ w.heap.size)
    (h : ∀ v' w', Own w' base v' M → Hid (Below base w w') → K (a.put o.dst v') w') : o.wp Tryz.prog a w K Q := by
  obtain ⟨v', w', hrun, h1, h2⟩ := run_app (w := w) o.type base v vx L l M hM hown hr hlen hbase
  unfold Oper.wp
  simp [execOp, ho, resolve, invoke, builtin, hs, hx, hrun, Result.andThen]
  exact h v' w' h1 h2
theorem hid_ex {α : Type} (a : α) : ∃ b, Hid (b = a) := ⟨a, rfl⟩
end Go.Proofs.YthicmbjiblbcmaaGreat

/- The order of bytes, and lists of entries in that order. -/
namespace Go.Proofs.YthicmbjiblbcmaaGreat
open Go.Lib

abbrev Ks := List UInt8
/-- Bytes stand ahead of others. -/
def ltK (a b : Ks) : Prop := compareBytes a b = -1
instance (a b : Ks) : Decidable (ltK a b) := inferInstanceAs (Decidable (_ = _))
theorem cmp_three : ∀ a b : Ks, compareBytes a b = -1 ∨ compareBytes a b = 0 ∨ compareBytes a b = 1
  | [], [] => by simp [compareBytes]
  | [], _ :: _ => by simp [compareBytes]
  | _ :: _, [] => by simp [compareBytes]
  | a :: l1, b :: l2 => by
    unfold compareBytes
    split
    · simp
    · split
      · simp
      · exact cmp_three l1 l2
theorem u8_tri {a b : UInt8} (h1 : ¬ a < b) (h2 : ¬ b < a) : a = b := by
  apply UInt8.toNat.inj
  have h1' : ¬ a.toNat < b.toNat := h1
  have h2' : ¬ b.toNat < a.toNat := h2
  omega
theorem cmp_refl : ∀ a : Ks, compareBytes a a = 0
  | [] => rfl
  | a :: l1 => by
    unfold compareBytes
    have h : ¬ a < a := fun h => Nat.lt_irrefl _ (show a.toNat < a.toNat from h)
    rw [if_neg h, if_neg h]; exact cmp_refl l1
theorem cmp_zero : ∀ {a b : Ks}, compareBytes a b = 0 → a = b
  | [], [], _ => rfl
  | [], _ :: _, h => by simp [compareBytes] at h
  | _ :: _, [], h => by simp [compareBytes] at h
  | a :: l1, b :: l2, h => by
    unfold compareBytes at h
    by_cases h1 : a < b
    · rw [if_pos h1] at h; simp at h
    · rw [if_neg h1] at h
      by_cases h2 : b < a
      · rw [if_pos h2] at h; simp at h
      · rw [if_neg h2] at h
        rw [u8_tri h1 h2, cmp_zero h]
theorem cmp_swap : ∀ a b : Ks, compareBytes b a = - compareBytes a b
  | [], [] => rfl
  | [], _ :: _ => rfl
  | _ :: _, [] => rfl
  | a :: l1, b :: l2 => by
    unfold compareBytes
    by_cases h1 : a < b
    · have h2 : ¬ b < a := fun h => by have h1' : a.toNat < b.toNat := h1; have h' : b.toNat < a.toNat := h; omega
      rw [if_pos h1, if_neg h2, if_pos h1]; rfl
    · by_cases h2 : b < a
      · rw [if_pos h2, if_neg h1, if_pos h2]
      · rw [if_neg h1, if_neg h2, if_neg h2, if_neg h1]; exact cmp_swap l1 l2
theorem ltK_trans : ∀ {a b c : Ks}, ltK a b → ltK b c → ltK a c
  | [], [], _, h, _ => by simp [ltK, compareBytes] at h
  | [], _ :: _, [], _, h => by simp [ltK, compareBytes] at h
  | [], _ :: _, _ :: _, _, _ => by simp [ltK, compareBytes]
  | _ :: _, [], _, h, _ => by simp [ltK, compareBytes] at h
  | _ :: _, _ :: _, [], _, h => by simp [ltK, compareBytes] at h
  | a :: l1, b :: l2, c :: l3, h1, h2 => by
    unfold ltK compareBytes at h1 h2 ⊢
    by_cases p1 : a < b
    · by_cases q1 : b < c
      · have : a < c := by have p' : a.toNat < b.toNat := p1; have q' : b.toNat < c.toNat := q1; exact (show a.toNat < c.toNat by omega)
        rw [if_pos this]
      · rw [if_neg q1] at h2
        by_cases q2 : c < b
        · rw [if_pos q2] at h2; simp at h2
        · have : b = c := u8_tri q1 q2
          subst this
          rw [if_pos p1]
    · rw [if_neg p1] at h1
      by_cases p2 : b < a
      · rw [if_pos p2] at h1; simp at h1
      · have : a = b := u8_tri p1 p2
        subst this
        rw [if_neg p2] at h1
        by_cases q1 : a < c
        · rw [if_pos q1]
        · rw [if_neg q1] at h2 ⊢
          by_cases q2 : c < a
          · rw [if_pos q2] at h2; simp at h2
          · rw [if_neg q2] at h2 ⊢
            exact ltK_trans h1 h2
theorem ltK_irrefl (a : Ks) : ¬ ltK a a := by unfold ltK; rw [cmp_refl]; decide
theorem ltK_ne {a b : Ks} (h : ltK a b) : a ≠ b := fun e => by subst e; exact ltK_irrefl _ h
theorem ltK_asymm {a b : Ks} (h : ltK a b) : ¬ ltK b a := fun h2 => ltK_irrefl _ (ltK_trans h h2)
theorem ltK_tri (a b : Ks) : ltK a b ∨ a = b ∨ ltK b a := by
  rcases cmp_three a b with h | h | h
  · exact .inl h
  · exact .inr (.inl (cmp_zero h))
  · right; right; unfold ltK; rw [cmp_swap a b, h]
theorem not_ltK {a b : Ks} : ¬ ltK a b ↔ a = b ∨ ltK b a := by
  constructor
  · intro h; rcases ltK_tri a b with h1 | h1 | h1
    · exact absurd h1 h
    · exact .inl h1
    · exact .inr h1
  · rintro (rfl | h)
    · exact ltK_irrefl _
    · exact ltK_asymm h
theorem cmp_ge {a b : Ks} : (0 ≤ compareBytes a b) ↔ ¬ ltK a b := by
  unfold ltK; rcases cmp_three a b with h | h | h <;> rw [h] <;> decide

end Go.Proofs.YthicmbjiblbcmaaGreat

/- Heaps, as lists: what sinking does. -/
namespace Go.Proofs.YthicmbjiblbcmaaGreat

section
variable {α : Type}
theorem getD_set' (P : List α) (i j : Nat) (x z : α) (h : i < P.length) : (P.set i x).getD j z = if i = j then x else P.getD j z := by
  rw [List.getD_eq_getElem?_getD, List.getElem?_set]
  by_cases e : i = j
  · rw [if_pos e, if_pos e, if_pos h]; rfl
  · rw [if_neg e, if_neg e, ← List.getD_eq_getElem?_getD]
/-- Two places change. -/
def swp (z : α) (P : List α) (a b : Nat) : List α := (P.set a (P.getD b z)).set b (P.getD a z)
theorem swp_len (z : α) (P : List α) (a b : Nat) : (swp z P a b).length = P.length := by simp [swp]
theorem swp_at (z : α) {P : List α} {a b : Nat} (ha : a < P.length) (hb : b < P.length) (i : Nat) : (swp z P a b).getD i z = if b = i then P.getD a z else if a = i then P.getD b z else P.getD i z := by
  unfold swp
  rw [getD_set' _ _ _ _ _ (by simpa using hb), getD_set' _ _ _ _ _ ha]
theorem getD_get {P : List α} {i : Nat} (z : α) (h : i < P.length) : P.getD i z = P[i] := by simp [List.getD, h]
theorem swp_perm (z : α) {P : List α} {a b : Nat} (ha : a < P.length) (hb : b < P.length) : (swp z P a b).Perm P := by
  unfold swp
  rw [getD_get z ha, getD_get z hb]
  exact List.set_set_perm ha hb
/-- A heap from a place on. -/
def HQ (lt : α → α → Prop) (z : α) (P : List α) (s : Nat) : Prop := ∀ i, i < P.length → 0 < i → s ≤ (i - 1) / 2 → ¬ lt (P.getD i z) (P.getD ((i - 1) / 2) z)
/-- A heap from a place on, but for one that sinks. -/
structure HI (lt : α → α → Prop) (z : α) (P : List α) (s t : Nat) : Prop where
  i1 : ∀ i, i < P.length → 0 < i → s ≤ (i - 1) / 2 → (i - 1) / 2 ≠ t → ¬ lt (P.getD i z) (P.getD ((i - 1) / 2) z)
  i2 : s < t → s ≤ (t - 1) / 2 → ∀ c, c < P.length → 0 < c → (c - 1) / 2 = t → ¬ lt (P.getD c z) (P.getD ((t - 1) / 2) z)
  i3 : s ≤ t
theorem HI.start {lt : α → α → Prop} {z : α} {P : List α} {s : Nat} (h : HQ lt z P (s + 1)) : HI lt z P s s :=
  ⟨fun i h1 h2 h3 h4 => h i h1 h2 (by omega), fun h => absurd h (Nat.lt_irrefl _), Nat.le_refl _⟩
theorem HI.stop {lt : α → α → Prop} {z : α} {P : List α} {s t : Nat} (h : HI lt z P s t) (hc : ∀ c, c < P.length → 0 < c → (c - 1) / 2 = t → ¬ lt (P.getD c z) (P.getD t z)) : HQ lt z P s := by
  intro i h1 h2 h3
  by_cases e : (i - 1) / 2 = t
  · rw [e]; exact hc i h1 h2 e
  · exact h.i1 i h1 h2 h3 e
theorem HI.step {lt : α → α → Prop} {z : α} {P : List α} {s t b : Nat} (has : ∀ x y, lt x y → ¬ lt y x) (h : HI lt z P s t) (hb : b < P.length) (hbt : b = 2 * t + 1 ∨ b = 2 * t + 2)
    (hlt : lt (P.getD b z) (P.getD t z)) (hsib : ∀ c, c < P.length → (c = 2 * t + 1 ∨ c = 2 * t + 2) → c ≠ b → ¬ lt (P.getD c z) (P.getD b z)) : HI lt z (swp z P t b) s b := by
  have ht : t < P.length := by omega
  have h3 := h.i3
  refine ⟨fun i h1 h2 h3 h4 => ?_, fun _ _ c h1 h2 h3 => ?_, by omega⟩
  · rw [swp_len] at h1
    rw [swp_at z ht hb, swp_at z ht hb]
    by_cases e1 : b = i
    · subst e1
      rw [if_pos rfl, if_neg (by omega), if_pos (by omega)]
      exact has _ _ hlt
    · rw [if_neg e1]
      by_cases e2 : t = i
      · subst e2
        rw [if_pos rfl, if_neg (by omega), if_neg (by omega)]
        have h5 : s < t := by omega
        exact h.i2 h5 h3 b hb (by omega) (by omega)
      · rw [if_neg e2, if_neg (fun e => h4 e.symm)]
        by_cases e3 : t = (i - 1) / 2
        · rw [if_pos e3]
          exact hsib i h1 (by omega) (fun e => e1 e.symm)
        · rw [if_neg e3]
          exact h.i1 i h1 h2 h3 (fun e => e3 e.symm)
  · rw [swp_len] at h1
    rw [swp_at z ht hb, swp_at z ht hb, if_neg (by omega), if_neg (by omega), if_neg (by omega), if_pos (by omega)]
    have := h.i1 c h1 h2 (by omega) (by omega)
    rw [h3] at this
    exact this
theorem HQ.least {lt : α → α → Prop} {z : α} {P : List α} (h : HQ lt z P 0) (hir : ∀ x, ¬ lt x x) (htr : ∀ x y c, ¬ lt y x → ¬ lt c y → ¬ lt c x) : ∀ i, i < P.length → ¬ lt (P.getD i z) (P.getD 0 z) := by
  intro i
  induction i using Nat.strongRecOn with
  | _ i ih =>
    intro hi
    rcases Nat.eq_zero_or_pos i with rfl | h0
    · exact hir _
    · exact htr _ _ _ (ih ((i - 1) / 2) (by omega) (by omega)) (h i hi h0 (Nat.zero_le _))
end
end Go.Proofs.YthicmbjiblbcmaaGreat

/- Rows of entries, put together: what comes, as lists. -/
namespace Go.Proofs.YthicmbjiblbcmaaGreat

abbrev En := Ks × Ag
def agZ : Ag := ⟨0, false, 0, 0, 0⟩
def keysE (E : List En) : List Ks := E.map Prod.fst
/-- A key and the place of its row. -/
abbrev Kr := Ks × Nat
def ltT (x y : Kr) : Prop := ltK x.1 y.1 ∨ (x.1 = y.1 ∧ x.2 < y.2)
instance (x y : Kr) : Decidable (ltT x y) := inferInstanceAs (Decidable (_ ∨ _))
theorem ltT_irrefl (x : Kr) : ¬ ltT x x := by
  rintro (h | ⟨_, h⟩)
  · exact ltK_irrefl _ h
  · exact Nat.lt_irrefl _ h
theorem ltT_trans {x y z : Kr} (h1 : ltT x y) (h2 : ltT y z) : ltT x z := by
  rcases h1 with h1 | ⟨h1, h1'⟩
  · rcases h2 with h2 | ⟨h2, _⟩
    · exact .inl (ltK_trans h1 h2)
    · exact .inl (h2 ▸ h1)
  · rcases h2 with h2 | ⟨h2, h2'⟩
    · exact .inl (h1 ▸ h2)
    · exact .inr ⟨h1.trans h2, Nat.lt_trans h1' h2'⟩
theorem ltT_asymm {x y : Kr} (h : ltT x y) : ¬ ltT y x := fun h2 => ltT_irrefl _ (ltT_trans h h2)
theorem ltT_tri (x y : Kr) : ltT x y ∨ x = y ∨ ltT y x := by
  obtain ⟨a, m⟩ := x
  obtain ⟨b, n⟩ := y
  rcases ltK_tri a b with h | h | h
  · exact .inl (.inl h)
  · subst h
    rcases Nat.lt_trichotomy m n with h | h | h
    · exact .inl (.inr ⟨rfl, h⟩)
    · subst h; exact .inr (.inl rfl)
    · exact .inr (.inr (.inr ⟨rfl, h⟩))
  · exact .inr (.inr (.inl h))
theorem not_ltT {x y : Kr} : ¬ ltT x y ↔ x = y ∨ ltT y x := by
  constructor
  · intro h
    rcases ltT_tri x y with h1 | h1 | h1
    · exact absurd h1 h
    · exact .inl h1
    · exact .inr h1
  · rintro (rfl | h)
    · exact ltT_irrefl _
    · exact ltT_asymm h
theorem nltT_trans {x y c : Kr} (h1 : ¬ ltT y x) (h2 : ¬ ltT c y) : ¬ ltT c x := by
  rw [not_ltT] at *
  rcases h1 with rfl | h1
  · exact h2
  · rcases h2 with rfl | h2
    · exact .inr h1
    · exact .inr (ltT_trans h1 h2)
/-- An entry, and whose it is. -/
abbrev Tg := Kr × Ag
def ltG (x y : Tg) : Prop := ltT x.1 y.1
/-- What is left of a row, and its place. -/
abbrev Pa := List En × Nat
def hdT (p : Pa) : Kr := ((p.1.head?.map Prod.fst).getD [], p.2)
def ltP (p q : Pa) : Prop := ltT (hdT p) (hdT q)
def tagP (p : Pa) : List Tg := p.1.map fun e => ((e.1, p.2), e.2)
def tags (P : List Pa) : List Tg := P.flatMap tagP
structure GoodP (P : List Pa) : Prop where
  ne : ∀ p ∈ P, p.1 ≠ []
  so : ∀ p ∈ P, (keysE p.1).Pairwise ltK
  nd : (P.map Prod.snd).Nodup
theorem tags_perm {P Q : List Pa} (h : P.Perm Q) : (tags P).Perm (tags Q) := h.flatMap_right _
theorem GoodP.perm {P Q : List Pa} (h : GoodP P) (hp : Q.Perm P) : GoodP Q :=
  ⟨fun p hq => h.ne p (hp.mem_iff.1 hq), fun p hq => h.so p (hp.mem_iff.1 hq), (hp.map Prod.snd).nodup_iff.2 h.nd⟩
/-- Behind the least one stand all others. -/
theorem tags_rest {p : Pa} {P : List Pa} {e : En} {es : List En} (hg : GoodP (p :: P)) (hp : p.1 = e :: es) (hmin : ∀ q ∈ P, ¬ ltP q p) : ∀ t ∈ tags ((es, p.2) :: P), ltT (e.1, p.2) t.1 := by
  intro t ht
  obtain ⟨q, hq, ht⟩ := List.mem_flatMap.1 ht
  unfold tagP at ht
  obtain ⟨x, hx, rfl⟩ := List.mem_map.1 ht
  rcases List.mem_cons.1 hq with rfl | hq
  · have hs := hg.so p (List.mem_cons_self ..)
    rw [hp] at hs
    simp only [keysE, List.map_cons, List.pairwise_cons] at hs
    exact .inl (hs.1 x.1 (List.mem_map.2 ⟨x, hx, rfl⟩))
  · have hne := hg.ne q (List.mem_cons_of_mem _ hq)
    have hs := hg.so q (List.mem_cons_of_mem _ hq)
    have hm := hmin q hq
    obtain ⟨ys, n⟩ := q
    match ys, hne with
    | y :: ys, _ =>
      have h1 : hdT (y :: ys, n) = (y.1, n) := rfl
      have h2 : hdT p = (e.1, p.2) := by unfold hdT; rw [hp]; rfl
      unfold ltP at hm
      rw [h1, h2] at hm
      have hrow : p.2 ≠ n := by
        have hn := hg.nd
        simp only [List.map_cons, List.nodup_cons] at hn
        intro h
        exact hn.1 (h ▸ List.mem_map.2 ⟨_, hq, rfl⟩)
      have h3 : ltT (e.1, p.2) (y.1, n) := by
        rcases not_ltT.1 hm with h | h
        · exact absurd (congrArg Prod.snd h).symm hrow
        · exact h
      rcases List.mem_cons.1 hx with rfl | hx
      · exact h3
      · simp only [keysE, List.map_cons, List.pairwise_cons] at hs
        exact ltT_trans h3 (.inl (hs.1 x.1 (List.mem_map.2 ⟨x, hx, rfl⟩)))
def leG (x y : Tg) : Bool := decide (¬ ltT y.1 x.1)
def srtG (l : List Tg) : List Tg := l.mergeSort leG
theorem srtG_perm (l : List Tg) : (srtG l).Perm l := List.mergeSort_perm l leG
theorem leG_trans (a b c : Tg) (h1 : leG a b = true) (h2 : leG b c = true) : leG a c = true := by
  simp only [leG, decide_eq_true_eq] at *
  exact nltT_trans h1 h2
theorem leG_total (a b : Tg) : (leG a b || leG b a) = true := by
  simp only [leG, Bool.or_eq_true, decide_eq_true_eq]
  by_cases h : ltT b.1 a.1
  · exact .inr (ltT_asymm h)
  · exact .inl h
/-- No two are of one key and one row. -/
def dist (l : List Tg) : Prop := (l.map Prod.fst).Nodup
theorem dist.perm {l m : List Tg} (h : dist l) (hp : m.Perm l) : dist m := (hp.map Prod.fst).nodup_iff.2 h
theorem dist_pw : ∀ {l : List Tg}, l.Pairwise (fun a b => leG a b = true) → dist l → l.Pairwise ltG
  | [], _, _ => .nil
  | x :: l, h, hd => by
    rw [List.pairwise_cons] at h ⊢
    unfold dist at hd
    rw [List.map_cons, List.nodup_cons] at hd
    refine ⟨fun y hy => ?_, dist_pw h.2 hd.2⟩
    have h1 := h.1 y hy
    simp only [leG, decide_eq_true_eq] at h1
    rcases not_ltT.1 h1 with e | e
    · exact absurd (e ▸ List.mem_map.2 ⟨y, hy, rfl⟩) hd.1
    · exact e
theorem srtG_pw {l : List Tg} (h : dist l) : (srtG l).Pairwise ltG :=
  dist_pw (List.pairwise_mergeSort leG_trans leG_total l) (h.perm (srtG_perm l))
theorem pw_unique {l m : List Tg} (hl : l.Pairwise ltG) (hm : m.Pairwise ltG) (hp : l.Perm m) : l = m :=
  List.Perm.eq_of_pairwise (fun _ _ _ _ h1 h2 => absurd h2 (ltT_asymm h1)) hl hm hp
theorem pw_dist {l : List Tg} (h : l.Pairwise ltG) : dist l := by
  unfold dist
  rw [List.Nodup, List.pairwise_map]
  refine h.imp ?_
  intro a b hab e
  unfold ltG at hab
  rw [e] at hab
  exact ltT_irrefl _ hab
/-- What is told next. -/
theorem next_tag {p : Pa} {P : List Pa} {e : En} {es : List En} {T : List Tg} (hg : GoodP (p :: P)) (hp : p.1 = e :: es) (hmin : ∀ q ∈ P, ¬ ltP q p) (hT : T.Pairwise ltG) (hperm : T.Perm (tags (p :: P))) :
    ∃ T', T = ((e.1, p.2), e.2) :: T' ∧ T'.Pairwise ltG ∧ T'.Perm (tags ((es, p.2) :: P)) := by
  have h1 : tags (p :: P) = ((e.1, p.2), e.2) :: tags ((es, p.2) :: P) := by
    unfold tags
    rw [List.flatMap_cons, List.flatMap_cons]
    unfold tagP
    rw [hp]; rfl
  have hd : dist (tags (p :: P)) := (pw_dist hT).perm hperm.symm
  rw [h1] at hd
  have hd' : dist (tags ((es, p.2) :: P)) := by
    unfold dist at hd ⊢
    rw [List.map_cons, List.nodup_cons] at hd
    exact hd.2
  refine ⟨srtG (tags ((es, p.2) :: P)), ?_, srtG_pw hd', srtG_perm _⟩
  refine pw_unique hT ?_ (hperm.trans ?_)
  · rw [List.pairwise_cons]
    exact ⟨fun t ht => tags_rest hg hp hmin t ((srtG_perm _).mem_iff.1 ht), srtG_pw hd'⟩
  · rw [h1]; exact (srtG_perm _).symm.cons _
/-- Rows as parts, from a place on. -/
def partsF : Nat → List (List En) → List Pa
  | _, [] => []
  | i, r :: rs => if r = [] then partsF (i + 1) rs else (r, i) :: partsF (i + 1) rs
def tagsF : Nat → List (List En) → List Tg
  | _, [] => []
  | i, r :: rs => tagP (r, i) ++ tagsF (i + 1) rs
theorem tags_parts : ∀ (rs : List (List En)) (i : Nat), tags (partsF i rs) = tagsF i rs
  | [], _ => rfl
  | r :: rs, i => by
    unfold partsF tagsF
    by_cases h : r = []
    · rw [if_pos h, tags_parts rs (i + 1), h]; rfl
    · rw [if_neg h, ← tags_parts rs (i + 1)]; rfl
theorem parts_ge : ∀ (rs : List (List En)) (i : Nat), ∀ p ∈ partsF i rs, i ≤ p.2 ∧ p.1 ∈ rs ∧ p.1 ≠ [] ∧ p.2 < i + rs.length
  | [], _, p, h => by simp [partsF] at h
  | r :: rs, i, p, h => by
    unfold partsF at h
    by_cases e : r = []
    · rw [if_pos e] at h
      obtain ⟨h1, h2, h3, h4⟩ := parts_ge rs (i + 1) p h
      exact ⟨by omega, List.mem_cons_of_mem _ h2, h3, by simp; omega⟩
    · rw [if_neg e] at h
      rcases List.mem_cons.1 h with rfl | h
      · exact ⟨Nat.le_refl _, List.mem_cons_self .., e, by simp⟩
      · obtain ⟨h1, h2, h3, h4⟩ := parts_ge rs (i + 1) p h
        exact ⟨by omega, List.mem_cons_of_mem _ h2, h3, by simp; omega⟩
theorem parts_nd : ∀ (rs : List (List En)) (i : Nat), ((partsF i rs).map Prod.snd).Nodup
  | [], _ => List.nodup_nil
  | r :: rs, i => by
    unfold partsF
    by_cases e : r = []
    · rw [if_pos e]; exact parts_nd rs (i + 1)
    · rw [if_neg e, List.map_cons, List.nodup_cons]
      refine ⟨fun h => ?_, parts_nd rs (i + 1)⟩
      obtain ⟨p, hp, hpe⟩ := List.mem_map.1 h
      have := (parts_ge rs (i + 1) p hp).1
      simp only at hpe
      omega
/-- May entries be a row? -/
def rowF (L : List En) : Int := if ¬ (keysE L).Pairwise ltK then 50 else if L.all (fun x => rightB x.2) then 0 else 3
def rowsF : List (List En) → Int
  | [] => 0
  | r :: rs => if rowF r = 0 then rowsF rs else rowF r
theorem rowF_ok {L : List En} (h : rowF L = 0) : (keysE L).Pairwise ltK ∧ ∀ x ∈ L, rightB x.2 = true := by
  unfold rowF at h
  split at h
  · simp at h
  · rename_i h1
    split at h
    · rename_i h2
      exact ⟨Classical.not_not.1 h1, fun x hx => List.all_eq_true.1 h2 x hx⟩
    · simp at h
theorem rowF_of {L : List En} (h : (keysE L).Pairwise ltK) (h2 : ∀ x ∈ L, rightB x.2 = true) : rowF L = 0 := by
  unfold rowF
  rw [if_neg (fun hn => hn h), if_pos (List.all_eq_true.2 h2)]
theorem rowsF_ok : ∀ {rs : List (List En)}, rowsF rs = 0 ↔ ∀ r ∈ rs, rowF r = 0
  | [] => by simp [rowsF]
  | r :: rs => by
    unfold rowsF
    by_cases h : rowF r = 0
    · rw [if_pos h, rowsF_ok (rs := rs)]; simp [h]
    · rw [if_neg h]; simp [h]
theorem good_parts {rs : List (List En)} (h : rowsF rs = 0) (i : Nat) : GoodP (partsF i rs) :=
  ⟨fun p hp => (parts_ge rs i p hp).2.2.1, fun p hp => (rowF_ok (rowsF_ok.1 h _ (parts_ge rs i p hp).2.1)).1, parts_nd rs i⟩
theorem tagP_dist {r : List En} {i : Nat} (h : (keysE r).Pairwise ltK) : ((tagP (r, i)).map Prod.fst).Nodup := by
  unfold tagP
  rw [List.map_map, List.Nodup, List.pairwise_map]
  unfold keysE at h
  rw [List.pairwise_map] at h
  refine h.imp (fun {a b} hab e => ?_)
  have : a.1 = b.1 := congrArg (fun x : Kr => x.1) e
  exact ltK_ne hab this
theorem tags_ge : ∀ (rs : List (List En)) (i : Nat), ∀ t ∈ tagsF i rs, i ≤ t.1.2
  | [], _, t, h => by simp [tagsF] at h
  | r :: rs, i, t, h => by
    unfold tagsF at h
    rcases List.mem_append.1 h with h | h
    · unfold tagP at h
      obtain ⟨x, _, rfl⟩ := List.mem_map.1 h
      exact Nat.le_refl _
    · have := tags_ge rs (i + 1) t h; omega
theorem tags_dist : ∀ (rs : List (List En)) (i : Nat), (∀ r ∈ rs, (keysE r).Pairwise ltK) → dist (tagsF i rs)
  | [], _, _ => List.nodup_nil
  | r :: rs, i, h => by
    unfold dist tagsF
    rw [List.map_append, List.nodup_append]
    refine ⟨tagP_dist (h r (List.mem_cons_self ..)), tags_dist rs (i + 1) (fun x hx => h x (List.mem_cons_of_mem _ hx)), fun x hx y hy e => ?_⟩
    subst e
    obtain ⟨t, ht, rfl⟩ := List.mem_map.1 hx
    obtain ⟨u, hu, hue⟩ := List.mem_map.1 hy
    unfold tagP at ht
    obtain ⟨z, _, rfl⟩ := List.mem_map.1 ht
    have h1 := tags_ge rs (i + 1) u hu
    rw [hue] at h1
    simp only at h1
    omega
/-- All entries of all rows, in order. -/
def seqF (rs : List (List En)) : List Tg := srtG (tagsF 0 rs)
theorem seqF_pw {rs : List (List En)} (h : rowsF rs = 0) : (seqF rs).Pairwise ltG := srtG_pw (tags_dist rs 0 (fun r hr => (rowF_ok (rowsF_ok.1 h r hr)).1))
/-- One more entry. -/
def addG (E : List En) (t : Tg) : List En := match E.getLast? with
  | none => [(t.1.1, t.2)]
  | some l => if l.1 = t.1.1 then E.dropLast ++ [(l.1, mrg l.2 t.2)] else E ++ [(t.1.1, t.2)]
def grpG (T : List Tg) : List En := T.foldl addG []
/-- All rows together. -/
def allF (rs : List (List En)) : List En := grpG (seqF rs)
end Go.Proofs.YthicmbjiblbcmaaGreat
