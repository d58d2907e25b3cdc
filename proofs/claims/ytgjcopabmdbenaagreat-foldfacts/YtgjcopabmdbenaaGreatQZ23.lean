/- MG12 MG13 MG14 MG15 MG16, joined. -/
import Derived.Test.YtgjcopabmdbenaaGreatQZ4
import Derived.Test.YtgjcopabmdbenaaGreatQZ14
import Derived.Deep.LoopGhost
import Derived.Lib.SmallJoins
/- The contract of All. -/
namespace Go.Proofs.YtgjcopabmdbenaaGreat
open Go.RowKit

def AlPost (rs : List (List En)) (w : World) (e : Ending) (w' : World) : Prop :=
  Below w.heap.size w w' ∧ ((rowsF rs ≠ 0 ∧ e = .returned (.tuple #[.slice none 0 0, .int .i64 (rowsF rs)])) ∨ (rowsF rs = 0 ∧ ∃ v xs, e = .returned (.tuple #[v, .int .i64 0]) ∧ EOwn w' w.heap.size v xs ∧ xs.map evE = allF rs ∧ ∀ x ∈ xs, CnOk x.a))
theorem rReads_cn {w : World} {v : Value} {rs : List (List En)} (h : RReads w v rs) : ∀ r ∈ rs, ∀ x ∈ r, CnOk x.2 := by
  obtain ⟨a, cap, rfl, h1, h2, h3⟩ := h
  intro r hr
  rcases h3 with rfl | ⟨b, off, _, _, h6⟩
  · cases hr
  · obtain ⟨j, hj, rfl⟩ := List.getElem_of_mem hr
    obtain ⟨ev, _, h7⟩ := h6 j hj
    exact h7.ok
end Go.Proofs.YtgjcopabmdbenaaGreat

/- The steps of the loop of All, in memory. -/
namespace Go.Proofs.YtgjcopabmdbenaaGreat
open Go.RowKit

theorem cur7 {cur : Array Value} {vs : List Value} (hs : cur.size = vs.length) (h : ∀ i (hi : i < vs.length), cur[0 + i]? = some vs[i]) : cur = vs.toArray := by
  apply Array.ext
  · simpa using hs
  · intro i h1 h2
    have hi : i < vs.length := by simpa using h2
    have := h i hi
    rw [Nat.zero_add, Array.getElem?_eq_getElem h1] at this
    simpa using this
theorem news7 (w : World) (vs : List Value) {t : TypeId} : ∀ j u, vs[j]? = some u → (w.alloc (.cells vs.toArray t)).cell? ((⟨w.heap.size, 0, none⟩ : Addr).add j) = some u := by
  intro j u hj
  have ea : (⟨w.heap.size, 0, none⟩ : Addr).add j = ⟨w.heap.size, j, none⟩ := by simp [Addr.add]; omega
  rw [ea, Go.Joins.cell_of_block (heap_alloc_new _ _)]
  simpa using hj
theorem one7 (x : Ev) (h : x.kv.oneCell' = true) : ∀ u ∈ c7 x, u.oneCell' = true := by
  intro u hu
  simp only [c7, List.mem_cons, List.not_mem_nil, or_false] at hu
  rcases hu with rfl | rfl | rfl | rfl | rfl | rfl | rfl
  · exact h
  all_goals rfl
theorem stop_app {ops : Array Oper} {rest : List Oper} {op : Oper} {a : Act} {w : World} {Q : Exit → Act → World → Prop} (s x : Operand) (t : TypeId) (_ho : op.op = .call { callee := .builtin .append, args := #[s, x], argTypes := #[t, t] }) (h : Stop (wpList Tryz.prog ops Q (op :: rest) a w)) : wpList Tryz.prog ops Q (op :: rest) a w := h.out
theorem row_form {w : World} {base sz n : Nat} {e : TypeId} {v : Value} {xs : List Value} (h : w.ownsRow base e sz v n xs) : ∃ a cap, v = .slice a n cap := by
  rcases h.2 with ⟨h1, h2⟩ | ⟨g, cap, cur, hv, _⟩
  · exact ⟨none, 0, by rw [h1, h2]⟩
  · exact ⟨_, cap, hv⟩
end Go.Proofs.YtgjcopabmdbenaaGreat

/- The contract of All. -/
namespace Go.Proofs.YtgjcopabmdbenaaGreat
open Go.RowKit

end Go.Proofs.YtgjcopabmdbenaaGreat

/- What the fixed calls of layer 14's 'alive' come to. -/
namespace Go.Proofs.YtgjcopabmdbenaaGreat
open Go.RowKit Go.Joins

def ag1 : Ag := ⟨1, false, 0, 0, 0⟩
theorem cn1 : CnOk ag1 := ⟨by decide, by decide⟩
/-- What is kept from one operation of a region to the next. -/
structure Rm (w w' : World) : Prop where
  s : w.heap.size ≤ w'.heap.size
  c : ∀ a v, w.cell? a = some v → w'.cell? a = some v
  h : ∀ g s, w.shape? g = some s → w'.shape? g = some s
theorem Rm.of_below {w w' : World} (h : Below w.heap.size w w') : Rm w w' := ⟨h.size, fun _ _ q => (h.cell (cell_block q).1).trans q, fun g s q => by
  have hl : g < w.heap.size := by
    rcases Nat.lt_or_ge g w.heap.size with h' | h'
    · exact h'
    · unfold World.shape? at q; rw [Array.getElem?_eq_none h'] at q; cases q
  unfold World.shape? at q ⊢
  rw [h.block g hl]; exact q⟩
theorem Reads.rm {w w' : World} {v : Value} {l : List UInt8} (h : Reads w v l) (r : Rm w w') : Reads w' v l := by
  rcases h with h | ⟨b, off, cap, h1, h2, h3, h4, h5, h6⟩
  · exact .inl h
  · exact .inr ⟨b, off, cap, h1, h2, h3, h4, Nat.lt_of_lt_of_le h5 r.s, fun j hj => r.c _ _ (h6 j hj)⟩
theorem EReads.rm {w w' : World} {v : Value} {L : List En} (h : EReads w v L) (r : Rm w w') : EReads w' v L := by
  obtain ⟨a, cap, rfl, h1, h2, h3⟩ := h
  refine ⟨a, cap, rfl, h1, h2, ?_⟩
  rcases h3 with h3 | ⟨b, off, h4, h5, h6⟩
  · exact .inl h3
  · refine .inr ⟨b, off, h4, Nat.lt_of_lt_of_le h5 r.s, fun j hj => ?_⟩
    obtain ⟨kv, g1, g2, g3⟩ := h6 j hj
    exact ⟨kv, fun i hi => r.c _ _ (g1 i hi), g2.rm r, g3⟩
/-- What an operation yields. -/
inductive Sp
  | raw (x : UInt8)
  | byt (x : UInt8)
  | agg
  | ent (x : UInt8)
  | row (x y : UInt8)
def spOk (n0 : Nat) : Sp → Value → World → Prop
  | .raw x, v, w => ∃ g, v = .slice (some ⟨g, 0, none⟩) 1 1 ∧ n0 ≤ g ∧ w.shape? g = some (5, 1) ∧ w.cell? ⟨g, 0, none⟩ = some (bc x)
  | .byt x, v, w => ∃ g, v = .slice (some ⟨g, 0, none⟩) 1 1 ∧ Reads w v [x]
  | .agg, v, _ => v = .agg #[.int .u64 1, .bool false, .int .i64 0, .int .u64 0, .int .i64 0, .int .i64 0]
  | .ent x, v, w => ∃ g, v = .agg #[.slice (some ⟨g, 0, none⟩) 1 1, .int .u64 1, .bool false, .int .i64 0, .int .u64 0, .int .i64 0, .int .i64 0] ∧ Reads w (.slice (some ⟨g, 0, none⟩) 1 1) [x]
  | .row x y, v, w => ∃ g, v = .slice (some ⟨g, 0, none⟩) 2 2 ∧ EReads w v [([x], ag1), ([y], ag1)]
theorem spOk.rm {n0 : Nat} (s : Sp) (v : Value) (w w' : World) (r : Rm w w') (h : spOk n0 s v w) : spOk n0 s v w' := by
  cases s with
  | raw x => obtain ⟨g, h1, h2, h3, h4⟩ := h; exact ⟨g, h1, h2, r.h _ _ h3, r.c _ _ h4⟩
  | byt x => obtain ⟨g, h1, h2⟩ := h; exact ⟨g, h1, h2.rm r⟩
  | agg => exact h
  | ent x => obtain ⟨g, h1, h2⟩ := h; exact ⟨g, h1, h2.rm r⟩
  | row x y => obtain ⟨g, h1, h2⟩ := h; exact ⟨g, h1, h2.rm r⟩
def frz : Obj → Obj
  | .cells c e (lo, hi) => .cells c e (if (lo == hi) = true then (1, 2) else (min lo 1, max hi 2))
  | o => o
theorem freeze_heap (w : World) (g k : Nat) : (w.freeze ⟨g, 1, none⟩ 1).heap[k]? = if g = k then (w.heap[k]?).map frz else w.heap[k]? := by
  unfold World.freeze
  rw [if_neg (by decide)]
  show (w.heap.modify g _)[k]? = _
  rw [Array.getElem?_modify]
  rfl
/-- The mark of a constant text's bytes. -/
theorem run_mark {w : World} {g : Nat} (h : w.shape? g = some (5, 1)) : ∃ w', (convert 44 44 (.slice (some ⟨g, 0, none⟩) 1 1)).run Tryz.prog w = .ok (.slice (some ⟨g, 0, none⟩) 1 1) w' ∧ Rm w w' ∧ ∀ B, B ≤ g → Below B w w' := by
  refine ⟨w.freeze ⟨g, 1, none⟩ 1, ?_, ?_, ?_⟩
  · simp [convert, run_underlying Tryz.underlying44, run_underlying Tryz.underlying5, markStringish, h]
  · refine ⟨by simp [World.freeze], fun a v q => ?_, fun k s q => ?_⟩
    · unfold World.cell? at q ⊢
      rw [freeze_heap]
      cases hk : w.heap[a.block]? with
      | none => rw [hk] at q; cases q
      | some o =>
        rw [hk] at q
        by_cases e : g = a.block
        · rw [if_pos e]
          cases o with
          | cells c el fr =>
            obtain ⟨f1, f2⟩ := fr
            exact q
          | _ => cases q
        · rw [if_neg e]; exact q
    · unfold World.shape? at q ⊢
      rw [freeze_heap]
      cases hk : w.heap[k]? with
      | none => rw [hk] at q; cases q
      | some o =>
        rw [hk] at q
        by_cases e : g = k
        · rw [if_pos e]
          cases o with
          | cells c el fr =>
            obtain ⟨f1, f2⟩ := fr
            exact q
          | _ => cases q
        · rw [if_neg e]; exact q
  · intro B hB
    exact ⟨rfl, rfl, rfl, by simp [World.freeze], fun k hk => by rw [freeze_heap, if_neg (by omega)]⟩
theorem two_rows (w : World) (kv kv' : Value) (x y : UInt8) (h : Reads w kv [x]) (h' : Reads w kv' [y]) : EReads (w.alloc (.cells #[kv, .int .u64 1, .bool false, .int .i64 0, .int .u64 0, .int .i64 0, .int .i64 0, kv', .int .u64 1, .bool false, .int .i64 0, .int .u64 0, .int .i64 0, .int .i64 0] 46)) (.slice (some ⟨w.heap.size, 0, none⟩) 2 2) [([x], ag1), ([y], ag1)] := by
  have hb := (Below.refl w.heap.size w).alloc (Nat.le_refl _) (.cells #[kv, .int .u64 1, .bool false, .int .i64 0, .int .u64 0, .int .i64 0, .int .i64 0, kv', .int .u64 1, .bool false, .int .i64 0, .int .u64 0, .int .i64 0, .int .i64 0] 46)
  refine ⟨_, 2, rfl, by simp, by simp [maxLen], .inr ⟨w.heap.size, 0, rfl, by simp, fun j hj => ?_⟩⟩
  have hj2 : j < 2 := hj
  match j, hj2 with
  | 0, _ =>
    refine ⟨kv, fun i hi => ?_, h.below hb, cn1⟩
    rw [cell_of_block (heap_alloc_new _ _)]
    match i, hi with
    | 0, _ | 1, _ | 2, _ | 3, _ | 4, _ | 5, _ | 6, _ => rfl
  | 1, _ =>
    refine ⟨kv', fun i hi => ?_, h'.below hb, cn1⟩
    rw [cell_of_block (heap_alloc_new _ _)]
    match i, hi with
    | 0, _ | 1, _ | 2, _ | 3, _ | 4, _ | 5, _ | 6, _ => rfl
def alS : List Sp := [.raw 97, .byt 97, .agg, .ent 97, .raw 99, .byt 99, .agg, .ent 99, .row 97 99, .raw 98, .byt 98, .agg, .ent 98, .raw 99, .byt 99, .agg, .ent 99, .row 98 99, .row 97 99, .row 98 99]
/-- The rows of 'alive'. -/
def alR : List (List En) := [[([97], ag1), ([99], ag1)], [([98], ag1), ([99], ag1)]]
theorem alR_ok : rowsF alR = 0 := by decide
theorem alR_len : ∀ r ∈ alR, r.length ≤ 100000 := by decide
theorem alR_key : ∀ r ∈ alR, ∀ x ∈ r, x.1.length ≤ 100000 := by
  intro r hr x hx
  simp only [alR, List.mem_cons, List.not_mem_nil, or_false] at hr
  rcases hr with rfl | rfl <;> (simp only [List.mem_cons, List.not_mem_nil, or_false] at hx; rcases hx with rfl | rfl <;> decide)
theorem alR_seq : seqF alR = [(([97], 0), ag1), (([98], 1), ag1), (([99], 0), ag1), (([99], 1), ag1)] := by
  refine pw_unique (seqF_pw alR_ok) ?_ ((srtG_perm _).trans ?_)
  · simp only [List.pairwise_cons, List.Pairwise.nil, List.mem_cons, List.not_mem_nil, or_false, and_true]
    unfold ltG
    refine ⟨?_, ?_, ?_, ?_⟩
    · rintro a (rfl | rfl | rfl) <;> decide
    · rintro a (rfl | rfl) <;> decide
    · rintro a rfl; decide
    · intro a h; cases h
  · exact List.Perm.cons _ (List.Perm.swap _ _ _)
theorem alR_all : allF alR = [([97], ag1), ([98], ag1), ([99], mrg ag1 ag1)] := by unfold allF; rw [alR_seq]; rfl
theorem three_of {α : Type} : ∀ {xs : List α}, xs.length = 3 → ∃ a b c, xs = [a, b, c]
  | [a, b, c], _ => ⟨a, b, c, rfl⟩
theorem two_lists {w : World} {a b : Value} {L M : List En} (ha : EReads w a L) (hb : EReads w b M) : RReads (w.alloc (.cells #[a, b] 28)) (.slice (some ⟨w.heap.size, 0, none⟩) 2 2) [L, M] := by
  have hbl := (Below.refl w.heap.size w).alloc (Nat.le_refl _) (.cells #[a, b] 28)
  refine ⟨_, 2, rfl, by simp, by simp [maxLen], .inr ⟨w.heap.size, 0, rfl, by simp, fun j hj => ?_⟩⟩
  have hj2 : j < 2 := hj
  match j, hj2 with
  | 0, _ => exact ⟨a, by rw [cell_of_block (heap_alloc_new _ _)]; rfl, ha.below hbl⟩
  | 1, _ => exact ⟨b, by rw [cell_of_block (heap_alloc_new _ _)]; rfl, hb.below hbl⟩
theorem one_list {w : World} {a : Value} {L : List En} (ha : EReads w a L) : RReads (w.alloc (.cells #[a] 28)) (.slice (some ⟨w.heap.size, 0, none⟩) 1 1) [L] := by
  have hbl := (Below.refl w.heap.size w).alloc (Nat.le_refl _) (.cells #[a] 28)
  refine ⟨_, 1, rfl, by simp, by simp [maxLen], .inr ⟨w.heap.size, 0, rfl, by simp, fun j hj => ?_⟩⟩
  have hj2 : j < 1 := hj
  match j, hj2 with
  | 0, _ => exact ⟨a, by rw [cell_of_block (heap_alloc_new _ _)]; rfl, ha.below hbl⟩
/-- Those that are none. -/
def alN : List (List En) := [[([99], ag1), ([97], ag1)]]
theorem alN_bad : rowsF alN = 50 := by decide
theorem alN_len : ∀ r ∈ alN, r.length ≤ 100000 := by decide
theorem alN_key : ∀ r ∈ alN, ∀ x ∈ r, x.1.length ≤ 100000 := by
  intro r hr x hx
  simp only [alN, List.mem_cons, List.not_mem_nil, or_false] at hr
  subst hr
  simp only [List.mem_cons, List.not_mem_nil, or_false] at hx
  rcases hx with rfl | rfl <;> decide
def alV (n0 : Nat) (j : Nat) (v : Value) (w : World) : Prop := spOk n0 (alS.getD j .agg) v w
end Go.Proofs.YtgjcopabmdbenaaGreat

/- The contract of Great. -/
namespace Go.Proofs.YtgjcopabmdbenaaGreat
open Go.RowKit

def okRow (r : List En) : Prop := r.length ≤ 60 ∧ ∀ x ∈ r, x.1.length ≤ 300
def GtPost (rs : List (List En)) (w : World) (e : Ending) (w' : World) : Prop := ∃ g : Bool, e = .returned (.bool g) ∧ (g = false → rs.length ≤ 20 ∧ ∀ r ∈ rs, okRow r) ∧ w' = w
theorem eReads_key {w : World} {a : Option Addr} {n cap : Nat} {L : List En} (h : EReads w (.slice a n cap) L) {k : Nat} (hk : k < L.length) : ∃ b off sa sc, a = some ⟨b, off, none⟩ ∧ w.cell? ⟨b, off + k * 7, none⟩ = some (.slice sa L[k].1.length sc) := by
  obtain ⟨b, off, cap', hv, _⟩ := eReads_some h (by omega)
  simp at hv
  obtain ⟨rfl, rfl, rfl⟩ := hv
  obtain ⟨kv, hc, hr, _⟩ := eReads_at h hk rfl
  obtain ⟨sa, sc, rfl, _⟩ := hr.form
  exact ⟨b, off, sa, sc, rfl, hc 0 (by decide)⟩
end Go.Proofs.YtgjcopabmdbenaaGreat
