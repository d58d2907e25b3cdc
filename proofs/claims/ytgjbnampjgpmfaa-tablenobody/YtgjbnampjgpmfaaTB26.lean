/- TN9 TN7 SS TN8, joined. -/
import Derived.Test.YtgjbnampjgpmfaaTB2
import Derived.Test.YtgjbnampjgpmfaaTB25
import Derived.Lib.SmallJoins
import Derived.Deep.MidRow
import Derived.Below
/- The mark of a constant text. -/
namespace Go.Proofs.Ytgjbnampjgpmfaa
open Go.RowKit

/-- What is kept from one operation of a region to the next. -/
structure Rm (w w' : World) : Prop where
  s : w.heap.size ≤ w'.heap.size
  c : ∀ a v, w.cell? a = some v → w'.cell? a = some v
  h : ∀ g s, w.shape? g = some s → w'.shape? g = some s
theorem Reads.rm {w w' : World} {v : Value} {l : List UInt8} (h : Reads w v l) (r : Rm w w') : Reads w' v l := by
  rcases h with h | ⟨b, off, cap, h1, h2, h3, h4, h5, h6⟩
  · exact .inl h
  · exact .inr ⟨b, off, cap, h1, h2, h3, h4, Nat.lt_of_lt_of_le h5 r.s, fun j hj => r.c _ _ (h6 j hj)⟩
def frz : Obj → Obj
  | .cells c e (lo, hi) => .cells c e (if (lo == hi) = true then (1, 2) else (min lo 1, max hi 2))
  | o => o
theorem freeze_heap (w : World) (g k : Nat) : (w.freeze ⟨g, 1, none⟩ 1).heap[k]? = if g = k then (w.heap[k]?).map frz else w.heap[k]? := by
  unfold World.freeze
  rw [if_neg (by decide)]
  show (w.heap.modify g _)[k]? = _
  rw [Array.getElem?_modify]
  rfl
/-- The mark of a constant text's bytes. -/
theorem run_mark {w : World} {g : Nat} (h : w.shape? g = some (5, 1)) : ∃ w', (convert 22 22 (.slice (some ⟨g, 0, none⟩) 1 1)).run Try.prog w = .ok (.slice (some ⟨g, 0, none⟩) 1 1) w' ∧ Rm w w' ∧ ∀ B, B ≤ g → Below B w w' := by
  refine ⟨w.freeze ⟨g, 1, none⟩ 1, ?_, ?_, ?_⟩
  · simp [convert, run_underlying Try.underlying22, run_underlying Try.underlying5, markStringish, h]
  · refine ⟨by simp [World.freeze], fun a v q => ?_, fun k s q => ?_⟩
    · unfold World.cell? at q ⊢
      rw [freeze_heap]
      cases hk : w.heap[a.block]? with
      | none => rw [hk] at q; cases q
      | some o =>
        rw [hk] at q
        by_cases e : g = a.block
        · rw [if_pos e]
          cases o with
          | cells c el fr =>
            obtain ⟨f1, f2⟩ := fr
            exact q
          | _ => cases q
        · rw [if_neg e]; exact q
    · unfold World.shape? at q ⊢
      rw [freeze_heap]
      cases hk : w.heap[k]? with
      | none => rw [hk] at q; cases q
      | some o =>
        rw [hk] at q
        by_cases e : g = k
        · rw [if_pos e]
          cases o with
          | cells c el fr =>
            obtain ⟨f1, f2⟩ := fr
            exact q
          | _ => cases q
        · rw [if_neg e]; exact q
  · intro B hB
    exact ⟨rfl, rfl, rfl, by simp [World.freeze], fun k hk => by rw [freeze_heap, if_neg (by omega)]⟩
end Go.Proofs.Ytgjbnampjgpmfaa

/- law10's alive. -/
namespace Go.Proofs.Ytgjbnampjgpmfaa
open Go.RowKit

theorem reads_97 (w : World) : Reads (w.alloc (.cells #[.int .u8 97] 5)) (.slice (some ⟨w.heap.size, 0, none⟩) 1 1) [97] :=
  .inr ⟨w.heap.size, 0, 1, rfl, by simp, by simp, by simp [maxLen], by simp, fun j hj => by
    have : j = 0 := by simp at hj; omega
    subst this
    exact cell_rw (heap_alloc_new w _) 0 (by simp)⟩
set_option maxRecDepth 100000 in
set_option maxHeartbeats 2000000 in
theorem alive10_any (w : World) : Calls Try.prog 6 #[] w fun e w' => e = .returned (.bool true) ∧ Below w.heap.size w w' := by
  go_enter Try.func6, Try.ntmps6
  go_wp2_with fail
  refine (twrite_nil w).mono ?_
  rintro e w1 ⟨v1, rfl, ho1, hb1⟩
  have HB1 : Hid (Below w.heap.size w w1) := hb1
  have hOp := topen_e42 v1 w1 ho1.reads
  obtain ⟨a1, c1, hv1, _⟩ := ho1.form
  subst hv1
  have e4 : (frm [] ++ frm [6, 0] ++ frm [0, 0, 0, 0, 0, 0, 0, 0, 0, 0, 0, 0, 0, 0, 0, 0]).length = 42 := e42_len
  rw [e4] at hOp ⊢
  have HOp : Hid (Calls Try.prog 15 #[.slice a1 42 c1] w1 _) := hOp
  clear ho1 hb1 hOp e4
  go_wp2_with fail
  refine HOp.out.mono ?_
  clear HOp
  rintro e w2 ⟨B, fv, rfl, hte, hb2⟩
  have HT2 : Hid (TE w2 B fv) := hte
  have HB2 : Hid (Below w.heap.size w w2) := HB1.out.trans (hb2.mono HB1.out.size)
  clear hte hb2
  go_wp2_with fail
  refine (topen_nil w2).mono ?_
  rintro e w3 ⟨rfl, hb3⟩
  have HB3 : Hid (Below w.heap.size w w3) := HB2.out.trans (hb3.mono HB2.out.size)
  have HT3 : Hid (TE w3 B fv) := HT2.out.below hb3
  clear hb3
  go_wp2_with fail
  refine (tlen_te HT3.out).mono ?_
  rintro e w4 ⟨rfl, rfl⟩
  obtain ⟨wm, hcv, hrm, hbl⟩ := run_mark (w := w4.alloc (.cells #[.int .u8 97] 5)) (g := w4.heap.size) (by unfold World.shape?; rw [heap_alloc_new]; rfl)
  have HBm : Hid (Below w4.heap.size w4 wm) := ((Below.refl _ _).alloc (Nat.le_refl _) _).trans (hbl _ (Nat.le_refl _))
  have HMy : Hid (Calls Try.prog 9 #[.pointer (some ⟨B, 0, none⟩), .slice (some ⟨w4.heap.size, 0, none⟩) 1 1] wm _) := tmay_te (HT3.out.below HBm.out) _ [97] ((reads_97 w4).rm hrm) my_a
  clear hrm hbl
  go_wp2_with fail
  refine HMy.out.mono ?_
  rintro e w5 ⟨rfl, hb5⟩
  have HB5 : Hid (Below w.heap.size w w5) := (HB3.out.trans (HBm.out.mono HB3.out.size)).trans (hb5.mono (Nat.le_trans HB3.out.size HBm.out.size))
  clear hb5 HMy
  go_wp2_with fail
  go_ret
  exact ⟨rfl, HB5.out⟩
end Go.Proofs.Ytgjbnampjgpmfaa

/- A struct is stored: the world behind it, by name. -/
namespace Go.Proofs.Ytgjbnampjgpmfaa
open Go.RowKit

/-- W is w, but for some cells of one block. -/
structure StW (w W : World) (g off : Nat) (cur : Array Value) (T : TypeId) (vs : List Value) : Prop where
  b : ∀ lo, lo ≤ g → Below lo w W
  o : ∀ k, k ≠ g → W.heap[k]? = w.heap[k]?
  c : ∃ cur', W.heap[g]? = some (.cells cur' T) ∧ cur'.size = cur.size ∧ (∀ k, k < off ∨ off + vs.length ≤ k → cur'[k]? = cur[k]?) ∧ ∀ i (hi : i < vs.length), cur'[off + i]? = some vs[i]
theorem stW_cells (g : Nat) (T : TypeId) : ∀ (vs : List Value) (off : Nat) (w : World) (cur : Array Value), w.heap[g]? = some (.cells cur T) → off + vs.length ≤ cur.size → StW w (w.setCells g off vs) g off cur T vs
  | [], off, w, cur, hg, _ => ⟨fun lo _ => Below.refl _ _, fun _ _ => rfl, ⟨cur, hg, rfl, fun _ _ => rfl, fun i hi => by simp at hi⟩⟩
  | v :: r, off, w, cur, hg, hl => by
    have h1 := heap_setCell_same w g off cur T v hg
    have ih := stW_cells g T r (off + 1) (w.setCell ⟨g, off, none⟩ v) (cur.setIfInBounds off v) h1 (by simp at hl ⊢; omega)
    have e : w.setCells g off (v :: r) = (w.setCell ⟨g, off, none⟩ v).setCells g (off + 1) r := rfl
    rw [e]
    obtain ⟨cur', c1, c2, c3, c4⟩ := ih.c
    refine ⟨fun lo hlo => ((Below.refl _ _).setCell hlo _).trans (ih.b lo hlo), fun k hk => (ih.o k hk).trans (Below.heap_setCell _ _ _ _ hk), ⟨cur', c1, by simpa using c2, fun k hk => ?_, fun i hi => ?_⟩⟩
    · simp at hk
      rw [c3 k (by omega), Array.getElem?_setIfInBounds_ne (by omega)]
    · cases i with
      | zero =>
        have hs : off < cur.size := by simp at hl; omega
        rw [Nat.add_zero, c3 off (.inl (by omega))]
        simp [hs]
      | succ i =>
        have := c4 i (by simpa using hi)
        rw [show off + (i + 1) = off + 1 + i by omega, this]
        simp
section
variable {ops : Array Oper} {rest : List Oper} {op : Oper} {a : Act} {w : World} {Q : Exit → Act → World → Prop}
theorem there_of {g off n : Nat} {cur : Array Value} {T : TypeId} (hg : w.heap[g]? = some (.cells cur T)) (hl : off + n ≤ cur.size) : w.there g off n := fun j hj => ⟨by
  have : off + j < cur.size := by omega
  simp [World.cell?, hg, this], by simp [World.frozen?, hg]⟩
theorem wp_storeN {K : Act → World → Prop} (ty : TypeId) (x y : Operand) (ho : op.op = .store ty x y) (g off : Nat) (vs : List Value) (hx : a.eval x = .pointer (some ⟨g, off, none⟩)) (hy : a.eval y = .agg vs.toArray)
    (cur : Array Value) (T : TypeId) (hg : w.heap[g]? = some (.cells cur T)) (hl : off + vs.length ≤ cur.size) (hi : (Try.prog.info? ty).map (·.size) = some vs.length) (h1 : vs.toArray.all (·.oneCell') = true)
    (h : ∀ W, StW w W g off cur T vs → K (a.put op.dst undef) W) : op.wp Try.prog a w K Q :=
  wp_store_mid ty x y ho g off vs.toArray hx hy (there_of hg (by simpa using hl)) (by simpa using hi) h1 (h _ (stW_cells g T vs off w cur hg hl))
theorem wpList_storeN (hgd : op.guard = none) (ty : TypeId) (x y : Operand) (ho : op.op = .store ty x y) (g off : Nat) (vs : List Value) (hx : a.eval x = .pointer (some ⟨g, off, none⟩)) (hy : a.eval y = .agg vs.toArray)
    (cur : Array Value) (T : TypeId) (hg : w.heap[g]? = some (.cells cur T)) (hl : off + vs.length ≤ cur.size) (hi : (Try.prog.info? ty).map (·.size) = some vs.length) (h1 : vs.toArray.all (·.oneCell') = true)
    (h : ∀ W, StW w W g off cur T vs → wpList Try.prog ops Q rest (a.put op.dst undef) W) : wpList Try.prog ops Q (op :: rest) a w :=
  wpList_plain hgd fun _ hK => wp_storeN ty x y ho g off vs hx hy cur T hg hl hi h1 (fun W hW => hK _ _ (h W hW))
/-- The walk stands still here. -/
structure Stop (p : Prop) : Prop where
  out : p
theorem stop_store (ty : TypeId) (x y : Operand) (_ho : op.op = .store ty x y) (h : Stop (wpList Try.prog ops Q (op :: rest) a w)) : wpList Try.prog ops Q (op :: rest) a w := h.out
theorem Stop.of {p : Prop} (h : p) : Stop p := ⟨h⟩
end
end Go.Proofs.Ytgjbnampjgpmfaa

/- Stores into what is new. -/
namespace Go.Proofs.Ytgjbnampjgpmfaa
open Go.RowKit

theorem stW_nw {w W : World} {b0 : Array Value} {T : TypeId} {vs : List Value} (h : StW (w.alloc (.cells b0 T)) W w.heap.size 0 b0 T vs) (hb : b0.size = vs.length) : Below w.heap.size w W ∧ W.heap[w.heap.size]? = some (.cells vs.toArray T) ∧ w.heap.size < W.heap.size := by
  have hbl : Below w.heap.size w W := ((Below.refl _ _).alloc (Nat.le_refl _) _).trans (h.b _ (Nat.le_refl _))
  obtain ⟨cur, h1, h2, _, h4⟩ := h.c
  have e : cur = vs.toArray := by
    apply Array.ext (by simp; omega)
    intro i hi hj
    have := h4 i (by simpa using hj)
    rw [Nat.zero_add, Array.getElem?_eq_getElem hi] at this
    simpa using this
  rw [e] at h1
  exact ⟨hbl, h1, (Array.getElem?_eq_some_iff.1 h1).1⟩
end Go.Proofs.Ytgjbnampjgpmfaa
