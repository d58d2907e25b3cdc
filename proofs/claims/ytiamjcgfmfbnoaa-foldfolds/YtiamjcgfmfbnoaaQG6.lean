/- MG4 SS MG5 MG6, joined. -/
import Derived.Test.YtiamjcgfmfbnoaaQG3
import Derived.Test.YtiamjcgfmfbnoaaQG5
import Derived.Deep.MidRow
/- A part sinks. -/
namespace Go.Proofs.Ytiamjcgfmfbnoaa
open Go.RowKit

/-- What calls on a heap leave alone: what lies below, what was made behind it, and all bytes. -/
structure Fr (lo hh : Nat) (A B : World) : Prop where
  b : Below lo A B
  h : ∀ k, hh ≤ k → k < A.heap.size → B.heap[k]? = A.heap[k]?
  u : ∀ (k : Nat) (cs : Array Value) (fr : Nat × Nat), A.heap[k]? = some (Obj.cells cs 5 fr) → B.heap[k]? = some (Obj.cells cs 5 fr)
theorem Fr.refl (lo hh : Nat) (A : World) : Fr lo hh A A := ⟨Below.refl _ _, fun _ _ _ => rfl, fun _ _ _ h => h⟩
theorem Fr.trans {lo hh : Nat} {A B C : World} (h : Fr lo hh A B) (k : Fr lo hh B C) : Fr lo hh A C :=
  ⟨h.b.trans k.b, fun i h1 h2 => (k.h i h1 (Nat.lt_of_lt_of_le h2 h.b.size)).trans (h.h i h1 h2), fun i cs fr q => k.u i cs fr (h.u i cs fr q)⟩
theorem Fr.of_below {lo hh : Nat} {A B : World} (h : Below A.heap.size A B) (hl : lo ≤ A.heap.size) : Fr lo hh A B :=
  ⟨h.mono hl, fun k _ hk => h.block k hk, fun k _ _ q => (h.block k (Array.getElem?_eq_some_iff.1 q).1).trans q⟩
theorem Fr.own {lo hh base : Nat} {A B : World} {v : Value} {l : List UInt8} (h : Fr lo hh A B) (ho : Own A base v l) : Own B base v l := own_kp ho h.u
/-- One part is stored. -/
def setP (w : World) (gp t : Nat) (p : Pt) : World := (w.setCell ⟨gp, t * 2, none⟩ (lv p)).setCell ⟨gp, t * 2 + 1, none⟩ (.int .i64 (p.r : Int))
theorem flat2_set : ∀ (P : List Pt) (t : Nat) (p : Pt), t < P.length → ((P.flatMap p2).set (t * 2) (lv p)).set (t * 2 + 1) (.int .i64 (p.r : Int)) = (P.set t p).flatMap p2
  | [], t, p, h => by simp at h
  | x :: P, 0, p, _ => by
    rw [List.flatMap_cons, List.set_cons_zero, List.flatMap_cons]
    rfl
  | x :: P, t + 1, p, h => by
    have ih := flat2_set P t p (by simpa using h)
    rw [List.flatMap_cons, List.set_cons_succ, List.flatMap_cons, ← ih, show (t + 1) * 2 + 1 = t * 2 + 1 + 2 by omega, show (t + 1) * 2 = t * 2 + 2 by omega]
    rfl
theorem setP_other (w : World) (gp t : Nat) (p : Pt) (k : Nat) (h : k ≠ gp) : (setP w gp t p).heap[k]? = w.heap[k]? := by
  unfold setP
  rw [Below.heap_setCell _ _ _ _ h, Below.heap_setCell _ _ _ _ h]
theorem setP_below {w : World} {gp t lo : Nat} {p : Pt} (h : lo ≤ gp) : Below lo w (setP w gp t p) := by
  unfold setP
  exact ((Below.refl _ _).setCell h _).setCell h _
theorem PtOk.other {A B : World} {lo hh gp : Nat} {p : Pt} (h : PtOk A lo hh p) (hk : ∀ k, k ≠ gp → B.heap[k]? = A.heap[k]?) {cs : Array Value} {T : TypeId} {fr : Nat × Nat} (hgp : A.heap[gp]? = some (.cells cs T fr)) (hT : T ≠ 43) (hU : T ≠ 5) : PtOk B lo hh p := by
  obtain ⟨cur, h1, h2⟩ := h.ce
  have hne : ∀ (k : Nat) (cs' : Array Value) (T' : TypeId) (fr' : Nat × Nat), T' ≠ T → A.heap[k]? = some (.cells cs' T' fr') → k ≠ gp := by
    rintro k cs' T' fr' hT' hk' rfl
    rw [hgp] at hk'
    simp at hk'
    exact hT' hk'.2.1.symm
  exact ⟨h.g1, h.g2, h.n1, h.n2, h.n3, ⟨cur, (hk _ (hne _ _ _ _ (Ne.symm hT) h1)).trans h1, h2⟩, fun x hx => own_kp (h.ky x hx) (fun k cs' fr' q => (hk _ (hne _ _ _ _ (Ne.symm hU) q)).trans q)⟩
theorem lePt_asymm (x y : Pt) (h : lePt x y) : ¬ lePt y x := ltT_asymm h
end Go.Proofs.Ytiamjcgfmfbnoaa

/- A struct is stored: the world behind it, by name. -/
namespace Go.Proofs.Ytiamjcgfmfbnoaa
open Go.RowKit

/-- W is w, but for some cells of one block. -/
structure StW (w W : World) (g off : Nat) (cur : Array Value) (T : TypeId) (vs : List Value) : Prop where
  b : ∀ lo, lo ≤ g → Below lo w W
  o : ∀ k, k ≠ g → W.heap[k]? = w.heap[k]?
  c : ∃ cur', W.heap[g]? = some (.cells cur' T) ∧ cur'.size = cur.size ∧ (∀ k, k < off ∨ off + vs.length ≤ k → cur'[k]? = cur[k]?) ∧ ∀ i (hi : i < vs.length), cur'[off + i]? = some vs[i]
theorem stW_cells (g : Nat) (T : TypeId) : ∀ (vs : List Value) (off : Nat) (w : World) (cur : Array Value), w.heap[g]? = some (.cells cur T) → off + vs.length ≤ cur.size → StW w (w.setCells g off vs) g off cur T vs
  | [], off, w, cur, hg, _ => ⟨fun lo _ => Below.refl _ _, fun _ _ => rfl, ⟨cur, hg, rfl, fun _ _ => rfl, fun i hi => by simp at hi⟩⟩
  | v :: r, off, w, cur, hg, hl => by
    have h1 := heap_setCell_same w g off cur T v hg
    have ih := stW_cells g T r (off + 1) (w.setCell ⟨g, off, none⟩ v) (cur.setIfInBounds off v) h1 (by simp at hl ⊢; omega)
    have e : w.setCells g off (v :: r) = (w.setCell ⟨g, off, none⟩ v).setCells g (off + 1) r := rfl
    rw [e]
    obtain ⟨cur', c1, c2, c3, c4⟩ := ih.c
    refine ⟨fun lo hlo => ((Below.refl _ _).setCell hlo _).trans (ih.b lo hlo), fun k hk => (ih.o k hk).trans (Below.heap_setCell _ _ _ _ hk), ⟨cur', c1, by simpa using c2, fun k hk => ?_, fun i hi => ?_⟩⟩
    · simp at hk
      rw [c3 k (by omega), Array.getElem?_setIfInBounds_ne (by omega)]
    · cases i with
      | zero =>
        have hs : off < cur.size := by simp at hl; omega
        rw [Nat.add_zero, c3 off (.inl (by omega))]
        simp [hs]
      | succ i =>
        have := c4 i (by simpa using hi)
        rw [show off + (i + 1) = off + 1 + i by omega, this]
        simp
section
variable {ops : Array Oper} {rest : List Oper} {op : Oper} {a : Act} {w : World} {Q : Exit → Act → World → Prop}
theorem there_of {g off n : Nat} {cur : Array Value} {T : TypeId} (hg : w.heap[g]? = some (.cells cur T)) (hl : off + n ≤ cur.size) : w.there g off n := fun j hj => ⟨by
  have : off + j < cur.size := by omega
  simp [World.cell?, hg, this], by simp [World.frozen?, hg]⟩
theorem wp_storeN {K : Act → World → Prop} (ty : TypeId) (x y : Operand) (ho : op.op = .store ty x y) (g off : Nat) (vs : List Value) (hx : a.eval x = .pointer (some ⟨g, off, none⟩)) (hy : a.eval y = .agg vs.toArray)
    (cur : Array Value) (T : TypeId) (hg : w.heap[g]? = some (.cells cur T)) (hl : off + vs.length ≤ cur.size) (hi : (Try.prog.info? ty).map (·.size) = some vs.length) (h1 : vs.toArray.all (·.oneCell') = true)
    (h : ∀ W, StW w W g off cur T vs → K (a.put op.dst undef) W) : op.wp Try.prog a w K Q :=
  wp_store_mid ty x y ho g off vs.toArray hx hy (there_of hg (by simpa using hl)) (by simpa using hi) h1 (h _ (stW_cells g T vs off w cur hg hl))
theorem wpList_storeN (hgd : op.guard = none) (ty : TypeId) (x y : Operand) (ho : op.op = .store ty x y) (g off : Nat) (vs : List Value) (hx : a.eval x = .pointer (some ⟨g, off, none⟩)) (hy : a.eval y = .agg vs.toArray)
    (cur : Array Value) (T : TypeId) (hg : w.heap[g]? = some (.cells cur T)) (hl : off + vs.length ≤ cur.size) (hi : (Try.prog.info? ty).map (·.size) = some vs.length) (h1 : vs.toArray.all (·.oneCell') = true)
    (h : ∀ W, StW w W g off cur T vs → wpList Try.prog ops Q rest (a.put op.dst undef) W) : wpList Try.prog ops Q (op :: rest) a w :=
  wpList_plain hgd fun _ hK => wp_storeN ty x y ho g off vs hx hy cur T hg hl hi h1 (fun W hW => hK _ _ (h W hW))
/-- The walk stands still here. -/
structure Stop (p : Prop) : Prop where
  out : p
theorem stop_store (ty : TypeId) (x y : Operand) (_ho : op.op = .store ty x y) (h : Stop (wpList Try.prog ops Q (op :: rest) a w)) : wpList Try.prog ops Q (op :: rest) a w := h.out
theorem Stop.of {p : Prop} (h : p) : Stop p := ⟨h⟩
end
end Go.Proofs.Ytiamjcgfmfbnoaa

/- The least entry is forgotten. -/
namespace Go.Proofs.Ytiamjcgfmfbnoaa
open Go.RowKit

theorem sizeEn (w : World) : (sizeOf 43).run Try.prog w = .ok 7 w := by
  simp [sizeOf]
  rfl
theorem elemEn : Try.prog.elem 25 = 43 := by kernel_rfl
theorem undEn : Try.prog.underlying 25 = some (.slice (Try.prog.elem 25)) := by rw [elemEn]; exact Try.underlying25
/-- xs[1:] -/
theorem tail_sl (g o n cap : Nat) (hn : 0 < n) (hc : n ≤ cap) : ∃ a', (∀ w', (Instr.slice 25 (.slice (some ⟨g, o, none⟩) n cap) (some (.int .i64 1)) none none).run Try.prog w' = .ok (.slice a' (n - 1) (cap - 1)) w') ∧ (1 < n → a' = some ⟨g, o + 7, none⟩) := by
  refine ⟨(if cap = 1 then some ⟨g, o, none⟩ else (some (⟨g, o, none⟩ : Addr)).map (·.add (1 * 7))), fun w' => ?_, fun h => ?_⟩
  · rw [run_slice_l _ _ _ _ _ undEn _ _ (by omega) (by omega), elemEn, sizeEn]
    rfl
  · rw [if_neg (by omega)]
    simp [Addr.add]
theorem row_heap {A B : World} {lo sz g n cap : Nat} {T : TypeId} {xs : List Value} (h : A.ownsRow lo T sz (.slice (some ⟨g, 0, none⟩) n cap) n xs) (hb : B.heap[g]? = A.heap[g]?) : B.ownsRow lo T sz (.slice (some ⟨g, 0, none⟩) n cap) n xs := by
  obtain ⟨h1, h2⟩ := h
  refine ⟨h1, ?_⟩
  rcases h2 with ⟨h2, _⟩ | ⟨g', cap', cur, hv, hg, hw, r⟩
  · simp at h2
  · have hv' := hv
    simp at hv'
    obtain ⟨rfl, rfl⟩ := hv'
    exact .inr ⟨g, cap, cur, rfl, hg, hb.trans hw, r⟩
theorem row_take {A : World} {lo g n cap : Nat} {T : TypeId} {xs : List Value} (h : A.ownsRow lo T 2 (.slice (some ⟨g, 0, none⟩) n cap) n xs) (m : Nat) (hm : m ≤ n) : A.ownsRow lo T 2 (.slice (some ⟨g, 0, none⟩) m cap) m (xs.take (m * 2)) := by
  obtain ⟨h1, h2⟩ := h
  refine ⟨by simp; omega, ?_⟩
  rcases h2 with ⟨h2, _⟩ | ⟨g', cap', cur, hv, hg, hw, hc, hx, hs, ht⟩
  · simp at h2
  · have hv' := hv
    simp at hv'
    obtain ⟨rfl, rfl⟩ := hv'
    refine .inr ⟨g, cap, cur, rfl, hg, hw, by omega, hx, hs, ?_⟩
    rw [← ht, List.take_take, Nat.min_eq_left (by omega)]
theorem PtOk.heap {A B : World} {lo hh : Nat} {p : Pt} (h : PtOk A lo hh p) (hk : B.heap[p.g]? = A.heap[p.g]?) (hu : ∀ (k : Nat) (cs : Array Value) (fr : Nat × Nat), A.heap[k]? = some (Obj.cells cs 5 fr) → B.heap[k]? = some (Obj.cells cs 5 fr)) : PtOk B lo hh p := by
  obtain ⟨cur, h1, h2⟩ := h.ce
  exact ⟨h.g1, h.g2, h.n1, h.n2, h.n3, ⟨cur, hk.trans h1, h2⟩, fun x hx => own_kp (h.ky x hx) hu⟩
theorem typ_ne {A : World} {k m : Nat} {cs cs' : Array Value} {T T' : TypeId} {fr fr' : Nat × Nat} (h : A.heap[k]? = some (.cells cs T fr)) (h' : A.heap[m]? = some (.cells cs' T' fr')) (hT : T ≠ T') : k ≠ m := by
  rintro rfl
  rw [h] at h'
  simp at h'
  exact hT h'.2.1
theorem row_block {A : World} {lo sz g n cap : Nat} {T : TypeId} {xs : List Value} (h : A.ownsRow lo T sz (.slice (some ⟨g, 0, none⟩) n cap) n xs) : ∃ cur, A.heap[g]? = some (.cells cur T) := by
  rcases h.2 with ⟨q, _⟩ | ⟨g', c, cur, q, _, hw, _⟩
  · simp at q
  · simp at q
    obtain ⟨rfl, _⟩ := q
    exact ⟨cur, hw⟩
/-- A part without its first entry. -/
def tlP (p : Pt) : Pt := ⟨p.g, p.o + 7, p.cap - 1, p.xs.tail, p.r⟩
section
variable {w : World} {lo hh h gp cap : Nat} {p : Pt} {P : List Pt}
/-- The last part comes first. -/
def lastF (P : List Pt) : List Pt := match P.getLast? with | none => [] | some l => l :: P.dropLast
theorem lastF_perm (P : List Pt) : (lastF P).Perm P := by
  unfold lastF
  rcases List.eq_nil_or_concat P with rfl | ⟨L, b, rfl⟩
  · exact List.Perm.refl _
  · simp only [List.concat_eq_append, List.getLast?_append, List.getLast?_singleton, Option.some_or, List.dropLast_concat]
    exact (List.perm_append_singleton b L).symm
end
end Go.Proofs.Ytiamjcgfmfbnoaa

/- The contract of forget. -/
namespace Go.Proofs.Ytiamjcgfmfbnoaa
open Go.RowKit

theorem flat2_len : ∀ P : List Pt, (P.flatMap p2).length = P.length * 2
  | [] => rfl
  | p :: P => by rw [List.flatMap_cons, List.length_append, flat2_len P]; show 2 + _ = _; simp; omega
/-- What is stored when the first part has gone. -/
def dropW (w : World) (gp m : Nat) (av x y : Value) : World :=
  ((((w.setCell ⟨gp, 0, none⟩ av).setCell ⟨gp, 0, none⟩ x).setCell ⟨gp, 1, none⟩ y).setCell ⟨gp, m * 2, none⟩ (.slice none 0 0)).setCell ⟨gp, m * 2 + 1, none⟩ (.int .i64 0)
theorem dropW_other (w : World) (gp m : Nat) (av x y : Value) (k : Nat) (h : k ≠ gp) : (dropW w gp m av x y).heap[k]? = w.heap[k]? := by
  unfold dropW
  rw [Below.heap_setCell _ _ _ _ h, Below.heap_setCell _ _ _ _ h, Below.heap_setCell _ _ _ _ h, Below.heap_setCell _ _ _ _ h, Below.heap_setCell _ _ _ _ h]
theorem dropW_below {w : World} {gp m lo : Nat} {av x y : Value} (h : lo ≤ gp) : Below lo w (dropW w gp m av x y) := by
  unfold dropW
  exact (((((Below.refl _ _).setCell h _).setCell h _).setCell h _).setCell h _).setCell h _
/-- What is left of the parts. -/
def restP (p : Pt) (P : List Pt) : List Pt := if p.xs.length ≤ 1 then lastF P else tlP p :: P
theorem PtOk.fit {w : World} {lo hh : Nat} {p : Pt} (h : PtOk w lo hh p) : ∃ cur, w.heap[p.g]? = some (.cells cur 43) ∧ p.o + 7 ≤ cur.size := by
  obtain ⟨cur, h1, h2⟩ := h.ce
  refine ⟨cur, h1, ?_⟩
  have := h2 0 h.n1 6 (by decide)
  have h3 := (Array.getElem?_eq_some_iff.1 this).1
  omega
def zr7 : List Value := [.slice none 0 0, .int .u64 0, .bool false, .int .i64 0, .int .u64 0, .int .i64 0, .int .i64 0]
end Go.Proofs.Ytiamjcgfmfbnoaa
