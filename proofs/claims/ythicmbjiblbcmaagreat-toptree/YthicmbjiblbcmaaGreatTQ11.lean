/- SS MG5 MG6 MG7 MG8, joined. -/
import Derived.Test.YthicmbjiblbcmaaGreatTQ7
import Derived.Test.YthicmbjiblbcmaaGreatTQ10
import Derived.Deep.MidRow
import Derived.BigQuiet
import Derived.Deep.QuietTactic
/- A struct is stored: the world behind it, by name. -/
namespace Go.Proofs.YthicmbjiblbcmaaGreat
open Go.RowKit

/-- W is w, but for some cells of one block. -/
structure StW (w W : World) (g off : Nat) (cur : Array Value) (T : TypeId) (vs : List Value) : Prop where
  b : ∀ lo, lo ≤ g → Below lo w W
  o : ∀ k, k ≠ g → W.heap[k]? = w.heap[k]?
  c : ∃ cur', W.heap[g]? = some (.cells cur' T) ∧ cur'.size = cur.size ∧ (∀ k, k < off ∨ off + vs.length ≤ k → cur'[k]? = cur[k]?) ∧ ∀ i (hi : i < vs.length), cur'[off + i]? = some vs[i]
theorem stW_cells (g : Nat) (T : TypeId) : ∀ (vs : List Value) (off : Nat) (w : World) (cur : Array Value), w.heap[g]? = some (.cells cur T) → off + vs.length ≤ cur.size → StW w (w.setCells g off vs) g off cur T vs
  | [], off, w, cur, hg, _ => ⟨fun lo _ => Below.refl _ _, fun _ _ => rfl, ⟨cur, hg, rfl, fun _ _ => rfl, fun i hi => by simp at hi⟩⟩
  | v :: r, off, w, cur, hg, hl => by
    have h1 := heap_setCell_same w g off cur T v hg
    have ih := stW_cells g T r (off + 1) (w.setCell ⟨g, off, none⟩ v) (cur.setIfInBounds off v) h1 (by simp at hl ⊢; omega)
    have e : w.setCells g off (v :: r) = (w.setCell ⟨g, off, none⟩ v).setCells g (off + 1) r := rfl
    rw [e]
    obtain ⟨cur', c1, c2, c3, c4⟩ := ih.c
    refine ⟨fun lo hlo => ((Below.refl _ _).setCell hlo _).trans (ih.b lo hlo), fun k hk => (ih.o k hk).trans (Below.heap_setCell _ _ _ _ hk), ⟨cur', c1, by simpa using c2, fun k hk => ?_, fun i hi => ?_⟩⟩
    · simp at hk
      rw [c3 k (by omega), Array.getElem?_setIfInBounds_ne (by omega)]
    · cases i with
      | zero =>
        have hs : off < cur.size := by simp at hl; omega
        rw [Nat.add_zero, c3 off (.inl (by omega))]
        simp [hs]
      | succ i =>
        have := c4 i (by simpa using hi)
        rw [show off + (i + 1) = off + 1 + i by omega, this]
        simp
section
variable {ops : Array Oper} {rest : List Oper} {op : Oper} {a : Act} {w : World} {Q : Exit → Act → World → Prop}
theorem there_of {g off n : Nat} {cur : Array Value} {T : TypeId} (hg : w.heap[g]? = some (.cells cur T)) (hl : off + n ≤ cur.size) : w.there g off n := fun j hj => ⟨by
  have : off + j < cur.size := by omega
  simp [World.cell?, hg, this], by simp [World.frozen?, hg]⟩
theorem wp_storeN {K : Act → World → Prop} (ty : TypeId) (x y : Operand) (ho : op.op = .store ty x y) (g off : Nat) (vs : List Value) (hx : a.eval x = .pointer (some ⟨g, off, none⟩)) (hy : a.eval y = .agg vs.toArray)
    (cur : Array Value) (T : TypeId) (hg : w.heap[g]? = some (.cells cur T)) (hl : off + vs.length ≤ cur.size) (hi : (Tryz.prog.info? ty).map (·.size) = some vs.length) (h1 : vs.toArray.all (·.oneCell') = true)
    (h : ∀ W, StW w W g off cur T vs → K (a.put op.dst undef) W) : op.wp Tryz.prog a w K Q :=
  wp_store_mid ty x y ho g off vs.toArray hx hy (there_of hg (by simpa using hl)) (by simpa using hi) h1 (h _ (stW_cells g T vs off w cur hg hl))
theorem wpList_storeN (hgd : op.guard = none) (ty : TypeId) (x y : Operand) (ho : op.op = .store ty x y) (g off : Nat) (vs : List Value) (hx : a.eval x = .pointer (some ⟨g, off, none⟩)) (hy : a.eval y = .agg vs.toArray)
    (cur : Array Value) (T : TypeId) (hg : w.heap[g]? = some (.cells cur T)) (hl : off + vs.length ≤ cur.size) (hi : (Tryz.prog.info? ty).map (·.size) = some vs.length) (h1 : vs.toArray.all (·.oneCell') = true)
    (h : ∀ W, StW w W g off cur T vs → wpList Tryz.prog ops Q rest (a.put op.dst undef) W) : wpList Tryz.prog ops Q (op :: rest) a w :=
  wpList_plain hgd fun _ hK => wp_storeN ty x y ho g off vs hx hy cur T hg hl hi h1 (fun W hW => hK _ _ (h W hW))
/-- The walk stands still here. -/
structure Stop (p : Prop) : Prop where
  out : p
theorem stop_store (ty : TypeId) (x y : Operand) (_ho : op.op = .store ty x y) (h : Stop (wpList Tryz.prog ops Q (op :: rest) a w)) : wpList Tryz.prog ops Q (op :: rest) a w := h.out
theorem Stop.of {p : Prop} (h : p) : Stop p := ⟨h⟩
end
end Go.Proofs.YthicmbjiblbcmaaGreat

/- The least entry is forgotten. -/
namespace Go.Proofs.YthicmbjiblbcmaaGreat
open Go.RowKit

theorem sizeEn (w : World) : (sizeOf 56).run Tryz.prog w = .ok 7 w := by
  simp [sizeOf]
  rfl
theorem elemEn : Tryz.prog.elem 31 = 56 := by kernel_rfl
theorem undEn : Tryz.prog.underlying 31 = some (.slice (Tryz.prog.elem 31)) := by rw [elemEn]; exact Tryz.underlying31
theorem sizePt (w : World) : (sizeOf 115).run Tryz.prog w = .ok 2 w := by
  simp [sizeOf]
  rfl
theorem elemPt : Tryz.prog.elem 110 = 115 := by kernel_rfl
theorem undPt : Tryz.prog.underlying 110 = some (.slice (Tryz.prog.elem 110)) := by rw [elemPt]; exact Tryz.underlying110
/-- xs[1:] -/
theorem tail_sl (g o n cap : Nat) (hn : 0 < n) (hc : n ≤ cap) : ∃ a', (∀ w', (Instr.slice 31 (.slice (some ⟨g, o, none⟩) n cap) (some (.int .i64 1)) none none).run Tryz.prog w' = .ok (.slice a' (n - 1) (cap - 1)) w') ∧ (1 < n → a' = some ⟨g, o + 7, none⟩) := by
  refine ⟨(if cap = 1 then some ⟨g, o, none⟩ else (some (⟨g, o, none⟩ : Addr)).map (·.add (1 * 7))), fun w' => ?_, fun h => ?_⟩
  · rw [run_slice_l _ _ _ _ _ undEn _ _ (by omega) (by omega), elemEn, sizeEn]
    rfl
  · rw [if_neg (by omega)]
    simp [Addr.add]
/-- xs[:m] of parts -/
theorem front_sl (g m n cap : Nat) (hn : m ≤ n) (hc : n ≤ cap) : ∀ w', (Instr.slice 110 (.slice (some ⟨g, 0, none⟩) n cap) none (some (.int .i64 (m : Int))) none).run Tryz.prog w' = .ok (.slice (some ⟨g, 0, none⟩) m cap) w' := by
  intro w'
  rw [run_slice_h _ _ _ _ _ undPt _ _ (by omega) (by omega), elemPt, sizePt]
  simp only [Result.andThen, Go.sliced, Int.toNat_natCast, Nat.sub_zero]
  split <;> simp [Addr.add]
theorem row_heap {A B : World} {lo sz g n cap : Nat} {T : TypeId} {xs : List Value} (h : A.ownsRow lo T sz (.slice (some ⟨g, 0, none⟩) n cap) n xs) (hb : B.heap[g]? = A.heap[g]?) : B.ownsRow lo T sz (.slice (some ⟨g, 0, none⟩) n cap) n xs := by
  obtain ⟨h1, h2⟩ := h
  refine ⟨h1, ?_⟩
  rcases h2 with ⟨h2, _⟩ | ⟨g', cap', cur, hv, hg, hw, r⟩
  · simp at h2
  · have hv' := hv
    simp at hv'
    obtain ⟨rfl, rfl⟩ := hv'
    exact .inr ⟨g, cap, cur, rfl, hg, hb.trans hw, r⟩
theorem row_take {A : World} {lo g n cap : Nat} {T : TypeId} {xs : List Value} (h : A.ownsRow lo T 2 (.slice (some ⟨g, 0, none⟩) n cap) n xs) (m : Nat) (hm : m ≤ n) : A.ownsRow lo T 2 (.slice (some ⟨g, 0, none⟩) m cap) m (xs.take (m * 2)) := by
  obtain ⟨h1, h2⟩ := h
  refine ⟨by simp; omega, ?_⟩
  rcases h2 with ⟨h2, _⟩ | ⟨g', cap', cur, hv, hg, hw, hc, hx, hs, ht⟩
  · simp at h2
  · have hv' := hv
    simp at hv'
    obtain ⟨rfl, rfl⟩ := hv'
    refine .inr ⟨g, cap, cur, rfl, hg, hw, by omega, hx, hs, ?_⟩
    rw [← ht, List.take_take, Nat.min_eq_left (by omega)]
theorem PtOk.heap {A B : World} {lo hh : Nat} {p : Pt} (h : PtOk A lo hh p) (hk : B.heap[p.g]? = A.heap[p.g]?) (hu : ∀ (k : Nat) (cs : Array Value) (fr : Nat × Nat), A.heap[k]? = some (Obj.cells cs 5 fr) → B.heap[k]? = some (Obj.cells cs 5 fr)) : PtOk B lo hh p := by
  obtain ⟨cur, h1, h2⟩ := h.ce
  exact ⟨h.g1, h.g2, h.n1, h.n2, h.n3, ⟨cur, hk.trans h1, h2⟩, fun x hx => own_kp (h.ky x hx) hu⟩
theorem typ_ne {A : World} {k m : Nat} {cs cs' : Array Value} {T T' : TypeId} {fr fr' : Nat × Nat} (h : A.heap[k]? = some (.cells cs T fr)) (h' : A.heap[m]? = some (.cells cs' T' fr')) (hT : T ≠ T') : k ≠ m := by
  rintro rfl
  rw [h] at h'
  simp at h'
  exact hT h'.2.1
theorem row_block {A : World} {lo sz g n cap : Nat} {T : TypeId} {xs : List Value} (h : A.ownsRow lo T sz (.slice (some ⟨g, 0, none⟩) n cap) n xs) : ∃ cur, A.heap[g]? = some (.cells cur T) := by
  rcases h.2 with ⟨q, _⟩ | ⟨g', c, cur, q, _, hw, _⟩
  · simp at q
  · simp at q
    obtain ⟨rfl, _⟩ := q
    exact ⟨cur, hw⟩
/-- A part without its first entry. -/
def tlP (p : Pt) : Pt := ⟨p.g, p.o + 7, p.cap - 1, p.xs.tail, p.r⟩
section
variable {w : World} {lo hh h gp cap : Nat} {p : Pt} {P : List Pt}
theorem HM.tail (H : HM w lo hh h (p :: P)) (hv : w.heap[h]? = some (.cells #[.slice (some ⟨gp, 0, none⟩) (p :: P).length cap] 112)) (hrow : w.ownsRow lo 115 2 (.slice (some ⟨gp, 0, none⟩) (p :: P).length cap) (p :: P).length ((p :: P).flatMap p2))
    (hgl : lo ≤ gp) (hgh : gp < hh) (hn : 1 < p.xs.length) {W : World} {cur : Array Value} {vs : List Value} (hcur : w.heap[p.g]? = some (.cells cur 56)) (hW : StW w W p.g p.o cur 56 vs) (hvs : vs.length = 7) :
    HM (W.setCell ⟨gp, 0, none⟩ (lv (tlP p))) lo hh h (tlP p :: P) ∧ Fr lo hh w (W.setCell ⟨gp, 0, none⟩ (lv (tlP p))) := by
  have hp := H.pt p (List.mem_cons_self ..)
  obtain ⟨cur0, hcur0, hcc⟩ := hp.ce
  obtain rfl : cur0 = cur := by rw [hcur0] at hcur; simpa using hcur
  obtain ⟨pc, hpc⟩ := row_block hrow
  obtain ⟨cur', hz1, _, hz2, _⟩ := hW.c
  have n1 : gp ≠ p.g := typ_ne hpc hcur (by decide)
  have n2 : h ≠ p.g := typ_ne hv hcur (by decide)
  have n3 : h ≠ gp := typ_ne hv hpc (by decide)
  have hoth : ∀ k, k ≠ gp → k ≠ p.g → (W.setCell ⟨gp, 0, none⟩ (lv (tlP p))).heap[k]? = w.heap[k]? := fun k h1 h2 => by rw [Below.heap_setCell _ _ _ _ h1, hW.o _ h2]
  have hu : ∀ (k : Nat) (cs : Array Value) (fr : Nat × Nat), w.heap[k]? = some (Obj.cells cs 5 fr) → (W.setCell ⟨gp, 0, none⟩ (lv (tlP p))).heap[k]? = some (Obj.cells cs 5 fr) := fun k cs fr q => (hoth k (typ_ne q hpc (by decide)) (typ_ne q hcur (by decide))).trans q
  have r1 := (World.ownsRow.stored (row_heap hrow (hW.o gp n1)) 0 (lv (tlP p))).1
  have e1 : ((p :: P).flatMap p2).set 0 (lv (tlP p)) = (tlP p :: P).flatMap p2 := rfl
  rw [e1] at r1
  refine ⟨⟨H.h1, H.h2, ⟨_, (hoth h n3 n2).trans hv, r1, fun k hk => by simp [Value.ownBlock] at hk; omega⟩, fun q hq => ?_, ?_, H.le⟩, ⟨(hW.b lo hp.g1).trans ((Below.refl _ _).setCell hgl _), fun k hk _ => hoth k (by omega) (by have := hp.g2; omega), hu⟩⟩
  · rcases List.mem_cons.1 hq with rfl | hq
    · have hl : p.xs.tail.length = p.xs.length - 1 := by simp
      refine ⟨hp.g1, hp.g2, by show 0 < p.xs.tail.length; omega, by show p.xs.tail.length ≤ p.cap - 1; have := hp.n2; omega, by show p.cap - 1 ≤ _; have := hp.n3; omega, ⟨cur', ?_, fun j hj i hi => ?_⟩, fun x hx => own_kp (hp.ky x (List.mem_of_mem_tail hx)) hu⟩
      · show (W.setCell ⟨gp, 0, none⟩ (lv (tlP p))).heap[p.g]? = _
        rw [Below.heap_setCell _ _ _ _ (Ne.symm n1)]; exact hz1
      · have hj' : j < p.xs.tail.length := hj
        show cur'[p.o + 7 + (7 * j + i)]? = some ((c7 (p.xs.tail[j]'hj'))[i]'hi)
        rw [hz2 _ (.inr (by omega))]
        have := hcc (j + 1) (by omega) i hi
        rw [show p.o + 7 + (7 * j + i) = p.o + (7 * (j + 1) + i) by omega, this]
        simp
        rfl
    · have hne : q.g ≠ p.g := by
        have hn := H.nd
        rw [List.map_cons, List.nodup_cons] at hn
        intro e
        exact hn.1 (e ▸ List.mem_map.2 ⟨q, hq, rfl⟩)
      have hqo := H.pt q (List.mem_cons_of_mem _ hq)
      obtain ⟨cq, hcq, _⟩ := hqo.ce
      exact hqo.heap (hoth _ (typ_ne hcq hpc (by decide)) hne) hu
  · exact H.nd
/-- The last part comes first. -/
def lastF (P : List Pt) : List Pt := match P.getLast? with | none => [] | some l => l :: P.dropLast
theorem lastF_perm (P : List Pt) : (lastF P).Perm P := by
  unfold lastF
  rcases List.eq_nil_or_concat P with rfl | ⟨L, b, rfl⟩
  · exact List.Perm.refl _
  · simp only [List.concat_eq_append, List.getLast?_append, List.getLast?_singleton, Option.some_or, List.dropLast_concat]
    exact (List.perm_append_singleton b L).symm
end
end Go.Proofs.YthicmbjiblbcmaaGreat

/- The contract of forget. -/
namespace Go.Proofs.YthicmbjiblbcmaaGreat
open Go.RowKit

theorem flat2_len : ∀ P : List Pt, (P.flatMap p2).length = P.length * 2
  | [] => rfl
  | p :: P => by rw [List.flatMap_cons, List.length_append, flat2_len P]; show 2 + _ = _; simp; omega
/-- What is stored when the first part has gone. -/
def dropW (w : World) (gp m : Nat) (av x y : Value) : World :=
  ((((w.setCell ⟨gp, 0, none⟩ av).setCell ⟨gp, 0, none⟩ x).setCell ⟨gp, 1, none⟩ y).setCell ⟨gp, m * 2, none⟩ (.slice none 0 0)).setCell ⟨gp, m * 2 + 1, none⟩ (.int .i64 0)
theorem drop_row {w : World} {lo gp cap : Nat} {p : Pt} {P : List Pt} {av x y : Value} (h : w.ownsRow lo 115 2 (.slice (some ⟨gp, 0, none⟩) (p :: P).length cap) (p :: P).length ((p :: P).flatMap p2))
    (hl : ∀ l, P.getLast? = some l → x = lv l ∧ y = .int .i64 (l.r : Int)) : (dropW w gp P.length av x y).ownsRow lo 115 2 (.slice (some ⟨gp, 0, none⟩) P.length cap) P.length ((lastF P).flatMap p2) := by
  have h1 := (World.ownsRow.stored h 0 av).1
  have h2 := (World.ownsRow.stored h1 0 x).1
  have h3 := (World.ownsRow.stored h2 1 y).1
  have h4 := (World.ownsRow.stored h3 (P.length * 2) (.slice none 0 0)).1
  have h5 := (World.ownsRow.stored h4 (P.length * 2 + 1) (.int .i64 0)).1
  have h6 := row_take h5 P.length (by simp)
  have e : ((((((((p :: P).flatMap p2).set 0 av).set 0 x).set 1 y).set (P.length * 2) (.slice none 0 0)).set (P.length * 2 + 1) (.int .i64 0)).take (P.length * 2)) = (lastF P).flatMap p2 := by
    rw [List.take_set_of_le (by omega), List.take_set_of_le (by omega)]
    rcases List.eq_nil_or_concat P with rfl | ⟨L, b, rfl⟩
    · rfl
    · simp only [List.concat_eq_append] at hl ⊢
      obtain ⟨rfl, rfl⟩ := hl b (by simp)
      have e1 : lastF (L ++ [b]) = b :: L := by simp [lastF]
      rw [e1, List.flatMap_cons, List.flatMap_append, List.flatMap_cons, List.length_append]
      show List.take ((L.length + 1) * 2) (lv b :: .int .i64 (b.r : Int) :: (L.flatMap p2 ++ List.flatMap p2 [b])) = _
      have hlen := flat2_len L
      rw [show (L.length + 1) * 2 = L.length * 2 + 1 + 1 by omega, List.take_succ_cons, List.take_succ_cons, List.take_append_of_le_length (by omega), List.take_of_length_le (by omega)]
      rfl
  rw [e] at h6
  exact h6
theorem dropW_other (w : World) (gp m : Nat) (av x y : Value) (k : Nat) (h : k ≠ gp) : (dropW w gp m av x y).heap[k]? = w.heap[k]? := by
  unfold dropW
  rw [Below.heap_setCell _ _ _ _ h, Below.heap_setCell _ _ _ _ h, Below.heap_setCell _ _ _ _ h, Below.heap_setCell _ _ _ _ h, Below.heap_setCell _ _ _ _ h]
theorem dropW_below {w : World} {gp m lo : Nat} {av x y : Value} (h : lo ≤ gp) : Below lo w (dropW w gp m av x y) := by
  unfold dropW
  exact (((((Below.refl _ _).setCell h _).setCell h _).setCell h _).setCell h _).setCell h _
theorem HM.last {w : World} {lo hh h gp cap : Nat} {p : Pt} {P : List Pt} {av x y : Value} (H : HM w lo hh h (p :: P)) (hv : w.heap[h]? = some (.cells #[.slice (some ⟨gp, 0, none⟩) (p :: P).length cap] 112)) (hrow : w.ownsRow lo 115 2 (.slice (some ⟨gp, 0, none⟩) (p :: P).length cap) (p :: P).length ((p :: P).flatMap p2))
    (hgl : lo ≤ gp) (hgh : gp < hh) (hl : ∀ l, P.getLast? = some l → x = lv l ∧ y = .int .i64 (l.r : Int)) {W : World} {cur : Array Value} {vs : List Value} (hcur : w.heap[p.g]? = some (.cells cur 56)) (hW : StW w W p.g p.o cur 56 vs) :
    HM ((dropW W gp P.length av x y).setCell ⟨h, 0, none⟩ (.slice (some ⟨gp, 0, none⟩) P.length cap)) lo hh h (lastF P) ∧ Fr lo hh w ((dropW W gp P.length av x y).setCell ⟨h, 0, none⟩ (.slice (some ⟨gp, 0, none⟩) P.length cap)) := by
  have hp := H.pt p (List.mem_cons_self ..)
  obtain ⟨pc, hpc⟩ := row_block hrow
  have n1 : gp ≠ p.g := typ_ne hpc hcur (by decide)
  have n2 : h ≠ p.g := typ_ne hv hcur (by decide)
  have n3 : h ≠ gp := typ_ne hv hpc (by decide)
  have hoth : ∀ k, k ≠ gp → k ≠ p.g → k ≠ h → ((dropW W gp P.length av x y).setCell ⟨h, 0, none⟩ (.slice (some ⟨gp, 0, none⟩) P.length cap)).heap[k]? = w.heap[k]? := fun k h1 h2 h3 => by rw [Below.heap_setCell _ _ _ _ h3, dropW_other _ _ _ _ _ _ _ h1, hW.o _ h2]
  have hu : ∀ (k : Nat) (cs : Array Value) (fr : Nat × Nat), w.heap[k]? = some (Obj.cells cs 5 fr) → ((dropW W gp P.length av x y).setCell ⟨h, 0, none⟩ (.slice (some ⟨gp, 0, none⟩) P.length cap)).heap[k]? = some (Obj.cells cs 5 fr) := fun k cs fr q => (hoth k (typ_ne q hpc (by decide)) (typ_ne q hcur (by decide)) (typ_ne q hv (by decide))).trans q
  have hh0 : (dropW W gp P.length av x y).heap[h]? = some (.cells #[.slice (some ⟨gp, 0, none⟩) (p :: P).length cap] 112) := by rw [dropW_other _ _ _ _ _ _ _ n3, hW.o _ n2]; exact hv
  have r1 := drop_row (av := av) (x := x) (y := y) (row_heap hrow (hW.o gp n1)) hl
  have hlen : (lastF P).length = P.length := (lastF_perm P).length_eq
  refine ⟨⟨H.h1, H.h2, ⟨.slice (some ⟨gp, 0, none⟩) P.length cap, ?_, ?_, fun k hk => by simp [Value.ownBlock] at hk; omega⟩, fun q hq => ?_, ?_, by rw [hlen]; have := H.le; simp at this; omega⟩, ⟨((hW.b lo hp.g1).trans (dropW_below hgl)).trans ((Below.refl _ _).setCell H.h1 _), fun k hk _ => hoth k (by omega) (by have := hp.g2; omega) (by have := H.h2; omega), hu⟩⟩
  · have := heap_setCell_same _ h 0 _ _ (.slice (some ⟨gp, 0, none⟩) P.length cap) hh0
    simpa using this
  · rw [hlen]
    exact row_heap r1 (Below.heap_setCell _ _ _ _ (Ne.symm n3))
  · have hq := (lastF_perm P).mem_iff.1 hq
    have hne : q.g ≠ p.g := by
      have hn := H.nd
      rw [List.map_cons, List.nodup_cons] at hn
      intro e
      exact hn.1 (e ▸ List.mem_map.2 ⟨q, hq, rfl⟩)
    have hqo := H.pt q (List.mem_cons_of_mem _ hq)
    obtain ⟨cq, hcq, _⟩ := hqo.ce
    exact hqo.heap (hoth _ (typ_ne hcq hpc (by decide)) hne (typ_ne hcq hv (by decide))) hu
  · have hn := H.nd
    rw [List.map_cons, List.nodup_cons] at hn
    exact ((lastF_perm P).map Pt.g).nodup_iff.2 hn.2
/-- What is left of the parts. -/
def restP (p : Pt) (P : List Pt) : List Pt := if p.xs.length ≤ 1 then lastF P else tlP p :: P
def FgPost (lo hh h : Nat) (p : Pt) (P : List Pt) (w : World) (e : Ending) (w' : World) : Prop := (∃ v, e = .returned v) ∧ HM w' lo hh h (restP p P) ∧ Fr lo hh w w'
theorem PtOk.fit {w : World} {lo hh : Nat} {p : Pt} (h : PtOk w lo hh p) : ∃ cur, w.heap[p.g]? = some (.cells cur 56) ∧ p.o + 7 ≤ cur.size := by
  obtain ⟨cur, h1, h2⟩ := h.ce
  refine ⟨cur, h1, ?_⟩
  have := h2 0 h.n1 6 (by decide)
  have h3 := (Array.getElem?_eq_some_iff.1 this).1
  omega
def zr7 : List Value := [.slice none 0 0, .int .u64 0, .bool false, .int .i64 0, .int .u64 0, .int .i64 0, .int .i64 0]
set_option maxRecDepth 100000 in
set_option maxHeartbeats 2000000 in
theorem forget_more (lo hh h : Nat) (p : Pt) (P : List Pt) (w : World) (H : HM w lo hh h (p :: P)) (hn : 1 < p.xs.length) :
    Calls Tryz.prog 45 #[.pointer (some ⟨h, 0, none⟩)] w (FgPost lo hh h p P w) := by
  have HR : Hid (restP p P = tlP p :: P) := by unfold Hid restP; rw [if_neg (by omega)]
  obtain ⟨a, cap, e1, e2, e3, e4, e5⟩ := H.arr
  obtain ⟨gp, rfl, g1, g2, g3, g4⟩ := e5 (by simp)
  have hp := H.pt p (List.mem_cons_self ..)
  obtain ⟨cur, hcur, hfit⟩ := hp.fit
  obtain ⟨pc0, hpc⟩ := row_block e2
  have n1 : gp ≠ p.g := typ_ne hpc hcur (by decide)
  have n2 : h ≠ p.g := typ_ne e1 hcur (by decide)
  have HT : Hid (∀ W, StW w W p.g p.o cur 56 zr7 → _) := fun W hW => H.tail e1 e2 g1 g2 hn hcur hW rfl
  obtain ⟨y0, y1, y2, y3⟩ := g4 0 (by simp)
  obtain ⟨a', hsl, ha'⟩ := tail_sl p.g p.o p.xs.length p.cap (by omega) hp.n2
  obtain rfl := ha' hn
  have k2 := hp.n2
  have x1 := (cell_row e1 0 (by simp)).1
  simp only [List.getElem_toArray, List.getElem_cons_zero, Nat.zero_mul, Nat.zero_add] at x1 y0 y1 y2 y3
  unfold lv at y0
  unfold tlP lv at HT
  simp only [List.length_tail] at HT
  obtain ⟨pg, po, pc, pxs, pr⟩ := p
  simp only at *
  have hpl : (0 : Int) < ((pxs.length - 1 : Nat) : Int) := by omega
  have HCUR : Hid (w.heap[pg]? = some (.cells cur 56)) := hcur
  clear g4 e1 e2 e5 H hp hcur hpc ha'
  go_enter Tryz.func45, Tryz.ntmps45
  go_wp2_with (refine stop_store 56 _ _ rfl ?_)
  refine Stop.of ?_
  refine wpList_storeN rfl _ _ _ rfl pg po zr7 rfl rfl cur _ HCUR.out hfit (by kernel_rfl) (by kernel_rfl) ?_
  intro W hW
  have z0 := (World.cell?_of_block (hW.o gp n1) (a := ⟨gp, 0, none⟩)).trans y0
  have z1 := (World.frozen?_of_block (hW.o gp n1) (a := ⟨gp, 0, none⟩)).trans y2
  have HW : Hid _ := HT.out W hW
  clear hW y0 y1 y2 y3
  go_wp2_with fail
  refine bodyPost_ret (results_none rfl _ _ _) rfl ?_
  exact ⟨⟨_, rfl⟩, by rw [HR.out]; exact HW.out.1, HW.out.2⟩
set_option maxRecDepth 100000 in
set_option maxHeartbeats 2000000 in
theorem forget_last (lo hh h : Nat) (p : Pt) (P : List Pt) (w : World) (H : HM w lo hh h (p :: P)) (hn : p.xs.length = 1) :
    Calls Tryz.prog 45 #[.pointer (some ⟨h, 0, none⟩)] w (FgPost lo hh h p P w) := by
  have HR : Hid (restP p P = lastF P) := by unfold Hid restP; rw [if_pos (by omega)]
  obtain ⟨a, cap, e1, e2, e3, e4, e5⟩ := H.arr
  obtain ⟨gp, rfl, g1, g2, g3, g4⟩ := e5 (by simp)
  have hp := H.pt p (List.mem_cons_self ..)
  obtain ⟨cur, hcur, hfit⟩ := hp.fit
  obtain ⟨pc0, hpc⟩ := row_block e2
  have n1 : gp ≠ p.g := typ_ne hpc hcur (by decide)
  have n2 : h ≠ p.g := typ_ne e1 hcur (by decide)
  have n3 : h ≠ gp := typ_ne e1 hpc (by decide)
  have n4 : gp ≠ h := Ne.symm n3
  obtain ⟨y0, y1, y2, y3⟩ := g4 0 (by simp)
  obtain ⟨l0, l1, l2, l3⟩ := g4 P.length (by simp)
  obtain ⟨a', hsl, _⟩ := tail_sl p.g p.o p.xs.length p.cap (by omega) hp.n2
  have HX : Hid (∃ (xv : Option Addr) (yv : Nat × Nat), (∀ W, StW w W p.g p.o cur 56 zr7 → (W.setCell ⟨gp, 0, none⟩ (.slice a' (p.xs.length - 1) (p.cap - 1))).cell? ⟨gp, P.length * 2, none⟩ = some (.slice xv yv.1 yv.2) ∧ (W.setCell ⟨gp, 0, none⟩ (.slice a' (p.xs.length - 1) (p.cap - 1))).cell? ⟨gp, P.length * 2 + 1, none⟩ = some (.int .i64 ((P.getLast?.map Pt.r).getD p.r : Nat))) ∧ ∀ l, P.getLast? = some l → (.slice xv yv.1 yv.2 : Value) = lv l ∧ (.int .i64 ((P.getLast?.map Pt.r).getD p.r : Nat) : Value) = .int .i64 (l.r : Int)) := by
    rcases List.eq_nil_or_concat P with rfl | ⟨L, b, rfl⟩
    · refine ⟨a', (p.xs.length - 1, p.cap - 1), fun W hW => ⟨?_, ?_⟩, fun l hl => by simp at hl⟩
      · have := (World.cell?_of_block (hW.o gp n1) (a := ⟨gp, 0, none⟩)).trans y0
        exact World.cell?_setCell_same _ _ _ this
      · rw [World.cell?_setCell_other _ _ _ _ (by simp)]
        exact (World.cell?_of_block (hW.o gp n1)).trans y1
    · simp only [List.concat_eq_append] at l0 l1 ⊢
      have eb : (p :: (L ++ [b]))[(L ++ [b]).length]'(by simp) = b := by simp
      rw [eb] at l0 l1
      refine ⟨some ⟨b.g, b.o, none⟩, (b.xs.length, b.cap), fun W hW => ⟨?_, ?_⟩, fun l hl => ?_⟩
      · rw [World.cell?_setCell_other _ _ _ _ (by simp)]
        exact (World.cell?_of_block (hW.o gp n1)).trans l0
      · rw [World.cell?_setCell_other _ _ _ _ (by simp)]
        rw [show (((L ++ [b]).getLast?.map Pt.r).getD p.r) = b.r by simp]
        exact (World.cell?_of_block (hW.o gp n1)).trans l1
      · simp at hl; subst hl; exact ⟨rfl, by simp⟩
  obtain ⟨xv, ⟨yn, yc⟩, HX1, HX2⟩ := HX.out
  obtain ⟨rr, Hrr⟩ := hid_ex ((P.getLast?.map Pt.r).getD p.r)
  rw [← Hrr.out] at HX1 HX2
  have HL : Hid (∀ W, StW w W p.g p.o cur 56 zr7 → _) := fun W hW => H.last (av := .slice a' (p.xs.length - 1) (p.cap - 1)) e1 e2 g1 g2 HX2 hcur hW
  have HX1' : Hid _ := HX1
  have hfr := front_sl gp P.length (P.length + 1) cap (by omega) e3
  have k2 := hp.n2
  have x1 := (cell_row e1 0 (by simp)).1
  have x2 := (cell_row e1 0 (by simp)).2
  simp only [List.getElem_toArray, List.getElem_cons_zero, Nat.zero_mul, Nat.zero_add] at x1 x2 y0 y1 y2 y3
  unfold lv at y0
  rw [hn] at y0 hsl HL HX1'
  rw [hn] at k2
  obtain ⟨pg, po, pc, pxs, pr⟩ := p
  simp only [List.length_cons] at *
  have hle := H.le
  simp only [List.length_cons] at hle
  have HCUR : Hid (w.heap[pg]? = some (.cells cur 56)) := hcur
  have HE2 : Hid _ := e2
  clear g4 e1 e2 e5 H hp hcur hpc HX HX1 HX2 l0 l1 l2 l3 Hrr hn
  go_enter Tryz.func45, Tryz.ntmps45
  go_wp2_with (refine stop_store 56 _ _ rfl ?_)
  refine Stop.of ?_
  refine wpList_storeN rfl _ _ _ rfl pg po zr7 rfl rfl cur _ HCUR.out hfit (by kernel_rfl) (by kernel_rfl) ?_
  intro W hW
  have z0 := (World.cell?_of_block (hW.o gp n1) (a := ⟨gp, 0, none⟩)).trans y0
  have z1 := (World.frozen?_of_block (hW.o gp n1) (a := ⟨gp, 0, none⟩)).trans y2
  have z2 := (World.cell?_of_block (hW.o h n2) (a := ⟨h, 0, none⟩)).trans x1
  have z3 := (World.frozen?_of_block (hW.o h n2) (a := ⟨h, 0, none⟩)).trans x2
  have z4 := (World.cell?_of_block (hW.o gp n1) (a := ⟨gp, 1, none⟩)).trans y1
  have z5 : ∀ i, W.frozen? ⟨gp, i, none⟩ = false := fun i => (World.frozen?_of_block (hW.o gp n1) (a := ⟨gp, i, none⟩)).trans (World.ownsRow.frozenAt HE2.out i)
  have HW : Hid _ := HL.out W hW
  obtain ⟨u0, u1⟩ := HX1'.out W hW
  simp only [Nat.sub_self] at u0 u1 HW hsl
  clear hW y0 y1 y2 y3 x1 x2
  have v0 : (W.setCell ⟨gp, 0, none⟩ (.slice a' 0 (pc - 1))).cell? ⟨h, 0, none⟩ = some (.slice (some ⟨gp, 0, none⟩) (P.length + 1) cap) := by rw [World.cell?_setCell_other _ _ _ _ (by first | (simp; done) | (simp [n4]; done))]; exact z2
  have V0 : Hid _ := v0
  have hpp : ¬ ((P.length : Int) + 1 ≤ (P.length : Int)) := by omega
  have v3 : (((W.setCell ⟨gp, 0, none⟩ (.slice a' 0 (pc - 1))).setCell ⟨gp, 0, none⟩ (.slice xv yn yc)).setCell ⟨gp, 1, none⟩ (.int .i64 (rr : Int))).cell? ⟨h, 0, none⟩ = some (.slice (some ⟨gp, 0, none⟩) (P.length + 1) cap) := (World.cell?_setCell_other _ _ _ _ (by first | (simp; done) | (simp [n4]; done))).trans ((World.cell?_setCell_other _ _ _ _ (by first | (simp; done) | (simp [n4]; done))).trans V0.out)
  have V3 : Hid _ := v3
  have q0 : (W.setCell ⟨gp, 0, none⟩ (.slice a' 0 (pc - 1))).cell? ⟨gp, 0, none⟩ = some (.slice a' 0 (pc - 1)) := World.cell?_setCell_same _ _ _ z0
  have q1 : (W.setCell ⟨gp, 0, none⟩ (.slice a' 0 (pc - 1))).cell? ⟨gp, 1, none⟩ = some (.int .i64 (pr : Int)) := (World.cell?_setCell_other _ _ _ _ (by simp)).trans z4
  have s0 : (((W.setCell ⟨gp, 0, none⟩ (.slice a' 0 (pc - 1))).setCell ⟨gp, 0, none⟩ (.slice xv yn yc)).setCell ⟨gp, 1, none⟩ (.int .i64 (rr : Int))).cell? ⟨gp, P.length * 2, none⟩ = some (.slice xv yn yc) := by
    rcases Nat.eq_zero_or_pos P.length with h0 | h0
    · rw [h0]
      rw [World.cell?_setCell_other _ _ _ _ (by simp)]
      exact World.cell?_setCell_same _ _ _ q0
    · rw [World.cell?_setCell_other _ _ _ _ (by first | (simp; done) | (simp; omega)), World.cell?_setCell_other _ _ _ _ (by first | (simp; done) | (simp; omega))]
      exact u0
  have s1 : (((W.setCell ⟨gp, 0, none⟩ (.slice a' 0 (pc - 1))).setCell ⟨gp, 0, none⟩ (.slice xv yn yc)).setCell ⟨gp, 1, none⟩ (.int .i64 (rr : Int))).cell? ⟨gp, P.length * 2 + 1, none⟩ = some (.int .i64 (rr : Int)) := by
    rcases Nat.eq_zero_or_pos P.length with h0 | h0
    · rw [h0]
      exact World.cell?_setCell_same _ _ _ ((World.cell?_setCell_other _ _ _ _ (by simp)).trans q1)
    · rw [World.cell?_setCell_other _ _ _ _ (by first | (simp; done) | (simp; omega)), World.cell?_setCell_other _ _ _ _ (by simp)]
      exact u1
  have v5 : (((((W.setCell ⟨gp, 0, none⟩ (.slice a' 0 (pc - 1))).setCell ⟨gp, 0, none⟩ (.slice xv yn yc)).setCell ⟨gp, 1, none⟩ (.int .i64 (rr : Int))).setCell ⟨gp, P.length * 2, none⟩ (.slice none 0 0)).setCell ⟨gp, P.length * 2 + 1, none⟩ (.int .i64 0)).cell? ⟨h, 0, none⟩ = some (.slice (some ⟨gp, 0, none⟩) (P.length + 1) cap) := (World.cell?_setCell_other _ _ _ _ (by first | (simp; done) | (simp [n4]; done))).trans ((World.cell?_setCell_other _ _ _ _ (by first | (simp; done) | (simp [n4]; done))).trans V3.out)
  clear v0
  go_wp2_with fail
  refine wp_region_noPanic ?_
  refine wp_region_S 12 (fun w' => w'.cell? ⟨h, 0, none⟩ = some (.slice (some ⟨gp, 0, none⟩) (P.length + 1) cap)) (fun w' => w'.cell? ⟨gp, P.length * 2, none⟩ = some (.slice xv yn yc) ∧ w'.cell? ⟨gp, P.length * 2 + 1, none⟩ = some (.int .i64 (rr : Int))) (by kernel_rfl) ?_ ?_ (fun hHeld => ?_)
  · exact V0.out
  · exact ⟨u0, u1⟩
  refine wpAnyS_take (i := 0) (v := .pointer (some ⟨h, 0, none⟩)) _ rfl (by kernel_rfl) (by kernel_rfl) (by kernel_rfl) (by kernel_rfl) (by kernel_rfl) rfl (fun _ _ _ h => h) (Or.inl ⟨by rfl, ?_⟩) hHeld (fun hHeld => ?_)
  · (intro w1 hSw; have hSw := hSw.1; (try dsimp only at hSw); go_simp)
  simp only [List.getElem_toArray, List.getElem_cons_zero, Act.put, List.setIfInBounds_toArray, List.set_cons_zero, List.set_cons_succ]
  refine wpAnyS_take (i := 1) (v := .pointer (some ⟨h, 0, none⟩)) _ rfl (by kernel_rfl) (by kernel_rfl) (by kernel_rfl) (by kernel_rfl) (by kernel_rfl) rfl (fun _ _ _ h => h) (Or.inl ⟨by rfl, ?_⟩) hHeld (fun hHeld => ?_)
  · (intro w1 hSw; have hSw := hSw.1; (try dsimp only at hSw); go_simp)
  simp only [List.getElem_toArray, List.getElem_cons_succ, List.getElem_cons_zero, Act.put, List.setIfInBounds_toArray, List.set_cons_zero, List.set_cons_succ]
  refine wpAnyS_take (i := 2) (v := .pointer (some ⟨h, 0, none⟩)) _ rfl (by kernel_rfl) (by kernel_rfl) (by kernel_rfl) (by kernel_rfl) (by kernel_rfl) rfl (fun _ _ _ h => h) (Or.inl ⟨by rfl, ?_⟩) hHeld (fun hHeld => ?_)
  · (intro w1 hSw; have hSw := hSw.1; (try dsimp only at hSw); go_simp)
  simp only [List.getElem_toArray, List.getElem_cons_succ, List.getElem_cons_zero, Act.put, List.setIfInBounds_toArray, List.set_cons_zero, List.set_cons_succ]
  refine wpAnyS_take (i := 3) (v := .slice (some ⟨gp, 0, none⟩) (P.length + 1) cap) _ rfl (by kernel_rfl) (by kernel_rfl) (by kernel_rfl) (by kernel_rfl) (by kernel_rfl) rfl (fun _ _ _ h => h) (Or.inl ⟨by rfl, ?_⟩) hHeld (fun hHeld => ?_)
  · (intro w1 hSw; have hSw := hSw.1; (try dsimp only at hSw); go_simp)
  simp only [List.getElem_toArray, List.getElem_cons_succ, List.getElem_cons_zero, Act.put, List.setIfInBounds_toArray, List.set_cons_zero, List.set_cons_succ]
  refine wpAnyS_take (i := 4) (v := .pointer (some ⟨h, 0, none⟩)) _ rfl (by kernel_rfl) (by kernel_rfl) (by kernel_rfl) (by kernel_rfl) (by kernel_rfl) rfl (fun _ _ _ h => h) (Or.inl ⟨by rfl, ?_⟩) hHeld (fun hHeld => ?_)
  · (intro w1 hSw; have hSw := hSw.1; (try dsimp only at hSw); go_simp)
  simp only [List.getElem_toArray, List.getElem_cons_succ, List.getElem_cons_zero, Act.put, List.setIfInBounds_toArray, List.set_cons_zero, List.set_cons_succ]
  refine wpAnyS_take (i := 5) (v := .pointer (some ⟨h, 0, none⟩)) _ rfl (by kernel_rfl) (by kernel_rfl) (by kernel_rfl) (by kernel_rfl) (by kernel_rfl) rfl (fun _ _ _ h => h) (Or.inl ⟨by rfl, ?_⟩) hHeld (fun hHeld => ?_)
  · (intro w1 hSw; have hSw := hSw.1; (try dsimp only at hSw); go_simp)
  simp only [List.getElem_toArray, List.getElem_cons_succ, List.getElem_cons_zero, Act.put, List.setIfInBounds_toArray, List.set_cons_zero, List.set_cons_succ]
  refine wpAnyS_take (i := 6) (v := .pointer (some ⟨h, 0, none⟩)) _ rfl (by kernel_rfl) (by kernel_rfl) (by kernel_rfl) (by kernel_rfl) (by kernel_rfl) rfl (fun _ _ _ h => h) (Or.inl ⟨by rfl, ?_⟩) hHeld (fun hHeld => ?_)
  · (intro w1 hSw; have hSw := hSw.1; (try dsimp only at hSw); go_simp)
  simp only [List.getElem_toArray, List.getElem_cons_succ, List.getElem_cons_zero, Act.put, List.setIfInBounds_toArray, List.set_cons_zero, List.set_cons_succ]
  refine wpAnyS_take (i := 7) (v := .slice (some ⟨gp, 0, none⟩) (P.length + 1) cap) _ rfl (by kernel_rfl) (by kernel_rfl) (by kernel_rfl) (by kernel_rfl) (by kernel_rfl) rfl (fun _ _ _ h => h) (Or.inl ⟨by rfl, ?_⟩) hHeld (fun hHeld => ?_)
  · (intro w1 hSw; have hSw := hSw.1; (try dsimp only at hSw); go_simp)
  simp only [List.getElem_toArray, List.getElem_cons_succ, List.getElem_cons_zero, Act.put, List.setIfInBounds_toArray, List.set_cons_zero, List.set_cons_succ]
  refine wpAnyS_take (i := 8) (v := .int .i64 (P.length : Int)) _ rfl (by kernel_rfl) (by kernel_rfl) (by kernel_rfl) (by kernel_rfl) (by kernel_rfl) rfl (fun _ _ _ h => h) (Or.inl ⟨by rfl, ?_⟩) hHeld (fun hHeld => ?_)
  · (intro w1 hSw; have hSw := hSw.1; (try dsimp only at hSw); go_simp)
  simp only [List.getElem_toArray, List.getElem_cons_succ, List.getElem_cons_zero, Act.put, List.setIfInBounds_toArray, List.set_cons_zero, List.set_cons_succ]
  refine wpAnyS_take (i := 9) (v := .pointer (some ⟨gp, P.length * 2, none⟩)) _ rfl (by kernel_rfl) (by kernel_rfl) (by kernel_rfl) (by kernel_rfl) (by kernel_rfl) rfl (fun _ _ _ h => h) (Or.inl ⟨by rfl, ?_⟩) hHeld (fun hHeld => ?_)
  · (intro w1 hSw; have hSw := hSw.1; (try dsimp only at hSw); go_simp)
  simp only [List.getElem_toArray, List.getElem_cons_succ, List.getElem_cons_zero, Act.put, List.setIfInBounds_toArray, List.set_cons_zero, List.set_cons_succ]
  refine wpAnyS_take (i := 10) (v := .agg #[.slice xv yn yc, .int .i64 (rr : Int)]) true rfl (by kernel_rfl) (by kernel_rfl) (by kernel_rfl) (by kernel_rfl) (by kernel_rfl) (by kernel_rfl) (fun _ _ _ h => h) (Or.inl ⟨by rfl, ?_⟩) hHeld (fun hHeld => ?_)
  · (intro w1 hSw; have hSw2 := hSw.2 rfl; have hSw := hSw.1; (try dsimp only at hSw hSw2); go_simp)
  simp only [List.getElem_toArray, List.getElem_cons_succ, List.getElem_cons_zero, Act.put, List.setIfInBounds_toArray, List.set_cons_zero, List.set_cons_succ]
  refine wpAnyS_take (i := 11) (v := .pointer (some ⟨gp, 0, none⟩)) _ rfl (by kernel_rfl) (by kernel_rfl) (by kernel_rfl) (by kernel_rfl) (by kernel_rfl) rfl (fun _ _ _ h => h) (Or.inl ⟨by rfl, ?_⟩) hHeld (fun hHeld => ?_)
  · (intro w1 hSw; have hSw := hSw.1; (try dsimp only at hSw); go_simp)
  simp only [List.getElem_toArray, List.getElem_cons_succ, List.getElem_cons_zero, Act.put, List.setIfInBounds_toArray, List.set_cons_zero, List.set_cons_succ]
  refine wpAnyS_ready (i := 12) (by kernel_rfl) rfl (fun K hK => ?_)
  go_simp
  refine hK.out _ _ ⟨?_, fun hno => absurd hno (by decide)⟩ (fun hHeld => ?_)
  · exact V3.out
  clear hK K
  refine wpAnyS_done (by kernel_rfl) ?_ _
  refine NoPanic.normal ?_
  go_wp2_with fail
  refine bodyPost_end (results_none rfl _ _ _) rfl ?_
  exact ⟨⟨_, rfl⟩, by rw [HR.out]; exact HW.out.1.below (Below.refl _ _).drew, HW.out.2.trans (Fr.of_below (Below.refl _ _).drew (by have := HW.out.2.b.size; omega))⟩
theorem forget_any (lo hh h : Nat) (p : Pt) (P : List Pt) (w : World) (H : HM w lo hh h (p :: P)) :
    Calls Tryz.prog 45 #[.pointer (some ⟨h, 0, none⟩)] w (FgPost lo hh h p P w) := by
  have h1 := (H.pt p (List.mem_cons_self ..)).n1
  rcases Nat.lt_or_ge 1 p.xs.length with h2 | h2
  · exact forget_more lo hh h p P w H h2
  · exact forget_last lo hh h p P w H (by omega)
end Go.Proofs.YthicmbjiblbcmaaGreat

/- The contract of Next: the entries of the rows, one behind the other. -/
namespace Go.Proofs.YthicmbjiblbcmaaGreat
open Go.RowKit

theorem HM.under {A B : World} {lo hh h : Nat} {P : List Pt} (H : HM A lo hh h P) (hk : ∀ k, k < hh → B.heap[k]? = A.heap[k]?) (hu : ∀ (k : Nat) (cs : Array Value) (fr : Nat × Nat), A.heap[k]? = some (Obj.cells cs 5 fr) → B.heap[k]? = some (Obj.cells cs 5 fr)) : HM B lo hh h P := by
  obtain ⟨v, h1, h2, h3⟩ := H.hd
  refine ⟨H.h1, H.h2, ⟨v, (hk _ H.h2).trans h1, ?_, h3⟩, fun p hp => (H.pt p hp).heap (hk _ (H.pt p hp).g2) hu, H.nd, H.le⟩
  obtain ⟨q1, q2⟩ := h2
  refine ⟨q1, ?_⟩
  rcases q2 with q2 | ⟨g, cap, cur, rfl, hg, hw, r⟩
  · exact .inl q2
  · exact .inr ⟨g, cap, cur, rfl, hg, (hk g (h3 g rfl)).trans hw, r⟩
/-- A heap that tells these entries. -/
structure HS (w : World) (lo hh h : Nat) (T : List Tg) : Prop where
  m : ∃ P, HM w lo hh h P ∧ HQ lePt ptZ P 0 ∧ GoodP (P.map paP) ∧ T.Perm (tags (P.map paP))
  s : T.Pairwise ltG
  z : hh ≤ w.heap.size
theorem HS.below {A B : World} {lo hh h : Nat} {T : List Tg} (H : HS A lo hh h T) (hb : Below A.heap.size A B) : HS B lo hh h T := by
  obtain ⟨P, h1, h2, h3, h4⟩ := H.m
  exact ⟨⟨P, h1.below hb, h2, h3, h4⟩, H.s, Nat.le_trans H.z hb.size⟩
theorem rest_perm (p : Pt) (P : List Pt) : (tags ((restP p P).map paP)).Perm (tags ((p.xs.tail.map evE, p.r) :: P.map paP)) := by
  unfold restP
  by_cases h : p.xs.length ≤ 1
  · rw [if_pos h]
    have e : p.xs.tail = [] := by
      cases hx : p.xs with
      | nil => rfl
      | cons x xs => rw [hx] at h; simp at h; simpa using h
    rw [e]
    have h1 : (tags ((lastF P).map paP)).Perm (tags (P.map paP)) := tags_perm ((lastF_perm P).map paP)
    exact h1
  · rw [if_neg h]
    exact List.Perm.refl _
theorem rest_good (p : Pt) (P : List Pt) (hg : GoodP ((p :: P).map paP)) : GoodP ((restP p P).map paP) := by
  unfold restP
  by_cases h : p.xs.length ≤ 1
  · rw [if_pos h]
    have : GoodP (P.map paP) := ⟨fun q hq => hg.ne q (List.mem_cons_of_mem _ hq), fun q hq => hg.so q (List.mem_cons_of_mem _ hq), by
      have := hg.nd
      rw [List.map_cons, List.map_cons, List.nodup_cons] at this
      exact this.2⟩
    exact this.perm ((lastF_perm P).map paP)
  · rw [if_neg h]
    refine ⟨fun q hq => ?_, fun q hq => ?_, ?_⟩
    · rcases List.mem_cons.1 hq with rfl | hq
      · show p.xs.tail.map evE ≠ []
        intro e
        have := congrArg List.length e
        simp at this
        omega
      · exact hg.ne q (List.mem_cons_of_mem _ hq)
    · rcases List.mem_cons.1 hq with rfl | hq
      · have h1 := hg.so (paP p) (List.mem_cons_self ..)
        show (keysE (p.xs.tail.map evE)).Pairwise ltK
        cases hx : p.xs with
        | nil => exact List.Pairwise.nil
        | cons x xs =>
          have h2 : (keysE ((x :: xs).map evE)).Pairwise ltK := by rw [← hx]; exact h1
          unfold keysE at h2 ⊢
          rw [List.map_cons, List.map_cons, List.pairwise_cons] at h2
          exact h2.2
      · exact hg.so q (List.mem_cons_of_mem _ hq)
    · exact hg.nd
theorem getD_lastF (P : List Pt) (i : Nat) (h0 : 0 < i) (hi : i < P.length) : (lastF P).getD i ptZ = P.getD (i - 1) ptZ := by
  rcases List.eq_nil_or_concat P with rfl | ⟨L, b, rfl⟩
  · simp at hi
  · simp only [List.concat_eq_append] at hi ⊢
    have e : lastF (L ++ [b]) = b :: L := by simp [lastF]
    rw [e]
    obtain ⟨j, rfl⟩ : ∃ j, i = j + 1 := ⟨i - 1, by omega⟩
    simp at hi
    simp [List.getD, hi, List.getElem?_append_left hi]
theorem rest_heap (p : Pt) (P : List Pt) (h : HQ lePt ptZ (p :: P) 0) : HQ lePt ptZ (restP p P) 1 := by
  unfold restP
  by_cases hc : p.xs.length ≤ 1
  · rw [if_pos hc]
    intro i h1 h2 h3
    have hl : (lastF P).length = P.length := (lastF_perm P).length_eq
    rw [hl] at h1
    rw [getD_lastF P i h2 h1, getD_lastF P ((i - 1) / 2) (by omega) (by omega)]
    have := h i (by simp; omega) h2 (Nat.zero_le _)
    obtain ⟨j, rfl⟩ : ∃ j, i = j + 1 := ⟨i - 1, by omega⟩
    obtain ⟨k, hk⟩ : ∃ k, (j + 1 - 1) / 2 = k + 1 := ⟨(j + 1 - 1) / 2 - 1, by omega⟩
    rw [hk] at this ⊢
    simpa [List.getD] using this
  · rw [if_neg hc]
    intro i h1 h2 h3
    have := h i (by simpa using h1) h2 (Nat.zero_le _)
    obtain ⟨j, rfl⟩ : ∃ j, i = j + 1 := ⟨i - 1, by omega⟩
    obtain ⟨k, hk⟩ : ∃ k, (j + 1 - 1) / 2 = k + 1 := ⟨(j + 1 - 1) / 2 - 1, by omega⟩
    rw [hk] at this ⊢
    simpa [List.getD] using this
theorem lePt_irrefl (x : Pt) : ¬ lePt x x := ltT_irrefl _
theorem nlePt_trans (x y c : Pt) (h1 : ¬ lePt y x) (h2 : ¬ lePt c y) : ¬ lePt c x := nltT_trans h1 h2
/-- The first part is the least one. -/
theorem HQ.first {p : Pt} {P : List Pt} (h : HQ lePt ptZ (p :: P) 0) : ∀ q ∈ P.map paP, ¬ ltP q (paP p) := by
  intro q hq
  obtain ⟨r, hr, rfl⟩ := List.mem_map.1 hq
  obtain ⟨i, hi, rfl⟩ := List.getElem_of_mem hr
  have := HQ.least h lePt_irrefl nlePt_trans (i + 1) (by simpa using hi)
  have h2 : ¬ lePt P[i] p := by simpa [List.getD, hi] using this
  exact h2
def NxPost (lo hh h : Nat) (T : List Tg) (w : World) (e : Ending) (w' : World) : Prop :=
  Fr lo hh w w' ∧ match T with
  | [] => e = .returned (.tuple #[env (.slice none 0 0) agZ, .int .i64 0, .bool false]) ∧ HS w' lo hh h []
  | t :: T' => ∃ kv, e = .returned (.tuple #[env kv t.2, .int .i64 (t.1.2 : Int), .bool true]) ∧ Own w' lo kv t.1.1 ∧ HS w' lo hh h T'
set_option maxRecDepth 100000 in
set_option maxHeartbeats 2000000 in
theorem next_none (h : Nat) (w : World) (v : Value) (cap : Nat) (a : Option Addr) (hv : v = .slice a 0 cap) (hc : w.cell? ⟨h, 0, none⟩ = some v) : Calls Tryz.prog 24 #[.pointer (some ⟨h, 0, none⟩)] w fun e w' => e = .returned (.tuple #[env (.slice none 0 0) agZ, .int .i64 0, .bool false]) ∧ Below w.heap.size w w' := by
  subst hv
  have hbl := (cell_block hc).1
  simp only at hbl
  go_enter Tryz.func24, Tryz.ntmps24
  go_wp2_with fail
  refine bodyPost_ret (v := .tuple #[env (.slice none 0 0) agZ, .int .i64 0, .bool false]) (by simp [results, Tryz.results24, go_sem, env, agZ]; decide) rfl ⟨rfl, ?_⟩
  exact (Below.refl _ _).alloc (Nat.le_refl _) _
set_option maxRecDepth 100000 in
set_option maxHeartbeats 4000000 in
theorem next_some (lo hh h : Nat) (p : Pt) (P : List Pt) (w : World) (H : HM w lo hh h (p :: P)) (hsz : hh ≤ w.heap.size) (hq : HQ lePt ptZ (p :: P) 0) :
    Calls Tryz.prog 24 #[.pointer (some ⟨h, 0, none⟩)] w fun e w' => ∃ x xs, p.xs = x :: xs ∧ e = .returned (.tuple #[env x.kv x.a, .int .i64 (p.r : Int), .bool true]) ∧ Own w' lo x.kv x.k ∧ Fr lo hh w w' ∧ ∃ P', HM w' lo hh h P' ∧ P'.Perm (restP p P) ∧ HQ lePt ptZ P' 0 := by
  have hlo : lo ≤ w.heap.size := by have := H.h1; have := H.h2; omega
  obtain ⟨a, cap, e1, e2, e3, e4, e5⟩ := H.arr
  obtain ⟨gp, rfl, g1, g2, g3, g4⟩ := e5 (by simp)
  have hp := H.pt p (List.mem_cons_self ..)
  obtain ⟨x, xs, hx, hgs, hcx, hox⟩ := hp.first
  obtain ⟨y0, y1, _, _⟩ := g4 0 (by simp)
  have x1 := (cell_row e1 0 (by simp)).1
  have hbh := (Array.getElem?_eq_some_iff.1 e1).1
  have hn1 := hp.n1
  simp only [List.getElem_toArray, List.getElem_cons_zero, Nat.zero_mul, Nat.zero_add] at x1 y0 y1
  unfold lv at y0
  have HX : Hid (p.xs = x :: xs) := hx
  have HM0 : Hid _ := H
  have HO : Hid _ := hox
  have HQ0 : Hid _ := hq
  have c0 := (hcx 0 (by decide)).1
  have c1 := (hcx 1 (by decide)).1
  have c2 := (hcx 2 (by decide)).1
  have c3 := (hcx 3 (by decide)).1
  have c4 := (hcx 4 (by decide)).1
  have c5 := (hcx 5 (by decide)).1
  have c6 := (hcx 6 (by decide)).1
  simp only [c7, List.getElem_cons_zero, List.getElem_cons_succ, Nat.add_zero] at c0 c1 c2 c3 c4 c5 c6
  obtain ⟨ak, ck, hkv, _⟩ := hox.form
  obtain ⟨xkv, xk, xa⟩ := x
  simp only at hkv c0 c1 c2 c3 c4 c5 c6
  subst hkv
  clear hcx g4 e1 e2 e5 H hp hx hox hq
  have HPG : Hid (p = p) := rfl
  obtain ⟨pg, hpg⟩ := hid_ex p.g
  obtain ⟨po, hpo⟩ := hid_ex p.o
  obtain ⟨pc, hpc⟩ := hid_ex p.cap
  obtain ⟨pn, hpn⟩ := hid_ex p.xs.length
  obtain ⟨pr, hpr⟩ := hid_ex p.r
  rw [← hpg.out, ← hpo.out, ← hpn.out, ← hpc.out] at y0
  rw [← hpr.out] at y1 ⊢
  rw [← hpn.out] at hn1
  rw [← hpg.out, ← hpo.out] at c0 c1 c2 c3 c4 c5 c6
  rw [← hpg.out] at hgs
  obtain ⟨n, hnn⟩ := hid_ex (P.length + 1)
  have hn0 : 0 < n := by rw [hnn.out]; omega
  have hnb : ((n : Int) == 0) = false := by simp; omega
  rw [show (p :: P).length = n by rw [hnn.out]; rfl] at x1
  clear HPG
  go_enter Tryz.func24, Tryz.ntmps24
  go_wp2_with fail
  refine wp_region_noPanic ?_
  refine wp_region_held_drew (S := (fun w' => Below w.heap.size w w')) (by kernel_rfl) ?_ (fun hHeld => ?_)
  · exact ((Below.refl _ _).alloc (Nat.le_refl _) _).drew
  refine wpAnyH_take (i := 0) (v := .pointer (some ⟨h, 0, none⟩)) rfl (by kernel_rfl) (by kernel_rfl) (by kernel_rfl) (fun _ _ _ h => h) (Or.inl ⟨by rfl, ?_⟩) (by assumption) ?_
  · (intro w1 hSw; (try dsimp only at hSw); go_simp)
  simp only [List.getElem_toArray, List.getElem_cons_zero, Act.put, List.setIfInBounds_toArray, List.set_cons_zero, List.set_cons_succ]
  refine wpAnyH_take (i := 1) (v := .pointer (some ⟨h, 0, none⟩)) rfl (by kernel_rfl) (by kernel_rfl) (by kernel_rfl) (fun _ _ _ h => h) (Or.inl ⟨by rfl, ?_⟩) (by assumption) ?_
  · (intro w1 hSw; (try dsimp only at hSw); go_simp)
  simp only [List.getElem_toArray, List.getElem_cons_succ, List.getElem_cons_zero, Act.put, List.setIfInBounds_toArray, List.set_cons_zero, List.set_cons_succ]
  refine wpAnyH_take (i := 2) (v := .pointer (some ⟨h, 0, none⟩)) rfl (by kernel_rfl) (by kernel_rfl) (by kernel_rfl) (fun _ _ _ h => h) (Or.inl ⟨by rfl, ?_⟩) (by assumption) ?_
  · (intro w1 hSw; (try dsimp only at hSw); go_simp)
  simp only [List.getElem_toArray, List.getElem_cons_succ, List.getElem_cons_zero, Act.put, List.setIfInBounds_toArray, List.set_cons_zero, List.set_cons_succ]
  refine wpAnyH_take (i := 3) (v := .slice (some ⟨gp, 0, none⟩) n cap) rfl (by kernel_rfl) (by kernel_rfl) (by kernel_rfl) (fun _ _ _ h => h) (Or.inl ⟨by rfl, ?_⟩) (by assumption) ?_
  · (intro w1 hSw; (try dsimp only at hSw); have r0 := (hSw.cell (p := ⟨h, 0, none⟩) hbh).trans x1; go_simp)
  simp only [List.getElem_toArray, List.getElem_cons_succ, List.getElem_cons_zero, Act.put, List.setIfInBounds_toArray, List.set_cons_zero, List.set_cons_succ]
  refine wpAnyH_take (i := 4) (v := .pointer (some ⟨gp, 0, none⟩)) rfl (by kernel_rfl) (by kernel_rfl) (by kernel_rfl) (fun _ _ _ h => h) (Or.inl ⟨by rfl, ?_⟩) (by assumption) ?_
  · (intro w1 hSw; (try dsimp only at hSw); go_simp)
  simp only [List.getElem_toArray, List.getElem_cons_succ, List.getElem_cons_zero, Act.put, List.setIfInBounds_toArray, List.set_cons_zero, List.set_cons_succ]
  refine wpAnyH_take (i := 5) (v := .pointer (some ⟨gp, 0, none⟩)) rfl (by kernel_rfl) (by kernel_rfl) (by kernel_rfl) (fun _ _ _ h => h) (Or.inl ⟨by rfl, ?_⟩) (by assumption) ?_
  · (intro w1 hSw; (try dsimp only at hSw); go_simp)
  simp only [List.getElem_toArray, List.getElem_cons_succ, List.getElem_cons_zero, Act.put, List.setIfInBounds_toArray, List.set_cons_zero, List.set_cons_succ]
  refine wpAnyH_take (i := 6) (v := .slice (some ⟨pg, po, none⟩) pn pc) rfl (by kernel_rfl) (by kernel_rfl) (by kernel_rfl) (fun _ _ _ h => h) (Or.inl ⟨by rfl, ?_⟩) (by assumption) ?_
  · (intro w1 hSw; (try dsimp only at hSw); have r0 := (hSw.cell (p := ⟨gp, 0, none⟩) g3).trans y0; go_simp)
  simp only [List.getElem_toArray, List.getElem_cons_succ, List.getElem_cons_zero, Act.put, List.setIfInBounds_toArray, List.set_cons_zero, List.set_cons_succ]
  refine wpAnyH_take (i := 7) (v := .pointer (some ⟨pg, po, none⟩)) rfl (by kernel_rfl) (by kernel_rfl) (by kernel_rfl) (fun _ _ _ h => h) (Or.inl ⟨by rfl, ?_⟩) (by assumption) ?_
  · (intro w1 hSw; (try dsimp only at hSw); go_simp)
  simp only [List.getElem_toArray, List.getElem_cons_succ, List.getElem_cons_zero, Act.put, List.setIfInBounds_toArray, List.set_cons_zero, List.set_cons_succ]
  refine wpAnyH_take (i := 8) (v := .agg #[.slice ak xk.length ck, .int .u64 xa.c, .bool xa.o, .int .i64 (Go.Proofs.YthicmbjiblbcmaaGreat.hi xa.s), .int .u64 (Go.Proofs.YthicmbjiblbcmaaGreat.lo xa.s), .int .i64 xa.mn, .int .i64 xa.mx]) rfl (by kernel_rfl) (by kernel_rfl) (by kernel_rfl) (fun _ _ _ h => h) (Or.inl ⟨by rfl, ?_⟩) (by assumption) ?_
  · (intro w1 hSw; (try dsimp only at hSw); have r0 := (hSw.cell (p := ⟨pg, po, none⟩) hgs).trans c0; have r1 := (hSw.cell (p := ⟨pg, po + 1, none⟩) hgs).trans c1; have r2 := (hSw.cell (p := ⟨pg, po + 2, none⟩) hgs).trans c2; have r3 := (hSw.cell (p := ⟨pg, po + 3, none⟩) hgs).trans c3; have r4 := (hSw.cell (p := ⟨pg, po + 4, none⟩) hgs).trans c4; have r5 := (hSw.cell (p := ⟨pg, po + 5, none⟩) hgs).trans c5; have r6 := (hSw.cell (p := ⟨pg, po + 6, none⟩) hgs).trans c6; go_simp)
  simp only [List.getElem_toArray, List.getElem_cons_succ, List.getElem_cons_zero, Act.put, List.setIfInBounds_toArray, List.set_cons_zero, List.set_cons_succ]
  refine wpAnyH_take (i := 9) (v := .pointer (some ⟨h, 0, none⟩)) rfl (by kernel_rfl) (by kernel_rfl) (by kernel_rfl) (fun _ _ _ h => h) (Or.inl ⟨by rfl, ?_⟩) (by assumption) ?_
  · (intro w1 hSw; (try dsimp only at hSw); go_simp)
  simp only [List.getElem_toArray, List.getElem_cons_succ, List.getElem_cons_zero, Act.put, List.setIfInBounds_toArray, List.set_cons_zero, List.set_cons_succ]
  refine wpAnyH_take (i := 10) (v := .pointer (some ⟨h, 0, none⟩)) rfl (by kernel_rfl) (by kernel_rfl) (by kernel_rfl) (fun _ _ _ h => h) (Or.inl ⟨by rfl, ?_⟩) (by assumption) ?_
  · (intro w1 hSw; (try dsimp only at hSw); go_simp)
  simp only [List.getElem_toArray, List.getElem_cons_succ, List.getElem_cons_zero, Act.put, List.setIfInBounds_toArray, List.set_cons_zero, List.set_cons_succ]
  refine wpAnyH_take (i := 11) (v := .pointer (some ⟨h, 0, none⟩)) rfl (by kernel_rfl) (by kernel_rfl) (by kernel_rfl) (fun _ _ _ h => h) (Or.inl ⟨by rfl, ?_⟩) (by assumption) ?_
  · (intro w1 hSw; (try dsimp only at hSw); go_simp)
  simp only [List.getElem_toArray, List.getElem_cons_succ, List.getElem_cons_zero, Act.put, List.setIfInBounds_toArray, List.set_cons_zero, List.set_cons_succ]
  refine wpAnyH_take (i := 12) (v := .slice (some ⟨gp, 0, none⟩) n cap) rfl (by kernel_rfl) (by kernel_rfl) (by kernel_rfl) (fun _ _ _ h => h) (Or.inl ⟨by rfl, ?_⟩) (by assumption) ?_
  · (intro w1 hSw; (try dsimp only at hSw); have r0 := (hSw.cell (p := ⟨h, 0, none⟩) hbh).trans x1; go_simp)
  simp only [List.getElem_toArray, List.getElem_cons_succ, List.getElem_cons_zero, Act.put, List.setIfInBounds_toArray, List.set_cons_zero, List.set_cons_succ]
  refine wpAnyH_take (i := 13) (v := .pointer (some ⟨gp, 0, none⟩)) rfl (by kernel_rfl) (by kernel_rfl) (by kernel_rfl) (fun _ _ _ h => h) (Or.inl ⟨by rfl, ?_⟩) (by assumption) ?_
  · (intro w1 hSw; (try dsimp only at hSw); go_simp)
  simp only [List.getElem_toArray, List.getElem_cons_succ, List.getElem_cons_zero, Act.put, List.setIfInBounds_toArray, List.set_cons_zero, List.set_cons_succ]
  refine wpAnyH_take (i := 14) (v := .pointer (some ⟨gp, 1, none⟩)) rfl (by kernel_rfl) (by kernel_rfl) (by kernel_rfl) (fun _ _ _ h => h) (Or.inl ⟨by rfl, ?_⟩) (by assumption) ?_
  · (intro w1 hSw; (try dsimp only at hSw); go_simp)
  simp only [List.getElem_toArray, List.getElem_cons_succ, List.getElem_cons_zero, Act.put, List.setIfInBounds_toArray, List.set_cons_zero, List.set_cons_succ]
  refine wpAnyH_take (i := 15) (v := .int .i64 (pr : Int)) rfl (by kernel_rfl) (by kernel_rfl) (by kernel_rfl) (fun _ _ _ h => h) (Or.inl ⟨by rfl, ?_⟩) (by assumption) ?_
  · (intro w1 hSw; (try dsimp only at hSw); have r0 := (hSw.cell (p := ⟨gp, 1, none⟩) g3).trans y1; go_simp)
  simp only [List.getElem_toArray, List.getElem_cons_succ, List.getElem_cons_zero, Act.put, List.setIfInBounds_toArray, List.set_cons_zero, List.set_cons_succ]
  refine wpAnyH_ready (rs := [16]) (by kernel_rfl) (by simp) ?_
  refine AllReadyH.cons (o := _) rfl (fun K hK => ?_) AllReadyH.nil
  go_simp
  refine hK.out _ _ ?_ (fun hHeld => ?_)
  · exact (((Below.refl _ _).alloc (Nat.le_refl _) _).alloc (by simp) _).drew
  clear hK K
  refine wpAnyH_ready (rs := [17]) (by kernel_rfl) (by simp) ?_
  refine AllReadyH.cons (o := _) rfl (fun K hK => ?_) AllReadyH.nil
  go_simp
  refine hK.out _ _ ?_ (fun hHeld => ?_)
  · exact (((Below.refl _ _).alloc (Nat.le_refl _) _).alloc (by simp) _).drew
  clear hK K
  refine wpAnyH_take (i := 18) (v := .int .i64 (pr : Int)) rfl (by kernel_rfl) (by kernel_rfl) (by kernel_rfl) (fun _ _ _ h => h) (Or.inl ⟨by rfl, ?_⟩) (by assumption) ?_
  · (intro w1 hSw; (try dsimp only at hSw); go_simp)
  simp only [List.getElem_toArray, List.getElem_cons_succ, List.getElem_cons_zero, Act.put, List.setIfInBounds_toArray, List.set_cons_zero, List.set_cons_succ]
  refine wpAnyH_done (by kernel_rfl) ?_ _
  refine NoPanic.normal ?_
  obtain ⟨w2, HW2⟩ := hid_ex ((w.alloc (.cells #[.slice none 0 0, .int .u64 0, .bool false, .int .i64 0, .int .u64 0, .int .i64 0, .int .i64 0] 56)).alloc (.cells #[.slice ak xk.length ck, .int .u64 xa.c, .bool xa.o, .int .i64 (Go.Proofs.YthicmbjiblbcmaaGreat.hi xa.s), .int .u64 (Go.Proofs.YthicmbjiblbcmaaGreat.lo xa.s), .int .i64 xa.mn, .int .i64 xa.mx] 56)).drew
  have hb2 : Below w.heap.size w w2 := by rw [HW2.out]; exact (((Below.refl _ _).alloc (Nat.le_refl _) _).alloc (by simp) _).drew
  have HB2 : Hid (Below w.heap.size w w2) := hb2
  have HBa : Hid (w2.heap[w.heap.size]? = some (.cells #[.slice none 0 0, .int .u64 0, .bool false, .int .i64 0, .int .u64 0, .int .i64 0, .int .i64 0] 56)) := by rw [HW2.out]; exact (Below.heap_alloc _ _ _ (by simp)).trans (heap_alloc_new _ _)
  have HBb : Hid (w2.heap[w.heap.size + 1]? = some (.cells #[.slice ak xk.length ck, .int .u64 xa.c, .bool xa.o, .int .i64 (Go.Proofs.YthicmbjiblbcmaaGreat.hi xa.s), .int .u64 (Go.Proofs.YthicmbjiblbcmaaGreat.lo xa.s), .int .i64 xa.mn, .int .i64 xa.mx] 56)) := by
    rw [HW2.out]
    have := heap_alloc_new (w.alloc (.cells #[.slice none 0 0, .int .u64 0, .bool false, .int .i64 0, .int .u64 0, .int .i64 0, .int .i64 0] 56)) (.cells #[.slice ak xk.length ck, .int .u64 xa.c, .bool xa.o, .int .i64 (Go.Proofs.YthicmbjiblbcmaaGreat.hi xa.s), .int .u64 (Go.Proofs.YthicmbjiblbcmaaGreat.lo xa.s), .int .i64 xa.mn, .int .i64 xa.mx] 56)
    rw [World.size_alloc] at this
    exact this
  have HM2 : Hid (HM w2 lo hh h (p :: P)) := HM0.out.below hb2
  clear hb2
  rw [← HW2.out]
  go_wp2_with fail
  refine (forget_any lo hh h p P _ HM2.out).mono ?_
  rintro e w3 ⟨⟨v3, rfl⟩, hm3, hf3⟩
  have HM3 : Hid _ := hm3
  have HF3 : Hid (Fr lo hh w w3) := (Fr.of_below HB2.out hlo).trans hf3
  have HBa3 : Hid (w3.heap[w.heap.size]? = some (.cells #[.slice none 0 0, .int .u64 0, .bool false, .int .i64 0, .int .u64 0, .int .i64 0, .int .i64 0] 56)) := (hf3.h _ hsz (Array.getElem?_eq_some_iff.1 HBa.out).1).trans HBa.out
  have HBb3 : Hid (w3.heap[w.heap.size + 1]? = some (.cells #[.slice ak xk.length ck, .int .u64 xa.c, .bool xa.o, .int .i64 (Go.Proofs.YthicmbjiblbcmaaGreat.hi xa.s), .int .u64 (Go.Proofs.YthicmbjiblbcmaaGreat.lo xa.s), .int .i64 xa.mn, .int .i64 xa.mx] 56)) := (hf3.h _ (by omega) (Array.getElem?_eq_some_iff.1 HBb.out).1).trans HBb.out
  clear hm3 hf3 HM2
  go_wp2_with fail
  refine (sink_any lo hh h (restP p P) 0 (by omega) _ HM3.out (Nat.le_trans hsz HF3.out.b.size) (rest_heap p P HQ0.out)).mono ?_
  rintro e w4 ⟨⟨v4, rfl⟩, P', hm4, hpm4, hq4, hf4⟩
  have HM4 : Hid _ := hm4
  have HP4 : Hid _ := hpm4
  have HQ4 : Hid _ := hq4
  have HF4 : Hid (Fr lo hh w w4) := HF3.out.trans hf4
  have HBa4 : Hid (w4.heap[w.heap.size]? = some (.cells #[.slice none 0 0, .int .u64 0, .bool false, .int .i64 0, .int .u64 0, .int .i64 0, .int .i64 0] 56)) := (hf4.h _ hsz (Array.getElem?_eq_some_iff.1 HBa3.out).1).trans HBa3.out
  have HBb4 : Hid (w4.heap[w.heap.size + 1]? = some (.cells #[.slice ak xk.length ck, .int .u64 xa.c, .bool xa.o, .int .i64 (Go.Proofs.YthicmbjiblbcmaaGreat.hi xa.s), .int .u64 (Go.Proofs.YthicmbjiblbcmaaGreat.lo xa.s), .int .i64 xa.mn, .int .i64 xa.mx] 56)) := (hf4.h _ (by omega) (Array.getElem?_eq_some_iff.1 HBb3.out).1).trans HBb3.out
  clear hm4 hpm4 hq4 hf4 HM3 HF3 HBa3 HBb3 HBa HBb HB2 HW2 c0 c1 c2 c3 c4 c5 c6 x1 y0 y1
  have d0 := (cell_row HBb4.out 0 (by simp)).1
  have d1 := (cell_row HBb4.out 1 (by simp)).1
  have d2 := (cell_row HBb4.out 2 (by simp)).1
  have d3 := (cell_row HBb4.out 3 (by simp)).1
  have d4 := (cell_row HBb4.out 4 (by simp)).1
  have d5 := (cell_row HBb4.out 5 (by simp)).1
  have d6 := (cell_row HBb4.out 6 (by simp)).1
  simp only [List.getElem_toArray, List.getElem_cons_zero, List.getElem_cons_succ] at d0 d1 d2 d3 d4 d5 d6
  go_wp2_with (refine stop_store 56 _ _ rfl ?_)
  refine Stop.of ?_
  refine wpList_storeN rfl _ _ _ rfl w.heap.size 0 [.slice ak xk.length ck, .int .u64 xa.c, .bool xa.o, .int .i64 (Go.Proofs.YthicmbjiblbcmaaGreat.hi xa.s), .int .u64 (Go.Proofs.YthicmbjiblbcmaaGreat.lo xa.s), .int .i64 xa.mn, .int .i64 xa.mx] rfl rfl _ _ HBa4.out (by simp) (by kernel_rfl) (by kernel_rfl) ?_
  intro W hW
  obtain ⟨cur', k1, k2, k3, k4⟩ := hW.c
  have f0 := (Go.Joins.cell_of_block k1 0).trans (k4 0 (by simp))
  have f1 := (Go.Joins.cell_of_block k1 1).trans (k4 1 (by simp))
  have f2 := (Go.Joins.cell_of_block k1 2).trans (k4 2 (by simp))
  have f3 := (Go.Joins.cell_of_block k1 3).trans (k4 3 (by simp))
  have f4 := (Go.Joins.cell_of_block k1 4).trans (k4 4 (by simp))
  have f5 := (Go.Joins.cell_of_block k1 5).trans (k4 5 (by simp))
  have f6 := (Go.Joins.cell_of_block k1 6).trans (k4 6 (by simp))
  simp only [List.getElem_cons_zero, List.getElem_cons_succ] at f0 f1 f2 f3 f4 f5 f6
  have hu : ∀ (k : Nat) (cs : Array Value) (fr : Nat × Nat), w4.heap[k]? = some (Obj.cells cs 5 fr) → W.heap[k]? = some (Obj.cells cs 5 fr) := fun k cs fr q => (hW.o k (typ_ne q HBa4.out (by decide))).trans q
  have HFW : Hid (Fr lo hh w W) := ⟨HF4.out.b.trans (hW.b lo hlo), fun k hk hk2 => (hW.o k (by omega)).trans (HF4.out.h k hk hk2), fun k cs fr q => hu k cs fr (HF4.out.u k cs fr q)⟩
  have HMW : Hid (HM W lo hh h P') := HM4.out.under (fun k hk => hW.o k (by omega)) hu
  have HOW : Hid (Own W lo (.slice ak xk.length ck) xk) := HFW.out.own HO.out
  clear hW k1 k2 k3 k4 hu d0 d1 d2 d3 d4 d5 d6 HBa4 HBb4
  go_wp2_with fail
  refine bodyPost_ret (v := .tuple #[env (.slice ak xk.length ck) xa, .int .i64 (pr : Int), .bool true]) (by simp [results, Tryz.results24, go_sem, env, f0, f1, f2, f3, f4, f5, f6]) rfl ?_
  exact ⟨⟨_, xk, xa⟩, xs, HX.out, rfl, HOW.out, HFW.out, P', HMW.out, HP4.out, HQ4.out⟩
theorem next_any (lo hh h : Nat) (T : List Tg) (w : World) (H : HS w lo hh h T) : Calls Tryz.prog 24 #[.pointer (some ⟨h, 0, none⟩)] w (NxPost lo hh h T w) := by
  obtain ⟨P, h1, h2, h3, h4⟩ := H.m
  have hlo : lo ≤ w.heap.size := by have := h1.h1; have := h1.h2; have := H.z; omega
  cases P with
  | nil =>
    obtain ⟨a, cap, e1, _⟩ := h1.arr
    have ht : T = [] := List.Perm.eq_nil h4
    subst ht
    refine (next_none h w _ cap a rfl (cell_row e1 0 (by simp)).1).mono ?_
    rintro e w' ⟨rfl, hb⟩
    exact ⟨Fr.of_below hb hlo, rfl, H.below hb⟩
  | cons p P =>
    refine (next_some lo hh h p P w h1 H.z h2).mono ?_
    rintro e w' ⟨x, xs, hx, rfl, ho, hf, P', hm, hp, hq⟩
    obtain ⟨T', rfl, hT1, hT2⟩ := next_tag (p := paP p) (P := P.map paP) (e := evE x) (es := xs.map evE) h3 (by unfold paP; rw [hx]; rfl) h2.first H.s h4
    refine ⟨hf, x.kv, rfl, ho, ⟨P', hm, hq, ?_, ?_⟩, hT1, Nat.le_trans H.z hf.b.size⟩
    · exact (rest_good p P h3).perm (hp.map paP)
    · refine hT2.trans ?_
      have h5 := (rest_perm p P)
      rw [hx] at h5
      exact (h5.symm).trans (tags_perm (hp.map paP)).symm
end Go.Proofs.YthicmbjiblbcmaaGreat

/- The contract of isRow. -/
namespace Go.Proofs.YthicmbjiblbcmaaGreat
open Go.RowKit

theorem pw_snoc {N : List Ks} {k : Nat} (hk : k < N.length) (h : (N.take k).Pairwise ltK) (hl : 0 < k → ltK (N[k - 1]'(by omega)) N[k]) : (N.take (k + 1)).Pairwise ltK := by
  rw [List.take_add_one, List.getElem?_eq_getElem hk]
  show (N.take k ++ [N[k]]).Pairwise ltK
  rw [List.pairwise_append]
  refine ⟨h, List.pairwise_singleton _ _, fun x hx y hy => ?_⟩
  obtain rfl : y = N[k] := by simpa using hy
  obtain ⟨i, hi, rfl⟩ := List.getElem_of_mem hx
  simp at hi
  rw [List.getElem_take]
  have h0 := hl (by omega)
  rcases Nat.lt_or_ge i (k - 1) with h1 | h1
  · have := List.pairwise_iff_getElem.1 h i (k - 1) (by simp; omega) (by simp; omega) h1
    rw [List.getElem_take, List.getElem_take] at this
    exact ltK_trans this h0
  · have e : i = k - 1 := by omega
    subst e; exact h0
def eF (L : List En) : Int := if L.all (fun x => rightB x.2) then 0 else 3
theorem rowF_bad {L : List En} {k : Nat} (hk : k < L.length) (h0 : 0 < k) (h : ¬ ltK (L[k - 1]'(by omega)).1 L[k].1) : rowF L = 50 := by
  unfold rowF
  rw [if_pos]
  intro hp
  have := List.pairwise_iff_getElem.1 hp (k - 1) k (by simp [keysE]; omega) (by simpa [keysE] using hk) (by omega)
  simp only [keysE, List.getElem_map] at this
  exact h this
theorem rowF_end {L : List En} (h : (keysE L).Pairwise ltK) : rowF L = eF L := by
  unfold rowF eF
  rw [if_neg (fun hn => hn h)]
theorem eF_snoc (L : List En) (x : En) : eF (L ++ [x]) = if rightB x.2 = true then eF L else 3 := by
  unfold eF
  have e : (L ++ [x]).all (fun x => rightB x.2) = (L.all (fun x => rightB x.2) && rightB x.2) := by simp
  rw [e]
  cases rightB x.2
  · simp
  · rw [Bool.and_true]; rfl
theorem eReads_at {w : World} {v : Value} {L : List En} (h : EReads w v L) {k : Nat} (hk : k < L.length) {b off : Nat} {cap n : Nat} (hv : v = .slice (some ⟨b, off, none⟩) n cap) : ∃ kv, (∀ i (hi : i < 7), w.cell? ⟨b, off + k * 7 + i, none⟩ = some ((c7 ⟨kv, L[k].1, L[k].2⟩)[i]'hi)) ∧ Reads w kv L[k].1 ∧ CnOk L[k].2 := by
  obtain ⟨a, cap', hv', h1, h2, h3⟩ := h
  rw [hv] at hv'
  simp at hv'
  obtain ⟨rfl, rfl, rfl⟩ := hv'
  rcases h3 with rfl | ⟨b', off', h4, h5, h6⟩
  · simp at hk
  · simp at h4
    obtain ⟨rfl, rfl⟩ := h4
    obtain ⟨kv, g1, g2, g3⟩ := h6 k hk
    exact ⟨kv, fun i hi => by rw [show off + k * 7 + i = off + (7 * k + i) by omega]; exact g1 i hi, g2, g3⟩
theorem eReads_some {w : World} {v : Value} {L : List En} (h : EReads w v L) (h0 : 0 < L.length) : ∃ b off cap, v = .slice (some ⟨b, off, none⟩) L.length cap ∧ b < w.heap.size := by
  obtain ⟨a, cap, rfl, h1, h2, h3⟩ := h
  rcases h3 with rfl | ⟨b, off, rfl, h5, h6⟩
  · simp at h0
  · exact ⟨b, off, cap, rfl, h5⟩
theorem eReads_cap {w : World} {a : Option Addr} {n cap : Nat} {L : List En} (h : EReads w (.slice a n cap) L) : n ≤ cap ∧ cap ≤ maxLen := by
  obtain ⟨a', cap', hv, h1, h2, _⟩ := h
  simp at hv
  obtain ⟨_, rfl, rfl⟩ := hv
  exact ⟨h1, h2⟩
set_option maxRecDepth 100000 in
set_option maxHeartbeats 2000000 in
theorem isRow_some (b off cap : Nat) (L : List En) (w : World) (hE : EReads w (.slice (some ⟨b, off, none⟩) L.length cap) L) :
    Calls Tryz.prog 42 #[.slice (some ⟨b, off, none⟩) L.length cap] w fun e w' => e = .returned (.int .i64 (rowF L)) ∧ Below w.heap.size w w' := by
  have HE : Hid (EReads w (.slice (some ⟨b, off, none⟩) L.length cap) L) := hE
  obtain ⟨hm1, hm2⟩ := eReads_cap hE
  unfold maxLen at hm2
  clear hE
  go_enter Tryz.func42, Tryz.ntmps42
  go_wp2_with fail
  go_loopw [3, 8] (fun ev i wr => ∃ k : Nat, k ≤ L.length ∧ i = .int .i64 (k : Int) ∧ ev = .int .i64 (eF (L.take k)) ∧ Hid ((keysE L).take k |>.Pairwise ltK) ∧ Hid (Below w.heap.size w wr)) (fun _ i _ => L.length - (intOf i).toNat)
  case atStart => exact ⟨0, by omega, rfl, rfl, List.Pairwise.nil, Below.refl _ _⟩
  case round =>
    obtain ⟨k, hk, rfl, rfl, HP, HB⟩ := hrel
    by_cases hlt : k < L.length
    · obtain ⟨ee, Hee⟩ := hid_ex (eF (L.take k))
      rw [← Hee.out]
      obtain ⟨kv, hc, hR, hA⟩ := eReads_at (HE.out.below HB.out) hlt rfl
      have HKL : Hid (k < (keysE L).length) := by unfold Hid keysE; simpa using hlt
      have HXE : Hid (eF (L.take (k + 1)) = if rightB L[k].2 = true then ee else 3) := by
        unfold Hid
        rw [List.take_add_one, List.getElem?_eq_getElem hlt, Hee.out]
        exact eF_snoc _ _
      have HPN : Hid ((0 < k → ltK (L[k - 1]'(by omega)).1 L[k].1) → ((keysE L).take (k + 1)).Pairwise ltK) := fun h => pw_snoc HKL.out HP.out (fun h0 => by simpa [keysE] using h h0)
      have HBD : Hid (0 < k → ¬ ltK (L[k - 1]'(by omega)).1 L[k].1 → rowF L = 50) := fun h0 h => rowF_bad hlt h0 h
      have HPV : Hid (0 < k → ∃ kv', wr.cell? ⟨b, off + (k - 1) * 7, none⟩ = some kv' ∧ Reads wr kv' (L[k - 1]'(by omega)).1) := fun h0 => by
        obtain ⟨kv', hc', hR', _⟩ := eReads_at (HE.out.below HB.out) (k := k - 1) (by omega) rfl
        exact ⟨kv', hc' 0 (by decide), hR'⟩
      obtain ⟨X, HX⟩ := hid_ex L[k]
      rw [← HX.out] at hR hA hc HXE HPN HBD
      have c0 := hc 0 (by decide)
      have c1 := hc 1 (by decide)
      have c2 := hc 2 (by decide)
      have c3 := hc 3 (by decide)
      have c4 := hc 4 (by decide)
      have c5 := hc 5 (by decide)
      have c6 := hc 6 (by decide)
      simp only [c7, List.getElem_cons_zero, List.getElem_cons_succ, Nat.add_zero] at c0 c1 c2 c3 c4 c5 c6
      obtain ⟨ak, ck, hkv, _⟩ := hR.form
      subst hkv
      obtain ⟨w2, HW2⟩ := hid_ex (wr.alloc (.cells #[.slice ak X.1.length ck, .int .u64 X.2.c, .bool X.2.o, .int .i64 (hi X.2.s), .int .u64 (lo X.2.s), .int .i64 X.2.mn, .int .i64 X.2.mx] 56))
      have hb2 : Below wr.heap.size wr w2 := by rw [HW2.out]; exact (Below.refl _ _).alloc (Nat.le_refl _) _
      have HB2 : Hid (Below w.heap.size w w2) := HB.out.trans (hb2.mono HB.out.size)
      have HR2 : Hid (Reads w2 (.slice ak X.1.length ck) X.1) := hR.below hb2
      have HBX : Hid (w2.heap[wr.heap.size]? = some (.cells #[.slice ak X.1.length ck, .int .u64 X.2.c, .bool X.2.o, .int .i64 (hi X.2.s), .int .u64 (lo X.2.s), .int .i64 X.2.mn, .int .i64 X.2.mx] 56)) := by rw [HW2.out]; exact heap_alloc_new _ _
      have HPV2 : Hid (0 < k → ∃ kv', w2.cell? ⟨b, off + (k - 1) * 7, none⟩ = some kv' ∧ Reads w2 kv' (L[k - 1]'(by omega)).1) := fun h0 => by
        obtain ⟨kv', q1, q2⟩ := HPV.out h0
        exact ⟨kv', (hb2.cell (cell_block q1).1).trans q1, q2.below hb2⟩
      clear hc hR hb2 HPV HE
      go_wp2_with fail
      rw [← HW2.out]
      clear c0 c1 c2 c3 c4 c5 c6
      have b0 := (cell_row HBX.out 0 (by simp)).1
      simp only [List.getElem_toArray, List.getElem_cons_zero] at b0
      rcases Nat.eq_zero_or_pos k with hk0 | hk0
      · subst hk0
        have HPP : Hid (((keysE L).take (0 + 1)).Pairwise ltK) := HPN.out (fun h => by omega)
        clear HPV2 HBD HPN
        go_quiet (fail)
        have HB3 : Hid (Below w.heap.size w (w2.drewN nq)) := below_drewN HB2.out nq
        have HBX3 : Hid ((w2.drewN nq).heap[wr.heap.size]? = some (.cells #[.slice ak X.1.length ck, .int .u64 X.2.c, .bool X.2.o, .int .i64 (hi X.2.s), .int .u64 (lo X.2.s), .int .i64 X.2.mn, .int .i64 X.2.mx] 56)) := HBX.out
        clear b0
        have d1 := (cell_row HBX3.out 1 (by simp)).1
        have d2 := (cell_row HBX3.out 2 (by simp)).1
        have d3 := (cell_row HBX3.out 3 (by simp)).1
        have d4 := (cell_row HBX3.out 4 (by simp)).1
        have d5 := (cell_row HBX3.out 5 (by simp)).1
        have d6 := (cell_row HBX3.out 6 (by simp)).1
        simp only [List.getElem_toArray, List.getElem_cons_zero, List.getElem_cons_succ] at d1 d2 d3 d4 d5 d6
        go_wp2_with fail
        refine (right_any X.2 _).mono ?_
        rintro e w4 ⟨rfl, hb4⟩
        have HB4 : Hid (Below w.heap.size w w4) := HB3.out.trans (hb4.mono HB3.out.size)
        clear d1 d2 d3 d4 d5 d6 hb4 HBX3 HB3
        cases hrb : rightB X.2 with
        | true =>
          rw [hrb, if_pos rfl] at HXE
          clear hrb
          go_wp2_with fail
          go_roundw
          case rel => exact ⟨0 + 1, by omega, by go_num, by rw [HXE.out], HPP.out, HB4⟩
          case measure => simp [intOf]; omega
        | false =>
          rw [hrb, if_neg (by simp)] at HXE
          clear hrb
          go_wp2_with fail
          go_roundw
          case rel => exact ⟨0 + 1, by omega, by go_num, by rw [HXE.out], HPP.out, HB4⟩
          case measure => simp [intOf]; omega
      · obtain ⟨j, rfl⟩ : ∃ j, k = j + 1 := ⟨k - 1, by omega⟩
        obtain ⟨kv', q0, hR0⟩ := HPV2.out hk0
        simp only [Nat.add_sub_cancel] at q0 hR0 HPN HBD
        obtain ⟨Y, HY⟩ := hid_ex (L[j]'(by omega)).1
        rw [← HY.out] at hR0 HPN HBD
        obtain ⟨ay, cy, hkv, _⟩ := hR0.form
        subst hkv
        have HR0 : Hid (Reads w2 (.slice ay Y.length cy) Y) := hR0
        clear HPV2 hR0
        obtain ⟨cc, HC⟩ := hid_ex (Lib.compareBytes Y X.1)
        by_cases hlk : ltK Y X.1
        · have hcc : cc < 0 := by rw [HC.out]; unfold ltK at hlk; omega
          have HPP : Hid (((keysE L).take (j + 1 + 1)).Pairwise ltK) := HPN.out (fun _ => hlk)
          clear hlk HBD HPN
          go_quiet (exact (cmp_any _ _ Y X.1 _ (HR0.out.below (below_drewN (Below.refl _ _) _)) (HR2.out.below (below_drewN (Below.refl _ _) _))).mono (fun e w h => ⟨by rw [h.1, ← HC.out], _, h.2⟩))
          have HB3 : Hid (Below w.heap.size w (w2.drewN nq)) := below_drewN HB2.out nq
          have HBX3 : Hid ((w2.drewN nq).heap[wr.heap.size]? = some (.cells #[.slice ak X.1.length ck, .int .u64 X.2.c, .bool X.2.o, .int .i64 (hi X.2.s), .int .u64 (lo X.2.s), .int .i64 X.2.mn, .int .i64 X.2.mx] 56)) := HBX.out
          clear b0 q0
          have d1 := (cell_row HBX3.out 1 (by simp)).1
          have d2 := (cell_row HBX3.out 2 (by simp)).1
          have d3 := (cell_row HBX3.out 3 (by simp)).1
          have d4 := (cell_row HBX3.out 4 (by simp)).1
          have d5 := (cell_row HBX3.out 5 (by simp)).1
          have d6 := (cell_row HBX3.out 6 (by simp)).1
          simp only [List.getElem_toArray, List.getElem_cons_zero, List.getElem_cons_succ] at d1 d2 d3 d4 d5 d6
          go_wp2_with fail
          refine (right_any X.2 _).mono ?_
          rintro e w4 ⟨rfl, hb4⟩
          have HB4 : Hid (Below w.heap.size w w4) := HB3.out.trans (hb4.mono HB3.out.size)
          clear d1 d2 d3 d4 d5 d6 hb4 HBX3 HB3
          cases hrb : rightB X.2 with
          | true =>
            rw [hrb, if_pos rfl] at HXE
            clear hrb
            go_wp2_with fail
            go_roundw
            case rel => exact ⟨j + 1 + 1, by omega, by go_num, by rw [HXE.out], HPP.out, HB4⟩
            case measure => simp [intOf]; omega
          | false =>
            rw [hrb, if_neg (by simp)] at HXE
            clear hrb
            go_wp2_with fail
            go_roundw
            case rel => exact ⟨j + 1 + 1, by omega, by go_num, by rw [HXE.out], HPP.out, HB4⟩
            case measure => simp [intOf]; omega
        · have hcc : 0 ≤ cc := by rw [HC.out]; exact cmp_ge.2 hlk
          have HPP : Hid (rowF L = 50) := HBD.out hk0 hlk
          clear hlk HBD HPN
          go_quiet (exact (cmp_any _ _ Y X.1 _ (HR0.out.below (below_drewN (Below.refl _ _) _)) (HR2.out.below (below_drewN (Below.refl _ _) _))).mono (fun e w h => ⟨by rw [h.1, ← HC.out], _, h.2⟩))
          have HB3 : Hid (Below w.heap.size w (w2.drewN nq)) := below_drewN HB2.out nq
          go_wp2_with fail
          go_ret
          exact ⟨by rw [HPP.out]; rfl, HB3.out⟩
    · have hke : k = L.length := by omega
      have HEnd : Hid (rowF L = eF (L.take k)) := by
        unfold Hid
        subst hke
        rw [List.take_length]
        have h1 := HP.out
        rw [List.take_of_length_le (by simp [keysE])] at h1
        exact rowF_end h1
      go_wp2_with fail
      go_ret
      exact ⟨by rw [HEnd.out]; rfl, HB.out⟩
set_option maxRecDepth 100000 in
set_option maxHeartbeats 1000000 in
theorem isRow_none (a : Option Addr) (cap : Nat) (w : World) :
    Calls Tryz.prog 42 #[.slice a 0 cap] w fun e w' => e = .returned (.int .i64 0) ∧ w' = w := by
  go_enter Tryz.func42, Tryz.ntmps42
  go_wp2_with fail
  go_loopw [3, 8] (fun ev i wr => i = .int .i64 0 ∧ ev = .int .i64 0 ∧ Hid (wr = w)) (fun _ _ _ => 0)
  case atStart => exact ⟨rfl, rfl, rfl⟩
  case round =>
    obtain ⟨rfl, rfl, HW⟩ := hrel
    go_wp2_with fail
    go_ret
    exact ⟨rfl, HW.out⟩
theorem isRow_any (v : Value) (L : List En) (w : World) (hE : EReads w v L) :
    Calls Tryz.prog 42 #[v] w fun e w' => e = .returned (.int .i64 (rowF L)) ∧ Below w.heap.size w w' := by
  rcases Nat.eq_zero_or_pos L.length with h0 | h0
  · obtain ⟨a, cap, rfl, _⟩ := hE.form
    have hL : L = [] := List.length_eq_zero_iff.1 h0
    subst hL
    refine (isRow_none a cap w).mono ?_
    rintro e w' ⟨rfl, hw'⟩
    subst w'
    exact ⟨by unfold rowF; simp [keysE], Below.refl _ _⟩
  · obtain ⟨b, off, cap, rfl, _⟩ := eReads_some hE h0
    exact isRow_some b off cap L w hE
end Go.Proofs.YthicmbjiblbcmaaGreat
