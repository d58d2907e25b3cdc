/- The contract of forget. -/
import Derived.Test.YtdamlnpfpfpeeaaMG5
namespace Go.Proofs.Ytdamlnpfpfpeeaa
open Go.RowKit

theorem flat2_len : ∀ P : List Pt, (P.flatMap p2).length = P.length * 2
  | [] => rfl
  | p :: P => by rw [List.flatMap_cons, List.length_append, flat2_len P]; show 2 + _ = _; simp; omega
/-- What is stored when the first part has gone. -/
def dropW (w : World) (gp m : Nat) (av x y : Value) : World :=
  ((((w.setCell ⟨gp, 0, none⟩ av).setCell ⟨gp, 0, none⟩ x).setCell ⟨gp, 1, none⟩ y).setCell ⟨gp, m * 2, none⟩ (.slice none 0 0)).setCell ⟨gp, m * 2 + 1, none⟩ (.int .i64 0)
theorem drop_row {w : World} {lo gp cap : Nat} {p : Pt} {P : List Pt} {av x y : Value} (h : w.ownsRow lo 53 2 (.slice (some ⟨gp, 0, none⟩) (p :: P).length cap) (p :: P).length ((p :: P).flatMap p2))
    (hl : ∀ l, P.getLast? = some l → x = lv l ∧ y = .int .i64 (l.r : Int)) : (dropW w gp P.length av x y).ownsRow lo 53 2 (.slice (some ⟨gp, 0, none⟩) P.length cap) P.length ((lastF P).flatMap p2) := by
  have h1 := (World.ownsRow.stored h 0 av).1
  have h2 := (World.ownsRow.stored h1 0 x).1
  have h3 := (World.ownsRow.stored h2 1 y).1
  have h4 := (World.ownsRow.stored h3 (P.length * 2) (.slice none 0 0)).1
  have h5 := (World.ownsRow.stored h4 (P.length * 2 + 1) (.int .i64 0)).1
  have h6 := row_take h5 P.length (by simp)
  have e : ((((((((p :: P).flatMap p2).set 0 av).set 0 x).set 1 y).set (P.length * 2) (.slice none 0 0)).set (P.length * 2 + 1) (.int .i64 0)).take (P.length * 2)) = (lastF P).flatMap p2 := by
    rw [List.take_set_of_le (by omega), List.take_set_of_le (by omega)]
    rcases List.eq_nil_or_concat P with rfl | ⟨L, b, rfl⟩
    · rfl
    · simp only [List.concat_eq_append] at hl ⊢
      obtain ⟨rfl, rfl⟩ := hl b (by simp)
      have e1 : lastF (L ++ [b]) = b :: L := by simp [lastF]
      rw [e1, List.flatMap_cons, List.flatMap_append, List.flatMap_cons, List.length_append]
      show List.take ((L.length + 1) * 2) (lv b :: .int .i64 (b.r : Int) :: (L.flatMap p2 ++ List.flatMap p2 [b])) = _
      have hlen := flat2_len L
      rw [show (L.length + 1) * 2 = L.length * 2 + 1 + 1 by omega, List.take_succ_cons, List.take_succ_cons, List.take_append_of_le_length (by omega), List.take_of_length_le (by omega)]
      rfl
  rw [e] at h6
  exact h6
theorem dropW_other (w : World) (gp m : Nat) (av x y : Value) (k : Nat) (h : k ≠ gp) : (dropW w gp m av x y).heap[k]? = w.heap[k]? := by
  unfold dropW
  rw [Below.heap_setCell _ _ _ _ h, Below.heap_setCell _ _ _ _ h, Below.heap_setCell _ _ _ _ h, Below.heap_setCell _ _ _ _ h, Below.heap_setCell _ _ _ _ h]
theorem dropW_below {w : World} {gp m lo : Nat} {av x y : Value} (h : lo ≤ gp) : Below lo w (dropW w gp m av x y) := by
  unfold dropW
  exact (((((Below.refl _ _).setCell h _).setCell h _).setCell h _).setCell h _).setCell h _
theorem HM.last {w : World} {lo hh h gp cap : Nat} {p : Pt} {P : List Pt} {av x y : Value} (H : HM w lo hh h (p :: P)) (hv : w.heap[h]? = some (.cells #[.slice (some ⟨gp, 0, none⟩) (p :: P).length cap] 50)) (hrow : w.ownsRow lo 53 2 (.slice (some ⟨gp, 0, none⟩) (p :: P).length cap) (p :: P).length ((p :: P).flatMap p2))
    (hgl : lo ≤ gp) (hgh : gp < hh) (hl : ∀ l, P.getLast? = some l → x = lv l ∧ y = .int .i64 (l.r : Int)) {W : World} {cur : Array Value} {vs : List Value} (hcur : w.heap[p.g]? = some (.cells cur 36)) (hW : StW w W p.g p.o cur 36 vs) :
    HM ((dropW W gp P.length av x y).setCell ⟨h, 0, none⟩ (.slice (some ⟨gp, 0, none⟩) P.length cap)) lo hh h (lastF P) ∧ Fr lo hh w ((dropW W gp P.length av x y).setCell ⟨h, 0, none⟩ (.slice (some ⟨gp, 0, none⟩) P.length cap)) := by
  have hp := H.pt p (List.mem_cons_self ..)
  obtain ⟨pc, hpc⟩ := row_block hrow
  have n1 : gp ≠ p.g := typ_ne hpc hcur (by decide)
  have n2 : h ≠ p.g := typ_ne hv hcur (by decide)
  have n3 : h ≠ gp := typ_ne hv hpc (by decide)
  have hoth : ∀ k, k ≠ gp → k ≠ p.g → k ≠ h → ((dropW W gp P.length av x y).setCell ⟨h, 0, none⟩ (.slice (some ⟨gp, 0, none⟩) P.length cap)).heap[k]? = w.heap[k]? := fun k h1 h2 h3 => by rw [Below.heap_setCell _ _ _ _ h3, dropW_other _ _ _ _ _ _ _ h1, hW.o _ h2]
  have hu : ∀ (k : Nat) (cs : Array Value) (fr : Nat × Nat), w.heap[k]? = some (Obj.cells cs 5 fr) → ((dropW W gp P.length av x y).setCell ⟨h, 0, none⟩ (.slice (some ⟨gp, 0, none⟩) P.length cap)).heap[k]? = some (Obj.cells cs 5 fr) := fun k cs fr q => (hoth k (typ_ne q hpc (by decide)) (typ_ne q hcur (by decide)) (typ_ne q hv (by decide))).trans q
  have hh0 : (dropW W gp P.length av x y).heap[h]? = some (.cells #[.slice (some ⟨gp, 0, none⟩) (p :: P).length cap] 50) := by rw [dropW_other _ _ _ _ _ _ _ n3, hW.o _ n2]; exact hv
  have r1 := drop_row (av := av) (x := x) (y := y) (row_heap hrow (hW.o gp n1)) hl
  have hlen : (lastF P).length = P.length := (lastF_perm P).length_eq
  refine ⟨⟨H.h1, H.h2, ⟨.slice (some ⟨gp, 0, none⟩) P.length cap, ?_, ?_, fun k hk => by simp [Value.ownBlock] at hk; omega⟩, fun q hq => ?_, ?_, by rw [hlen]; have := H.le; simp at this; omega⟩, ⟨((hW.b lo hp.g1).trans (dropW_below hgl)).trans ((Below.refl _ _).setCell H.h1 _), fun k hk _ => hoth k (by omega) (by have := hp.g2; omega) (by have := H.h2; omega), hu⟩⟩
  · have := heap_setCell_same _ h 0 _ _ (.slice (some ⟨gp, 0, none⟩) P.length cap) hh0
    simpa using this
  · rw [hlen]
    exact row_heap r1 (Below.heap_setCell _ _ _ _ (Ne.symm n3))
  · have hq := (lastF_perm P).mem_iff.1 hq
    have hne : q.g ≠ p.g := by
      have hn := H.nd
      rw [List.map_cons, List.nodup_cons] at hn
      intro e
      exact hn.1 (e ▸ List.mem_map.2 ⟨q, hq, rfl⟩)
    have hqo := H.pt q (List.mem_cons_of_mem _ hq)
    obtain ⟨cq, hcq, _⟩ := hqo.ce
    exact hqo.heap (hoth _ (typ_ne hcq hpc (by decide)) hne (typ_ne hcq hv (by decide))) hu
  · have hn := H.nd
    rw [List.map_cons, List.nodup_cons] at hn
    exact ((lastF_perm P).map Pt.g).nodup_iff.2 hn.2
/-- What is left of the parts. -/
def restP (p : Pt) (P : List Pt) : List Pt := if p.xs.length ≤ 1 then lastF P else tlP p :: P
def FgPost (lo hh h : Nat) (p : Pt) (P : List Pt) (w : World) (e : Ending) (w' : World) : Prop := (∃ v, e = .returned v) ∧ HM w' lo hh h (restP p P) ∧ Fr lo hh w w'
theorem PtOk.fit {w : World} {lo hh : Nat} {p : Pt} (h : PtOk w lo hh p) : ∃ cur, w.heap[p.g]? = some (.cells cur 36) ∧ p.o + 7 ≤ cur.size := by
  obtain ⟨cur, h1, h2⟩ := h.ce
  refine ⟨cur, h1, ?_⟩
  have := h2 0 h.n1 6 (by decide)
  have h3 := (Array.getElem?_eq_some_iff.1 this).1
  omega
def zr7 : List Value := [.slice none 0 0, .int .u64 0, .bool false, .int .i64 0, .int .u64 0, .int .i64 0, .int .i64 0]
set_option maxRecDepth 100000 in
set_option maxHeartbeats 2000000 in
theorem forget_more (lo hh h : Nat) (p : Pt) (P : List Pt) (w : World) (H : HM w lo hh h (p :: P)) (hn : 1 < p.xs.length) :
    Calls Try.prog 18 #[.pointer (some ⟨h, 0, none⟩)] w (FgPost lo hh h p P w) := by
  have HR : Hid (restP p P = tlP p :: P) := by unfold Hid restP; rw [if_neg (by omega)]
  obtain ⟨a, cap, e1, e2, e3, e4, e5⟩ := H.arr
  obtain ⟨gp, rfl, g1, g2, g3, g4⟩ := e5 (by simp)
  have hp := H.pt p (List.mem_cons_self ..)
  obtain ⟨cur, hcur, hfit⟩ := hp.fit
  obtain ⟨pc0, hpc⟩ := row_block e2
  have n1 : gp ≠ p.g := typ_ne hpc hcur (by decide)
  have n2 : h ≠ p.g := typ_ne e1 hcur (by decide)
  have HT : Hid (∀ W, StW w W p.g p.o cur 36 zr7 → _) := fun W hW => H.tail e1 e2 g1 g2 hn hcur hW rfl
  obtain ⟨y0, y1, y2, y3⟩ := g4 0 (by simp)
  obtain ⟨a', hsl, ha'⟩ := tail_sl p.g p.o p.xs.length p.cap (by omega) hp.n2
  obtain rfl := ha' hn
  have k2 := hp.n2
  have x1 := (cell_row e1 0 (by simp)).1
  simp only [List.getElem_toArray, List.getElem_cons_zero, Nat.zero_mul, Nat.zero_add] at x1 y0 y1 y2 y3
  unfold lv at y0
  unfold tlP lv at HT
  simp only [List.length_tail] at HT
  obtain ⟨pg, po, pc, pxs, pr⟩ := p
  simp only at *
  have hpl : (0 : Int) < ((pxs.length - 1 : Nat) : Int) := by omega
  have HCUR : Hid (w.heap[pg]? = some (.cells cur 36)) := hcur
  clear g4 e1 e2 e5 H hp hcur hpc ha'
  go_enter Try.func18, Try.ntmps18
  go_wp2_with (refine stop_store 36 _ _ rfl ?_)
  refine Stop.of ?_
  refine wpList_storeN rfl _ _ _ rfl pg po zr7 rfl rfl cur _ HCUR.out hfit (by kernel_rfl) (by kernel_rfl) ?_
  intro W hW
  have z0 := (World.cell?_of_block (hW.o gp n1) (a := ⟨gp, 0, none⟩)).trans y0
  have z1 := (World.frozen?_of_block (hW.o gp n1) (a := ⟨gp, 0, none⟩)).trans y2
  have HW : Hid _ := HT.out W hW
  clear hW y0 y1 y2 y3
  go_wp2_with fail
  refine bodyPost_ret (results_none rfl _ _ _) rfl ?_
  exact ⟨⟨_, rfl⟩, by rw [HR.out]; exact HW.out.1, HW.out.2⟩
set_option maxRecDepth 100000 in
set_option maxHeartbeats 2000000 in
theorem forget_last (lo hh h : Nat) (p : Pt) (P : List Pt) (w : World) (H : HM w lo hh h (p :: P)) (hn : p.xs.length = 1) :
    Calls Try.prog 18 #[.pointer (some ⟨h, 0, none⟩)] w (FgPost lo hh h p P w) := by
  have HR : Hid (restP p P = lastF P) := by unfold Hid restP; rw [if_pos (by omega)]
  obtain ⟨a, cap, e1, e2, e3, e4, e5⟩ := H.arr
  obtain ⟨gp, rfl, g1, g2, g3, g4⟩ := e5 (by simp)
  have hp := H.pt p (List.mem_cons_self ..)
  obtain ⟨cur, hcur, hfit⟩ := hp.fit
  obtain ⟨pc0, hpc⟩ := row_block e2
  have n1 : gp ≠ p.g := typ_ne hpc hcur (by decide)
  have n2 : h ≠ p.g := typ_ne e1 hcur (by decide)
  have n3 : h ≠ gp := typ_ne e1 hpc (by decide)
  have n4 : gp ≠ h := Ne.symm n3
  obtain ⟨y0, y1, y2, y3⟩ := g4 0 (by simp)
  obtain ⟨l0, l1, l2, l3⟩ := g4 P.length (by simp)
  obtain ⟨a', hsl, _⟩ := tail_sl p.g p.o p.xs.length p.cap (by omega) hp.n2
  have HX : Hid (∃ (xv : Option Addr) (yv : Nat × Nat), (∀ W, StW w W p.g p.o cur 36 zr7 → (W.setCell ⟨gp, 0, none⟩ (.slice a' (p.xs.length - 1) (p.cap - 1))).cell? ⟨gp, P.length * 2, none⟩ = some (.slice xv yv.1 yv.2) ∧ (W.setCell ⟨gp, 0, none⟩ (.slice a' (p.xs.length - 1) (p.cap - 1))).cell? ⟨gp, P.length * 2 + 1, none⟩ = some (.int .i64 ((P.getLast?.map Pt.r).getD p.r : Nat))) ∧ ∀ l, P.getLast? = some l → (.slice xv yv.1 yv.2 : Value) = lv l ∧ (.int .i64 ((P.getLast?.map Pt.r).getD p.r : Nat) : Value) = .int .i64 (l.r : Int)) := by
    rcases List.eq_nil_or_concat P with rfl | ⟨L, b, rfl⟩
    · refine ⟨a', (p.xs.length - 1, p.cap - 1), fun W hW => ⟨?_, ?_⟩, fun l hl => by simp at hl⟩
      · have := (World.cell?_of_block (hW.o gp n1) (a := ⟨gp, 0, none⟩)).trans y0
        exact World.cell?_setCell_same _ _ _ this
      · rw [World.cell?_setCell_other _ _ _ _ (by simp)]
        exact (World.cell?_of_block (hW.o gp n1)).trans y1
    · simp only [List.concat_eq_append] at l0 l1 ⊢
      have eb : (p :: (L ++ [b]))[(L ++ [b]).length]'(by simp) = b := by simp
      rw [eb] at l0 l1
      refine ⟨some ⟨b.g, b.o, none⟩, (b.xs.length, b.cap), fun W hW => ⟨?_, ?_⟩, fun l hl => ?_⟩
      · rw [World.cell?_setCell_other _ _ _ _ (by simp)]
        exact (World.cell?_of_block (hW.o gp n1)).trans l0
      · rw [World.cell?_setCell_other _ _ _ _ (by simp)]
        rw [show (((L ++ [b]).getLast?.map Pt.r).getD p.r) = b.r by simp]
        exact (World.cell?_of_block (hW.o gp n1)).trans l1
      · simp at hl; subst hl; exact ⟨rfl, by simp⟩
  obtain ⟨xv, ⟨yn, yc⟩, HX1, HX2⟩ := HX.out
  obtain ⟨rr, Hrr⟩ := hid_ex ((P.getLast?.map Pt.r).getD p.r)
  rw [← Hrr.out] at HX1 HX2
  have HL : Hid (∀ W, StW w W p.g p.o cur 36 zr7 → _) := fun W hW => H.last (av := .slice a' (p.xs.length - 1) (p.cap - 1)) e1 e2 g1 g2 HX2 hcur hW
  have HX1' : Hid _ := HX1
  have hfr := front_sl gp P.length (P.length + 1) cap (by omega) e3
  have k2 := hp.n2
  have x1 := (cell_row e1 0 (by simp)).1
  have x2 := (cell_row e1 0 (by simp)).2
  simp only [List.getElem_toArray, List.getElem_cons_zero, Nat.zero_mul, Nat.zero_add] at x1 x2 y0 y1 y2 y3
  unfold lv at y0
  rw [hn] at y0 hsl HL HX1'
  rw [hn] at k2
  obtain ⟨pg, po, pc, pxs, pr⟩ := p
  simp only [List.length_cons] at *
  have hle := H.le
  simp only [List.length_cons] at hle
  have HCUR : Hid (w.heap[pg]? = some (.cells cur 36)) := hcur
  have HE2 : Hid _ := e2
  clear g4 e1 e2 e5 H hp hcur hpc HX HX1 HX2 l0 l1 l2 l3 Hrr hn
  go_enter Try.func18, Try.ntmps18
  go_wp2_with (refine stop_store 36 _ _ rfl ?_)
  refine Stop.of ?_
  refine wpList_storeN rfl _ _ _ rfl pg po zr7 rfl rfl cur _ HCUR.out hfit (by kernel_rfl) (by kernel_rfl) ?_
  intro W hW
  have z0 := (World.cell?_of_block (hW.o gp n1) (a := ⟨gp, 0, none⟩)).trans y0
  have z1 := (World.frozen?_of_block (hW.o gp n1) (a := ⟨gp, 0, none⟩)).trans y2
  have z2 := (World.cell?_of_block (hW.o h n2) (a := ⟨h, 0, none⟩)).trans x1
  have z3 := (World.frozen?_of_block (hW.o h n2) (a := ⟨h, 0, none⟩)).trans x2
  have z4 := (World.cell?_of_block (hW.o gp n1) (a := ⟨gp, 1, none⟩)).trans y1
  have z5 : ∀ i, W.frozen? ⟨gp, i, none⟩ = false := fun i => (World.frozen?_of_block (hW.o gp n1) (a := ⟨gp, i, none⟩)).trans (World.ownsRow.frozenAt HE2.out i)
  have HW : Hid _ := HL.out W hW
  obtain ⟨u0, u1⟩ := HX1'.out W hW
  simp only [Nat.sub_self] at u0 u1 HW hsl
  clear hW y0 y1 y2 y3 x1 x2
  have v0 : (W.setCell ⟨gp, 0, none⟩ (.slice a' 0 (pc - 1))).cell? ⟨h, 0, none⟩ = some (.slice (some ⟨gp, 0, none⟩) (P.length + 1) cap) := by rw [World.cell?_setCell_other _ _ _ _ (by first | (simp; done) | (simp [n4]; done))]; exact z2
  have V0 : Hid _ := v0
  have hpp : ¬ ((P.length : Int) + 1 ≤ (P.length : Int)) := by omega
  have v3 : (((W.setCell ⟨gp, 0, none⟩ (.slice a' 0 (pc - 1))).setCell ⟨gp, 0, none⟩ (.slice xv yn yc)).setCell ⟨gp, 1, none⟩ (.int .i64 (rr : Int))).cell? ⟨h, 0, none⟩ = some (.slice (some ⟨gp, 0, none⟩) (P.length + 1) cap) := (World.cell?_setCell_other _ _ _ _ (by first | (simp; done) | (simp [n4]; done))).trans ((World.cell?_setCell_other _ _ _ _ (by first | (simp; done) | (simp [n4]; done))).trans V0.out)
  have V3 : Hid _ := v3
  have q0 : (W.setCell ⟨gp, 0, none⟩ (.slice a' 0 (pc - 1))).cell? ⟨gp, 0, none⟩ = some (.slice a' 0 (pc - 1)) := World.cell?_setCell_same _ _ _ z0
  have q1 : (W.setCell ⟨gp, 0, none⟩ (.slice a' 0 (pc - 1))).cell? ⟨gp, 1, none⟩ = some (.int .i64 (pr : Int)) := (World.cell?_setCell_other _ _ _ _ (by simp)).trans z4
  have s0 : (((W.setCell ⟨gp, 0, none⟩ (.slice a' 0 (pc - 1))).setCell ⟨gp, 0, none⟩ (.slice xv yn yc)).setCell ⟨gp, 1, none⟩ (.int .i64 (rr : Int))).cell? ⟨gp, P.length * 2, none⟩ = some (.slice xv yn yc) := by
    rcases Nat.eq_zero_or_pos P.length with h0 | h0
    · rw [h0]
      rw [World.cell?_setCell_other _ _ _ _ (by simp)]
      exact World.cell?_setCell_same _ _ _ q0
    · rw [World.cell?_setCell_other _ _ _ _ (by first | (simp; done) | (simp; omega)), World.cell?_setCell_other _ _ _ _ (by first | (simp; done) | (simp; omega))]
      exact u0
  have s1 : (((W.setCell ⟨gp, 0, none⟩ (.slice a' 0 (pc - 1))).setCell ⟨gp, 0, none⟩ (.slice xv yn yc)).setCell ⟨gp, 1, none⟩ (.int .i64 (rr : Int))).cell? ⟨gp, P.length * 2 + 1, none⟩ = some (.int .i64 (rr : Int)) := by
    rcases Nat.eq_zero_or_pos P.length with h0 | h0
    · rw [h0]
      exact World.cell?_setCell_same _ _ _ ((World.cell?_setCell_other _ _ _ _ (by simp)).trans q1)
    · rw [World.cell?_setCell_other _ _ _ _ (by first | (simp; done) | (simp; omega)), World.cell?_setCell_other _ _ _ _ (by simp)]
      exact u1
  have v5 : (((((W.setCell ⟨gp, 0, none⟩ (.slice a' 0 (pc - 1))).setCell ⟨gp, 0, none⟩ (.slice xv yn yc)).setCell ⟨gp, 1, none⟩ (.int .i64 (rr : Int))).setCell ⟨gp, P.length * 2, none⟩ (.slice none 0 0)).setCell ⟨gp, P.length * 2 + 1, none⟩ (.int .i64 0)).cell? ⟨h, 0, none⟩ = some (.slice (some ⟨gp, 0, none⟩) (P.length + 1) cap) := (World.cell?_setCell_other _ _ _ _ (by first | (simp; done) | (simp [n4]; done))).trans ((World.cell?_setCell_other _ _ _ _ (by first | (simp; done) | (simp [n4]; done))).trans V3.out)
  clear v0
  go_wp2_with fail
  refine wp_region_noPanic ?_
  refine wp_region_S 12 (fun w' => w'.cell? ⟨h, 0, none⟩ = some (.slice (some ⟨gp, 0, none⟩) (P.length + 1) cap)) (fun w' => w'.cell? ⟨gp, P.length * 2, none⟩ = some (.slice xv yn yc) ∧ w'.cell? ⟨gp, P.length * 2 + 1, none⟩ = some (.int .i64 (rr : Int))) (by kernel_rfl) ?_ ?_ (fun hHeld => ?_)
  · exact V0.out
  · exact ⟨u0, u1⟩
  refine wpAnyS_take (i := 0) (v := .pointer (some ⟨h, 0, none⟩)) _ rfl (by kernel_rfl) (by kernel_rfl) (by kernel_rfl) (by kernel_rfl) (by kernel_rfl) rfl (fun _ _ _ h => h) (Or.inl ⟨by rfl, ?_⟩) hHeld (fun hHeld => ?_)
  · (intro w1 hSw; have hSw := hSw.1; (try dsimp only at hSw); go_simp)
  simp only [List.getElem_toArray, List.getElem_cons_zero, Act.put, List.setIfInBounds_toArray, List.set_cons_zero, List.set_cons_succ]
  refine wpAnyS_take (i := 1) (v := .pointer (some ⟨h, 0, none⟩)) _ rfl (by kernel_rfl) (by kernel_rfl) (by kernel_rfl) (by kernel_rfl) (by kernel_rfl) rfl (fun _ _ _ h => h) (Or.inl ⟨by rfl, ?_⟩) hHeld (fun hHeld => ?_)
  · (intro w1 hSw; have hSw := hSw.1; (try dsimp only at hSw); go_simp)
  simp only [List.getElem_toArray, List.getElem_cons_succ, List.getElem_cons_zero, Act.put, List.setIfInBounds_toArray, List.set_cons_zero, List.set_cons_succ]
  refine wpAnyS_take (i := 2) (v := .pointer (some ⟨h, 0, none⟩)) _ rfl (by kernel_rfl) (by kernel_rfl) (by kernel_rfl) (by kernel_rfl) (by kernel_rfl) rfl (fun _ _ _ h => h) (Or.inl ⟨by rfl, ?_⟩) hHeld (fun hHeld => ?_)
  · (intro w1 hSw; have hSw := hSw.1; (try dsimp only at hSw); go_simp)
  simp only [List.getElem_toArray, List.getElem_cons_succ, List.getElem_cons_zero, Act.put, List.setIfInBounds_toArray, List.set_cons_zero, List.set_cons_succ]
  refine wpAnyS_take (i := 3) (v := .slice (some ⟨gp, 0, none⟩) (P.length + 1) cap) _ rfl (by kernel_rfl) (by kernel_rfl) (by kernel_rfl) (by kernel_rfl) (by kernel_rfl) rfl (fun _ _ _ h => h) (Or.inl ⟨by rfl, ?_⟩) hHeld (fun hHeld => ?_)
  · (intro w1 hSw; have hSw := hSw.1; (try dsimp only at hSw); go_simp)
  simp only [List.getElem_toArray, List.getElem_cons_succ, List.getElem_cons_zero, Act.put, List.setIfInBounds_toArray, List.set_cons_zero, List.set_cons_succ]
  refine wpAnyS_take (i := 4) (v := .pointer (some ⟨h, 0, none⟩)) _ rfl (by kernel_rfl) (by kernel_rfl) (by kernel_rfl) (by kernel_rfl) (by kernel_rfl) rfl (fun _ _ _ h => h) (Or.inl ⟨by rfl, ?_⟩) hHeld (fun hHeld => ?_)
  · (intro w1 hSw; have hSw := hSw.1; (try dsimp only at hSw); go_simp)
  simp only [List.getElem_toArray, List.getElem_cons_succ, List.getElem_cons_zero, Act.put, List.setIfInBounds_toArray, List.set_cons_zero, List.set_cons_succ]
  refine wpAnyS_take (i := 5) (v := .pointer (some ⟨h, 0, none⟩)) _ rfl (by kernel_rfl) (by kernel_rfl) (by kernel_rfl) (by kernel_rfl) (by kernel_rfl) rfl (fun _ _ _ h => h) (Or.inl ⟨by rfl, ?_⟩) hHeld (fun hHeld => ?_)
  · (intro w1 hSw; have hSw := hSw.1; (try dsimp only at hSw); go_simp)
  simp only [List.getElem_toArray, List.getElem_cons_succ, List.getElem_cons_zero, Act.put, List.setIfInBounds_toArray, List.set_cons_zero, List.set_cons_succ]
  refine wpAnyS_take (i := 6) (v := .pointer (some ⟨h, 0, none⟩)) _ rfl (by kernel_rfl) (by kernel_rfl) (by kernel_rfl) (by kernel_rfl) (by kernel_rfl) rfl (fun _ _ _ h => h) (Or.inl ⟨by rfl, ?_⟩) hHeld (fun hHeld => ?_)
  · (intro w1 hSw; have hSw := hSw.1; (try dsimp only at hSw); go_simp)
  simp only [List.getElem_toArray, List.getElem_cons_succ, List.getElem_cons_zero, Act.put, List.setIfInBounds_toArray, List.set_cons_zero, List.set_cons_succ]
  refine wpAnyS_take (i := 7) (v := .slice (some ⟨gp, 0, none⟩) (P.length + 1) cap) _ rfl (by kernel_rfl) (by kernel_rfl) (by kernel_rfl) (by kernel_rfl) (by kernel_rfl) rfl (fun _ _ _ h => h) (Or.inl ⟨by rfl, ?_⟩) hHeld (fun hHeld => ?_)
  · (intro w1 hSw; have hSw := hSw.1; (try dsimp only at hSw); go_simp)
  simp only [List.getElem_toArray, List.getElem_cons_succ, List.getElem_cons_zero, Act.put, List.setIfInBounds_toArray, List.set_cons_zero, List.set_cons_succ]
  refine wpAnyS_take (i := 8) (v := .int .i64 (P.length : Int)) _ rfl (by kernel_rfl) (by kernel_rfl) (by kernel_rfl) (by kernel_rfl) (by kernel_rfl) rfl (fun _ _ _ h => h) (Or.inl ⟨by rfl, ?_⟩) hHeld (fun hHeld => ?_)
  · (intro w1 hSw; have hSw := hSw.1; (try dsimp only at hSw); go_simp)
  simp only [List.getElem_toArray, List.getElem_cons_succ, List.getElem_cons_zero, Act.put, List.setIfInBounds_toArray, List.set_cons_zero, List.set_cons_succ]
  refine wpAnyS_take (i := 9) (v := .pointer (some ⟨gp, P.length * 2, none⟩)) _ rfl (by kernel_rfl) (by kernel_rfl) (by kernel_rfl) (by kernel_rfl) (by kernel_rfl) rfl (fun _ _ _ h => h) (Or.inl ⟨by rfl, ?_⟩) hHeld (fun hHeld => ?_)
  · (intro w1 hSw; have hSw := hSw.1; (try dsimp only at hSw); go_simp)
  simp only [List.getElem_toArray, List.getElem_cons_succ, List.getElem_cons_zero, Act.put, List.setIfInBounds_toArray, List.set_cons_zero, List.set_cons_succ]
  refine wpAnyS_take (i := 10) (v := .agg #[.slice xv yn yc, .int .i64 (rr : Int)]) true rfl (by kernel_rfl) (by kernel_rfl) (by kernel_rfl) (by kernel_rfl) (by kernel_rfl) (by kernel_rfl) (fun _ _ _ h => h) (Or.inl ⟨by rfl, ?_⟩) hHeld (fun hHeld => ?_)
  · (intro w1 hSw; have hSw2 := hSw.2 rfl; have hSw := hSw.1; (try dsimp only at hSw hSw2); go_simp)
  simp only [List.getElem_toArray, List.getElem_cons_succ, List.getElem_cons_zero, Act.put, List.setIfInBounds_toArray, List.set_cons_zero, List.set_cons_succ]
  refine wpAnyS_take (i := 11) (v := .pointer (some ⟨gp, 0, none⟩)) _ rfl (by kernel_rfl) (by kernel_rfl) (by kernel_rfl) (by kernel_rfl) (by kernel_rfl) rfl (fun _ _ _ h => h) (Or.inl ⟨by rfl, ?_⟩) hHeld (fun hHeld => ?_)
  · (intro w1 hSw; have hSw := hSw.1; (try dsimp only at hSw); go_simp)
  simp only [List.getElem_toArray, List.getElem_cons_succ, List.getElem_cons_zero, Act.put, List.setIfInBounds_toArray, List.set_cons_zero, List.set_cons_succ]
  refine wpAnyS_ready (i := 12) (by kernel_rfl) rfl (fun K hK => ?_)
  go_simp
  refine hK.out _ _ ⟨?_, fun hno => absurd hno (by decide)⟩ (fun hHeld => ?_)
  · exact V3.out
  clear hK K
  refine wpAnyS_done (by kernel_rfl) ?_ _
  refine NoPanic.normal ?_
  go_wp2_with fail
  refine bodyPost_end (results_none rfl _ _ _) rfl ?_
  exact ⟨⟨_, rfl⟩, by rw [HR.out]; exact HW.out.1.below (Below.refl _ _).drew, HW.out.2.trans (Fr.of_below (Below.refl _ _).drew (by have := HW.out.2.b.size; omega))⟩
theorem forget_any (lo hh h : Nat) (p : Pt) (P : List Pt) (w : World) (H : HM w lo hh h (p :: P)) :
    Calls Try.prog 18 #[.pointer (some ⟨h, 0, none⟩)] w (FgPost lo hh h p P w) := by
  have h1 := (H.pt p (List.mem_cons_self ..)).n1
  rcases Nat.lt_or_ge 1 p.xs.length with h2 | h2
  · exact forget_more lo hh h p P w H h2
  · exact forget_last lo hh h p P w H (by omega)
end Go.Proofs.Ytdamlnpfpfpeeaa
