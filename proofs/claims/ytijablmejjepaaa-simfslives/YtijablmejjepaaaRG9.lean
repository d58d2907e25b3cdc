/- The document's file system: its plan, a file's bytes, how many are used. -/
import Derived.Test.YtijablmejjepaaaRG8
namespace Go.Proofs.Ytijablmejjepaaa
open Go.RowKit Go.Maps Go.Sort

theorem RfAt.below {w w' : World} {O : Nat → Prop} {g : Nat} {vf vd vo vp : Value} {af ee : Int} {fb : Nat → Nat} {va vb : Nat → Value} {s : SfS} (h : RfAt w O g vf vd vo vp af ee fb va vb s) (hb : Below w.heap.size w w') : RfAt w' O g vf vd vo vp af ee fb va vb s := h.keep (fun k hk => hb.block k (h.lt k hk)) hb.size
/-- The plan. -/
theorem refPlanR {w : World} {O : Nat → Prop} {g : Nat} {vf vd vo vp : Value} {af ee : Int} {fb : Nat → Nat} {va vb : Nat → Value} {s : SfS} (h : RfAt w O g vf vd vo vp af ee fb va vb s) (hw : SfWf s) :
    Calls Try.prog 44 #[.pointer (some ⟨g, 0, none⟩)] w fun e w' => e = .returned (.int .i64 (sfPlan s).1) ∧ (∃ af' ee', RfAt w' O g vf vd vo vp af' ee' fb va vb (sfPlan s).2) ∧ Onl O w w' ∧ w'.heap.size = w.heap.size := by
  rcases h.pl with ⟨h0, rfl⟩ | ⟨h0, rfl, rfl, h1⟩
  · refine (refPlan_no h.c).mono ?_
    rintro e w' ⟨rfl, rfl⟩
    unfold sfPlan
    rw [if_pos h0]
    exact ⟨rfl, ⟨_, _, h⟩, Onl.refl _ _, rfl⟩
  · refine (refPlan_yes h.c h1 hw.l2).mono ?_
    rintro e w' ⟨rfl, hc, rfl⟩
    have hsz : (w.setCell ⟨g, 5, none⟩ (.int .i64 (s.left - 1))).heap.size = w.heap.size := by simp [World.setCell]
    have hon : Onl O w (w.setCell ⟨g, 5, none⟩ (.int .i64 (s.left - 1))) := Onl.set h.og _
    have hkp : ∀ k, k ≠ g → (w.setCell ⟨g, 5, none⟩ (.int .i64 (s.left - 1))).heap[k]? = w.heap[k]? := fun k hk => Go.heap_setCell_other _ _ _ _ hk
    have hrow : ∀ {v : Value} {e : TypeId} {n m : Nat} {xs : List Value}, GOwn w e m v n xs → e ≠ 48 → GOwn (w.setCell ⟨g, 5, none⟩ (.int .i64 (s.left - 1))) e m v n xs := fun hg he => hg.keep fun k hk => by
      obtain ⟨cur, hb⟩ := hg.block hk
      exact hkp k (ty_ne hb h.c he)
    unfold sfPlan
    rw [if_neg h0]
    by_cases hl : 0 < s.left
    · rw [if_pos hl, if_pos hl]
      exact ⟨rfl, ⟨_, _, h.re (D := s.dir) (P := s.old) (A := s.pend) (L := s.left - 1) (F := s.fault) (fun _ q => q) (fun k hk => by rw [hsz]; exact h.lt k hk) (fun k _ hk _ => hkp k hk) hc (.inr ⟨h0, rfl, rfl, by show 0 ≤ s.left - 1; omega⟩) (hrow h.hd (by decide)) (hrow h.ho (by decide)) (hrow h.hp (by decide)) h.od h.oo h.op⟩, hon, hsz⟩
    · rw [if_neg hl, if_neg hl]
      have e1 : s.left - 1 = -1 := by omega
      have hc' : ∀ x : Int, s.left - 1 = x → RfC (w.setCell ⟨g, 5, none⟩ (.int .i64 (s.left - 1))) g s.room vf vd vo vp x s.fault := by intro x hx; rw [← hx]; exact hc
      exact ⟨rfl, ⟨_, _, h.re (D := s.dir) (P := s.old) (A := s.pend) (L := s.left) (F := 0) (fun _ q => q) (fun k hk => by rw [hsz]; exact h.lt k hk) (fun k _ hk _ => hkp k hk) (hc' _ e1) (.inl ⟨rfl, rfl⟩) (hrow h.hd (by decide)) (hrow h.ho (by decide)) (hrow h.hp (by decide)) h.od h.oo h.op⟩, hon, hsz⟩
set_option maxRecDepth 100000 in
set_option maxHeartbeats 8000000 in
theorem refBytes_any {w : World} {O : Nat → Prop} {g : Nat} {vf vd vo vp : Value} {af ee : Int} {fb : Nat → Nat} {va vb : Nat → Value} {s : SfS} (h : RfAt w O g vf vd vo vp af ee fb va vb s) (hw : SfWf s) {i : Nat} (hi : i < s.fls.length) :
    Calls Try.prog 32 #[.pointer (some ⟨g, 0, none⟩), .int .i64 (i : Int)] w fun e w' => ∃ v, e = .returned v ∧ Own w' w.heap.size v (s.fl i).1 ∧ Below w.heap.size w w' := by
  obtain ⟨q, cap, hvf, hq, c0, c1, c2, hfb, hA, hB⟩ := h.file hi
  obtain ⟨cf, _⟩ := h.c1
  have hgl : g < w.heap.size := h.lt g h.og
  have hfi : s.fls[i]? = some (s.fl i) := by unfold SfS.fl; rw [List.getD_eq_getElem?_getD, List.getElem?_eq_getElem hi]; rfl
  have hsz := (hw.sy i _ hfi).2
  subst hvf
  have HA : Hid (Reads w (va i) ((s.fl i).1.take (s.fl i).2)) := hA.reads
  have HB : Hid (Reads w (vb i) ((s.fl i).1.drop (s.fl i).2)) := hB.reads
  have HC : Hid (w.cell? ⟨g, 1, none⟩ = some (.slice (some ⟨q, 0, none⟩) s.fls.length cap) ∧ w.cell? ⟨q, i, none⟩ = some (.pointer (some ⟨fb i, 0, none⟩)) ∧ w.cell? ⟨fb i, 1, none⟩ = some (vb i)) := ⟨cf, c0, c2⟩
  obtain ⟨aa, ca, hva, _⟩ := GOwn.form hA
  obtain ⟨ab, cb, hvb, _⟩ := GOwn.form hB
  obtain ⟨VA, HVA⟩ := hid_ex (va i)
  obtain ⟨VB, HVB⟩ := hid_ex (vb i)
  rw [← HVA.out] at hva HA c1
  rw [← HVB.out] at hvb HB HC c2
  subst hva
  subst hvb
  obtain ⟨X, HX⟩ := hid_ex (s.fl i).1
  rw [← HX.out] at HA HB HC hsz c1 c2 ⊢
  obtain ⟨y, HY⟩ := hid_ex (s.fl i).2
  rw [← HY.out] at HA HB HC c1 c2
  obtain ⟨FLN, HFN⟩ := hid_ex s.fls.length
  rw [← HFN.out] at hi cf HC
  have HXb : Hid ((X.take y).length ≤ 140737488355328 ∧ (X.drop y).length ≤ 140737488355328 ∧ (X.take y).length + (X.drop y).length ≤ 140737488355328) := by
    unfold Hid
    rw [List.length_take, List.length_drop]
    omega
  have HJ : Hid (X = X.take y ++ X.drop y) := (List.take_append_drop y X).symm
  obtain ⟨NA, HNA⟩ : ∃ n, Hid ((X.take y).length = n) := ⟨_, rfl⟩
  obtain ⟨NB, HNB⟩ : ∃ n, Hid ((X.drop y).length = n) := ⟨_, rfl⟩
  rw [HNA.out] at HA c1
  rw [HNB.out] at HB HC c2
  have hi' : (i : Int) < (FLN : Int) := by omega
  clear h hw hA hB hfi hsz cf
  have cf := HC.out.1
  have HL : Hid (g < w.heap.size ∧ q < w.heap.size ∧ fb i < w.heap.size) := ⟨hgl, hq, hfb⟩
  clear hgl hq hfb
  go_enter Try.func32, Try.ntmps32
  go_wp2_with fail
  refine (copy5_any HA.out HXb.out.1).mono ?_
  rintro e w1 ⟨v1, rfl, ho1, hb1⟩
  have HB1 : Hid (Below w.heap.size w w1) := hb1
  have HO1 : Hid (Own w1 w.heap.size v1 (X.take y)) := ho1
  have HBr : Hid (Reads w1 (.slice ab NB cb) (X.drop y)) := HB.out.below hb1
  have d1 := (hb1.cell (p := ⟨g, 1, none⟩) HL.out.1).trans HC.out.1
  have d2 := (hb1.cell (p := ⟨q, i, none⟩) HL.out.2.1).trans HC.out.2.1
  have d3 := (hb1.cell (p := ⟨fb i, 1, none⟩) HL.out.2.2).trans HC.out.2.2
  clear hb1 ho1 cf c0 c1 c2
  go_wp2_with (at_builtin; refine wpList_app rfl _ _ rfl w.heap.size _ _ (X.take y) (X.drop y) X HJ.out rfl rfl HO1.out HBr.out HXb.out.2.2 HB1.out.size ?_; intro v2 w2 HO2 hb2)
  go_ret
  exact ⟨_, rfl, HO2, HB1.out.trans hb2.out⟩
/-- How many bytes are used. -/
theorem sum_take_succ {l : List (List UInt8 × Nat)} (f : List UInt8 × Nat → Nat) {j : Nat} (hj : j < l.length) : ((l.take (j + 1)).map f).sum = ((l.take j).map f).sum + f l[j] := by
  rw [List.take_add_one, List.getElem?_eq_getElem hj, List.map_append, List.sum_append]
  simp
theorem sum_bd {l : List (List UInt8 × Nat)} (f : List UInt8 × Nat → Nat) (B : Nat) (h : ∀ p ∈ l, f p ≤ B) : (l.map f).sum ≤ l.length * B := by
  induction l with
  | nil => simp
  | cons x l ih =>
    have h1 := ih (fun p hp => h p (List.mem_cons_of_mem _ hp))
    have h2 := h x (List.mem_cons_self ..)
    rw [List.map_cons, List.sum_cons, List.length_cons, Nat.succ_mul]
    omega
theorem dir_len {s : SfS} (hw : SfWf s) : s.dir.length ≤ 256 := by
  have := hw.ln s.pend.length
  rw [List.take_length, ← hw.ap] at this
  exact this
theorem fl_bd {s : SfS} (hw : SfWf s) (i : Nat) : (s.fl i).1.length ≤ 1048576 := by
  unfold SfS.fl
  rw [List.getD_eq_getElem?_getD]
  cases h : s.fls[i]? with
  | none => simp
  | some f => exact (hw.sy i f h).2
end Go.Proofs.Ytijablmejjepaaa
