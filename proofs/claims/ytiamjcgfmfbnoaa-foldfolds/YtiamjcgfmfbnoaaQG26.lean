/- MG22 MG23 MR1 RQ1, joined. -/
import Derived.Test.YtiamjcgfmfbnoaaQG8
import Derived.Test.YtiamjcgfmfbnoaaQG19
import Derived.Test.YtiamjcgfmfbnoaaQG20
import Derived.Test.YtiamjcgfmfbnoaaQG21
import Derived.Test.YtiamjcgfmfbnoaaQG24
import Derived.Test.YtiamjcgfmfbnoaaQG25
import Derived.BigQuiet
import Derived.Deep.QuietTactic
/- How many of each row have been told, in memory; and what was told last. -/
namespace Go.Proofs.Ytiamjcgfmfbnoaa
open Go.RowKit Go.Joins

theorem infoInt : (Try.prog.info? 3).map (fun i => (i.zero, i.size, i.bytes)) = some (some (.int .i64 0), 1, 8) := by kernel_rfl
/-- A row of numbers. -/
def AtM (W : World) (g n : Nat) (c : Nat → Nat) : Prop := ∃ cur, W.heap[g]? = some (.cells cur 3) ∧ ∀ i, i < n → cur[i]? = some (.int .i64 (c i : Int))
theorem AtM.lt {W : World} {g n : Nat} {c : Nat → Nat} (h : AtM W g n c) : g < W.heap.size := by obtain ⟨cur, h1, _⟩ := h; exact (Array.getElem?_eq_some_iff.1 h1).1
theorem AtM.keep {W W' : World} {g n : Nat} {c : Nat → Nat} (h : AtM W g n c) (hk : W'.heap[g]? = W.heap[g]?) : AtM W' g n c := by
  obtain ⟨cur, h1, h2⟩ := h
  exact ⟨cur, hk.trans h1, h2⟩
theorem AtM.cell {W : World} {g n : Nat} {c : Nat → Nat} (h : AtM W g n c) {i : Nat} (hi : i < n) : W.cell? ⟨g, i, none⟩ = some (.int .i64 (c i : Int)) ∧ W.frozen? ⟨g, i, none⟩ = false := by
  obtain ⟨cur, h1, h2⟩ := h
  have h3 := Array.getElem?_eq_some_iff.1 (h2 i hi)
  obtain ⟨q1, q2⟩ := cell_row h1 i h3.1
  exact ⟨by rw [q1, h3.2], q2⟩
theorem AtM.made {w w0 : World} {base n : Nat} (h : w0.ownsRow base 3 1 (.slice (some ⟨w.heap.size, 0, none⟩) n n) n (madeCells (Value.int .i64 0).cells (n * 1)).toList) : AtM w0 w.heap.size n (fun _ => 0) := by
  rcases h.2 with ⟨q, _⟩ | ⟨g, cap, cur, hv, _, hw, _, _, hs, ht⟩
  · simp at q
  · simp at hv
    obtain ⟨rfl, rfl⟩ := hv
    refine ⟨cur, hw, fun i hi => ?_⟩
    have h1 : (cur.toList.take (n * 1))[i]? = (madeCells (Value.int .i64 0).cells (n * 1)).toList[i]? := by rw [ht]
    rw [List.getElem?_take, if_pos (by omega)] at h1
    rw [← Array.getElem?_toList, h1]
    simp [madeCells, Value.cells, hi, Nat.mod_one]
theorem AtM.set {W : World} {g n : Nat} {c c' : Nat → Nat} (h : AtM W g n c) {i : Nat} (hi : i < n) (hc : ∀ j, j < n → c' j = if i = j then c j + 1 else c j) : AtM (W.setCell ⟨g, i, none⟩ (.int .i64 ((c i : Int) + 1))) g n c' := by
  obtain ⟨cur, h1, h2⟩ := h
  refine ⟨_, heap_setCell_same W g i cur _ _ h1, fun j hj => ?_⟩
  rw [hc j hj]
  have hs := (Array.getElem?_eq_some_iff.1 (h2 i hi)).1
  by_cases e : i = j
  · subst e
    rw [if_pos rfl]
    simp [hs]
  · rw [if_neg e, Array.getElem?_setIfInBounds_ne e]
    exact h2 j hj
/-- What was told last. -/
def LastO (W : World) (lo : Nat) (D : List Tg) (lv fv : Value) : Prop := match D.getLast? with
  | none => lv = .slice none 0 0 ∧ fv = .int .i64 (-1)
  | some t => Own W lo lv t.1.1 ∧ fv = .int .i64 (t.1.2 : Int)
theorem LastO.keep {A B : World} {lo : Nat} {D : List Tg} {lv fv : Value} (h : LastO A lo D lv fv) (hk : ∀ (k : Nat) (cs : Array Value) (fr : Nat × Nat), A.heap[k]? = some (Obj.cells cs 5 fr) → B.heap[k]? = some (Obj.cells cs 5 fr)) : LastO B lo D lv fv := by
  unfold LastO at *
  split at h
  · exact h
  · exact ⟨own_kp h.1 hk, h.2⟩
theorem LastO.snoc {W : World} {lo : Nat} {D : List Tg} {t : Tg} {lv : Value} (h : Own W lo lv t.1.1) : LastO W lo (D ++ [t]) lv (.int .i64 (t.1.2 : Int)) := by
  unfold LastO
  rw [List.getLast?_append]
  exact ⟨h, rfl⟩
end Go.Proofs.Ytiamjcgfmfbnoaa

/- A number is stored: the world behind it, by name; texts are compared. -/
namespace Go.Proofs.Ytiamjcgfmfbnoaa
open Go.RowKit

theorem run_storeVar_int (w : World) (b o : Nat) (ty : TypeId) (z : Int) (ht : w.there b o 1) (hi : (Try.prog.info? ty).map (·.size) = some 1) :
    (storeVar ty ⟨b, o, none⟩ (.int .i64 z)).run Try.prog w = .ok () (w.setCells b o [.int .i64 z]) := by
  have := run_storeCells_cells (P := Try.prog) b o [.int .i64 z] 0 w (fun j hj => by simpa using (ht j (by simpa using hj)).1) (fun j hj => by simpa using (ht j (by simpa using hj)).2) (fun v hv => by simp at hv; subst hv; rfl)
  cases hq : Try.prog.info? ty with
  | none => simp [hq] at hi
  | some i =>
    have hs : i.size = 1 := by simpa [hq] using hi
    simp only [Nat.add_zero] at this
    simp [storeVar, sizeOf, typeInfo, hq, Value.cells, hs, this]
theorem wpList_storeI {ops : Array Oper} {rest : List Oper} {op : Oper} {a : Act} {w : World} {Q : Exit → Act → World → Prop} (hgd : op.guard = none) (ty : TypeId) (x y : Operand) (ho : op.op = .store ty x y) (g off : Nat) (z : Int) (hx : a.eval x = .pointer (some ⟨g, off, none⟩)) (hy : a.eval y = .int .i64 z)
    (cur : Array Value) (T : TypeId) (hg : w.heap[g]? = some (.cells cur T)) (hl : off + 1 ≤ cur.size) (hi : (Try.prog.info? ty).map (·.size) = some 1)
    (h : ∀ W, StW w W g off cur T [.int .i64 z] → wpList Try.prog ops Q rest (a.put op.dst undef) W) : wpList Try.prog ops Q (op :: rest) a w :=
  wpList_plain hgd fun _ hK => by
    unfold Oper.wp execOp
    simp only [ho, hx, hy, Instr.storeAt, Instr.sureAddr, Sem.run_bind, Sem.run_pure, Result.andThen_ok, run_storeVar_int w g off ty z (there_of hg hl) hi]
    exact hK _ _ (h _ (stW_cells g T [.int .i64 z] off w cur hg hl))
theorem AtM.stored {W W5 : World} {g n i : Nat} {c c' : Nat → Nat} {cur : Array Value} (h2 : ∀ j, j < n → cur[j]? = some (.int .i64 (c j : Int))) (hW : StW W W5 g i cur 3 [.int .i64 ((c i : Int) + 1)]) (hc : ∀ j, j < n → c' j = if i = j then c j + 1 else c j) : AtM W5 g n c' := by
  obtain ⟨cur', k1, k2, k3, k4⟩ := hW.c
  refine ⟨cur', k1, fun j hj => ?_⟩
  rw [hc j hj]
  by_cases e : i = j
  · subst e
    rw [if_pos rfl]
    have := k4 0 (by simp)
    simpa using this
  · rw [if_neg e, k3 j (by simp; omega)]
    exact h2 j hj
theorem less_iff : ∀ a b : Ks, Op.bytesLess a b = true ↔ Lib.compareBytes a b = -1
  | [], [] => by simp [Op.bytesLess, Lib.compareBytes]
  | [], _ :: _ => by simp [Op.bytesLess, Lib.compareBytes]
  | _ :: _, [] => by simp [Op.bytesLess, Lib.compareBytes]
  | x :: a, y :: b => by
    have ih := less_iff a b
    simp only [Op.bytesLess, Lib.compareBytes]
    by_cases h1 : x < y
    · simp [h1]
    · rw [if_neg h1]
      by_cases h2 : y < x
      · have : x ≠ y := fun e => by subst e; exact h1 h2
        simp [h1, h2, this]
      · have : x = y := u8_tri h1 h2
        subst this
        simp [ih]
theorem less_no {a b : Ks} (h : ¬ ltK a b) : Op.bytesLess a b = false := by
  rw [Bool.eq_false_iff]
  exact fun e => h ((less_iff a b).1 e)
theorem seq60 {rs : List (List En)} (h : rs.length ≤ 20 ∧ ∀ r ∈ rs, okRow r) : (seqF rs).length ≤ 1200 := by
  have h2 : (seqF rs).length ≤ rs.length * 60 := by
    unfold seqF
    rw [(srtG_perm _).length_eq]
    have : ∀ (rs : List (List En)) (i : Nat), (∀ r ∈ rs, okRow r) → (tagsF i rs).length ≤ rs.length * 60 := by
      intro rs
      induction rs with
      | nil => intro i _; simp [tagsF]
      | cons r rs ih =>
        intro i hr
        have h3 := ih (i + 1) (fun r' hr' => hr r' (List.mem_cons_of_mem _ hr'))
        have h4 := (hr r (List.mem_cons_self ..)).1
        unfold tagsF
        rw [List.length_append]
        unfold tagP
        simp
        omega
    exact this rs 0 h.2
  have := h.1
  omega
end Go.Proofs.Ytiamjcgfmfbnoaa

/- The reference of layer 14: Right, Row, Rows. -/
namespace Go.Proofs.Ytiamjcgfmfbnoaa
open Go.RowKit

set_option maxRecDepth 100000 in
set_option maxHeartbeats 1000000 in
theorem refRight_any (a : Ag) (w : World) :
    Calls Try.prog 26 #[.agg #[.int .u64 a.c, .bool a.o, .int .i64 (hi a.s), .int .u64 (lo a.s), .int .i64 a.mn, .int .i64 a.mx]] w fun e w' => e = .returned (.bool (rightB a)) ∧ Below w.heap.size w w' := by
  obtain ⟨R, HR⟩ := hid_ex (rightB a)
  rw [← HR.out]
  go_enter Try.func26, Try.ntmps26
  go_wp2_with fail
  all_goals go_ret
  all_goals refine ⟨?_, (Below.refl _ _).alloc (Nat.le_refl _) _⟩
  all_goals (rw [HR.out]; unfold rightB; simp_all)
theorem eReads_ptr {w : World} {a : Option Addr} {n cap : Nat} {L : List En} (h : EReads w (.slice a n cap) L) (h0 : 0 < L.length) : ∃ b off, a = some ⟨b, off, none⟩ := by
  obtain ⟨b, off, cap', hv, hb⟩ := eReads_some h h0
  simp at hv
  exact ⟨b, off, hv.1⟩
theorem rReads_ptr {w : World} {a : Option Addr} {n cap : Nat} {rs : List (List En)} (h : RReads w (.slice a n cap) rs) (h0 : 0 < rs.length) : ∃ b off, a = some ⟨b, off, none⟩ := by
  obtain ⟨b, off, cap', hv, hb⟩ := rReads_some h h0
  simp at hv
  exact ⟨b, off, hv.1⟩
theorem rowF_right {L : List En} (h : (keysE L).Pairwise ltK) : rowF L = if L.all (fun x => rightB x.2) then 0 else 3 := by
  unfold rowF
  rw [if_neg (fun q => q h)]
theorem rowsF_take {rs : List (List En)} (h : ∀ r ∈ rs, rowF r = 0) : rowsF rs = 0 := rowsF_ok.2 h
theorem rowsF_at : ∀ {rs : List (List En)} {k : Nat} (hk : k < rs.length), (∀ r ∈ rs.take k, rowF r = 0) → rowF (rs[k]'hk) ≠ 0 → rowsF rs = rowF (rs[k]'hk)
  | r :: rs, 0, _, _, h => by unfold rowsF; exact if_neg h
  | r :: rs, k + 1, hk, h1, h => by
    unfold rowsF
    rw [if_pos (h1 r (by simp))]
    exact rowsF_at (by simpa using hk) (fun x hx => h1 x (by simp [hx])) h
end Go.Proofs.Ytiamjcgfmfbnoaa

/- The contract of the reference's Fits (layer 15). -/
namespace Go.Proofs.Ytiamjcgfmfbnoaa
open Go.RowKit

/-- The sizes of the steps in memory. -/
theorem Lies.sz {R : Rl} {w : World} (h : Lies R w.heap.size w) {n : Nat} (hn : n < R.len) : ∃ b off, R.a = some ⟨b, off, none⟩ ∧ b < w.heap.size ∧ w.cell? ⟨b, off + n * 2, none⟩ = some (.int .i64 (R.sz n)) := by
  rcases h.2.2 with h0 | ⟨b, off, ha, hb, hc⟩
  · omega
  · exact ⟨b, off, ha, hb, (hc n hn).1⟩
theorem kcells {w : World} {b : Nat} {x0 x1 x2 : Value} {t : TypeId} (h : w.heap[b]? = some (.cells #[x0, x1, x2] t)) : w.cell? ⟨b, 0, none⟩ = some x0 ∧ w.cell? ⟨b, 1, none⟩ = some x1 ∧ w.cell? ⟨b, 2, none⟩ = some x2 :=
  ⟨by rw [Go.Joins.cell_of_block h]; rfl, by rw [Go.Joins.cell_of_block h]; rfl, by rw [Go.Joins.cell_of_block h]; rfl⟩
theorem floor_fit {R : Rl} (hR : RightP R) {k : Ks} {D : List ByteArray} {f g : Int} (h : rdF k = some (D, f, g)) {n : Nat} (hn : n < R.len) : floorV f (R.sz n) = .tuple #[.int .i64 (f - f % R.sz n), .int .i64 0] := by
  obtain ⟨_, h2, h3, _, _⟩ := rdF_key h
  have h4 : isT f && isS (R.sz n) := by rw [(isT_iff _).2 ⟨h2, h3⟩, sz_ok hR hn]; rfl
  unfold floorV
  rw [if_pos h4, if_pos h4]
theorem beg_fit {R : Rl} (hR : RightP R) {k : Ks} {D : List ByteArray} {f g : Int} (h : rdF k = some (D, f, g)) {n : Nat} (hn : n < R.len) : begB R f n = decide (f - f % R.sz n = f) := by
  obtain ⟨_, h2, h3, _, _⟩ := rdF_key h
  unfold begB
  rw [(isT_iff _).2 ⟨h2, h3⟩, sz_ok hR hn, decide_eq_true hn]
  simp
theorem fits_no {R : Rl} {L : List En} {k : Nat} (hk : k < L.length) (h : RightP R → fitB R L[k] = false) : fitsA R L = false := by
  refine fitsA_of ⟨fun h => (by cases h), ?_⟩
  rintro (h1 | ⟨h1, h2⟩)
  · subst h1; simp at hk
  · have := (fitB_iff h1).2 (h2 _ (List.getElem_mem hk))
    rw [h h1] at this; cases this
theorem fits_yes {R : Rl} {L : List En} (h : ∀ j (hj : j < L.length), RightP R ∧ fitB R L[j] = true) : fitsA R L = true := by
  refine fitsA_of ⟨fun _ => ?_, fun _ => rfl⟩
  cases L with
  | nil => exact .inl rfl
  | cons x L =>
    have hR := (h 0 (by simp)).1
    refine .inr ⟨hR, fun y hy => ?_⟩
    obtain ⟨j, hj, rfl⟩ := List.getElem_of_mem hy
    exact (fitB_iff hR).1 (h j hj).2
set_option maxRecDepth 100000 in
set_option maxHeartbeats 4000000 in
theorem refFits_any (R : Rl) (v : Value) (L : List En) (w : World) (hL : Lies R w.heap.size w) (hE : EReads w v L) (hk : ∀ x ∈ L, x.1.length ≤ 1000) :
    Calls Try.prog 11 #[.agg #[.slice R.a R.len R.cap, .int .i64 R.kp], v] w (FsPost R L w) := by
  have HE : Hid (EReads w v L) := hE
  have HL : Hid (Lies R w.heap.size w) := hL
  have HK : Hid (∀ x ∈ L, x.1.length ≤ 1000) := hk
  have hml : R.len ≤ maxLen := hL.1
  obtain ⟨a, cap, rfl, hm1, hm2⟩ := hE.form
  unfold maxLen at hm2 hml
  clear hE hL hk
  obtain ⟨w1, HW1⟩ := hid_ex (w.alloc (.cells #[.slice R.a R.len R.cap, .int .i64 R.kp] 24))
  have HB1 : Hid (Below w.heap.size w w1) := by rw [HW1.out]; exact new_below _ _
  have HX1 : Hid (RBox R w.heap.size w1) := by rw [HW1.out]; exact RBox.new R w _
  obtain ⟨ra, Hra⟩ := hid_ex R.a
  rw [← Hra.out] at HW1 ⊢
  go_enter Try.func11, Try.ntmps11
  go_wp2_with fail
  rw [← HW1.out]
  clear HW1
  go_loopw [5] (fun i wr => ∃ k : Nat, i = .int .i64 (k : Int) ∧ k ≤ L.length ∧ Hid (∀ j (hj : j < L.length), j < k → RightP R ∧ fitB R L[j] = true) ∧ Hid (Below w1.heap.size w1 wr)) (fun i _ => L.length - (intOf i).toNat)
  case atStart => exact ⟨0, rfl, by omega, (fun j hj h => by omega), Below.refl _ _⟩
  case round =>
    obtain ⟨k, rfl, hk, HF, HW⟩ := hrel
    have HBr : Hid (Below w.heap.size w wr) := HB1.out.trans (HW.out.mono HB1.out.size)
    have HXr : Hid (RBox R w.heap.size wr) := HX1.out.below HW.out
    by_cases hlt : k < L.length
    · obtain ⟨b, off, cap', hv, hbw⟩ := eReads_some HE.out (by omega)
      simp at hv
      obtain ⟨rfl, rfl⟩ := hv
      obtain ⟨kv, hcw, hRw, hA⟩ := eReads_at HE.out hlt rfl
      have HC : Hid (∀ i (hi : i < 7), w.cell? ⟨b, off + k * 7 + i, none⟩ = some ((c7 ⟨kv, L[k].1, L[k].2⟩)[i]'hi)) := hcw
      have HRW : Hid (Reads w kv L[k].1) := hRw
      have hkl : L[k].1.length ≤ 1000 := HK.out L[k] (List.getElem_mem hlt)
      have HNO : Hid ((RightP R → fitB R L[k] = false) → fitsA R L = false) := fits_no hlt
      have HGO : Hid (RightP R → fitB R L[k] = true → ∀ j (hj : j < L.length), j < k + 1 → RightP R ∧ fitB R L[j] = true) := fun h1 h2 j hj hjk => by
        rcases Nat.lt_or_ge j k with h | h
        · exact HF.out j hj h
        · have : j = k := by omega
          subst this; exact ⟨h1, h2⟩
      obtain ⟨X, HX⟩ := hid_ex L[k]
      rw [← HX.out] at HC HRW hkl HNO HGO
      obtain ⟨Xk, Xa⟩ := X
      simp only at hkl HRW
      clear hcw hRw hA HX HF
      obtain ⟨ak, ck, rfl, _⟩ := HRW.out.form
      have c0 : wr.cell? ⟨b, off + k * 7, none⟩ = some (.slice ak Xk.length ck) := (HBr.out.cell (p := ⟨b, off + k * 7, none⟩) hbw).trans (HC.out 0 (by decide))
      have HBW : Hid (b < w.heap.size) := hbw
      clear hbw
      go_wp2_with fail
      clear c0
      refine (refRead_any _ Xk hkl _ (HRW.out.below HBr.out)).mono ?_
      rintro e w3 (⟨D, f, gI, vd, hrd, rfl, hkl3, hb3⟩ | ⟨hrd, rfl, hb3⟩)
      · have hkey := rdF_key hrd
        obtain ⟨g, rfl⟩ : ∃ g : Nat, gI = (g : Int) := ⟨gI.toNat, by omega⟩
        have hg3 : g ≤ 3 := by omega
        have HFB : Hid (fitB R (Xk, Xa) = (begB R f g && !(Xa.c == 0) && rightB Xa)) := by have := fitB_of (R := R) (x := (Xk, Xa)) hrd; rw [Int.toNat_natCast] at this; exact this
        have HRD : Hid (rdF Xk = some (D, f, (g : Int))) := hrd
        have HB3 : Hid (Below w1.heap.size w1 w3) := HW.out.trans (hb3.mono HW.out.size)
        obtain ⟨va, vc, hvd, _⟩ := hkl3.r.form
        simp only at hvd
        subst hvd
        obtain ⟨dn, Hdn⟩ := hid_ex D.length
        rw [← Hdn.out]
        obtain ⟨w4, HW4⟩ := hid_ex (w3.alloc (.cells #[.slice va dn vc, .int .i64 f, .int .i64 (g : Int)] 59))
        have hb4 : Below w3.heap.size w3 w4 := by rw [HW4.out]; exact new_below _ _
        have HY4 : Hid (w4.heap[w3.heap.size]? = some (.cells #[.slice va dn vc, .int .i64 f, .int .i64 (g : Int)] 59)) := by rw [HW4.out]; exact heap_alloc_new _ _
        have HB4 : Hid (Below w1.heap.size w1 w4) := HB3.out.trans (hb4.mono HB3.out.size)
        obtain ⟨hx3, r0, r1⟩ := HX1.out.below HB3.out
        rw [← Hra.out] at r0
        have HBw4 : Hid (Below w.heap.size w w4) := HB1.out.trans (HB4.out.mono HB1.out.size)
        have HL4 : Hid (Lies R w4.heap.size w4) := HL.out.at HBw4.out
        clear hrd hkl3 hb3 hb4 hkey Hdn HB3 HW HBr HXr
        go_wp2_with fail
        rw [← HW4.out]
        clear HW4
        have hrr := refRight_anyG R _ HL4.out
        rw [← Hra.out] at hrr
        refine hrr.mono ?_
        rintro e w5 ⟨rfl, hb5⟩
        have HB5 : Hid (Below w1.heap.size w1 w5) := HB4.out.trans (hb5.mono HB4.out.size)
        have HY5 : Hid (w5.heap[w3.heap.size]? = some (.cells #[.slice va dn vc, .int .i64 f, .int .i64 (g : Int)] 59)) := (hb5.block _ (Array.getElem?_eq_some_iff.1 HY4.out).1).trans HY4.out
        have HBw5 : Hid (Below w.heap.size w w5) := HB1.out.trans (HB5.out.mono HB1.out.size)
        have HL5 : Hid (Lies R w5.heap.size w5) := HL.out.at HBw5.out
        clear hb5 r0 r1 HY4 HB4 HBw4 HL4
        by_cases hR : RightP R
        · have HR : Hid (RightP R) := hR
          rw [decide_eq_true hR]
          clear hR
          obtain ⟨r0, r1⟩ := (HX1.out.below HB5.out).at
          rw [← Hra.out] at r0
          obtain ⟨k0, k1, k2⟩ := kcells HY5.out
          by_cases hg : g < R.len
          · have hgl : decide ((R.len : Int) ≤ (g : Int)) = false := by simp; omega
            obtain ⟨rb, ro, ha, hrb, hsz⟩ := HL5.out.sz hg
            rw [← Hra.out] at ha
            subst ha
            have HV : Hid (floorV f (R.sz g) = .tuple #[.int .i64 (f - f % R.sz g), .int .i64 0]) := floor_fit HR.out HRD.out hg
            have HBG : Hid (begB R f g = decide (f - f % R.sz g = f)) := beg_fit HR.out HRD.out hg
            obtain ⟨s, Hs⟩ := hid_ex (R.sz g)
            rw [← Hs.out] at HV HBG hsz
            obtain ⟨fr, Hfr⟩ := hid_ex (f - f % s)
            rw [← Hfr.out] at HV HBG
            clear hrb Hs Hfr k0 r1
            have hgn : ¬ R.len ≤ g := by omega
            go_wp2_with fail
            go_quiet (exact (refFloor_any f s _).mono (fun e w h => ⟨by rw [h.1, HV.out], _, h.2⟩))
            obtain ⟨w6, HW6⟩ := hid_ex (w5.drewN nq)
            have HB6 : Hid (Below w1.heap.size w1 w6) := by rw [HW6.out]; exact below_drewN HB5.out nq
            have HBw6 : Hid (Below w.heap.size w w6) := HB1.out.trans (HB6.out.mono HB1.out.size)
            have j1 : w6.cell? ⟨w3.heap.size, 1, none⟩ = some (.int .i64 f) := by rw [HW6.out]; exact k1
            rw [← HW6.out]
            have hbw := HBW.out
            have c1 : w6.cell? ⟨b, off + k * 7 + 1, none⟩ = some (.int .u64 Xa.c) := (HBw6.out.cell (p := ⟨b, off + k * 7 + 1, none⟩) hbw).trans (HC.out 1 (by decide))
            have c2 : w6.cell? ⟨b, off + k * 7 + 1 + 1, none⟩ = some (.bool Xa.o) := (HBw6.out.cell (p := ⟨b, off + k * 7 + 2, none⟩) hbw).trans (HC.out 2 (by decide))
            have c3 : w6.cell? ⟨b, off + k * 7 + 1 + 2, none⟩ = some (.int .i64 (hi Xa.s)) := (HBw6.out.cell (p := ⟨b, off + k * 7 + 3, none⟩) hbw).trans (HC.out 3 (by decide))
            have c4 : w6.cell? ⟨b, off + k * 7 + 1 + 3, none⟩ = some (.int .u64 (lo Xa.s)) := (HBw6.out.cell (p := ⟨b, off + k * 7 + 4, none⟩) hbw).trans (HC.out 4 (by decide))
            have c5 : w6.cell? ⟨b, off + k * 7 + 1 + 4, none⟩ = some (.int .i64 Xa.mn) := (HBw6.out.cell (p := ⟨b, off + k * 7 + 5, none⟩) hbw).trans (HC.out 5 (by decide))
            have c6 : w6.cell? ⟨b, off + k * 7 + 1 + 5, none⟩ = some (.int .i64 Xa.mx) := (HBw6.out.cell (p := ⟨b, off + k * 7 + 6, none⟩) hbw).trans (HC.out 6 (by decide))
            clear k1 k2 r0 hsz HW6 hbw HL5 HY5 HB5 HBw5 hgl hg hrr
            by_cases hfr : fr = f
            · have hfb : (fr == f) = true := by simpa using hfr
              rw [decide_eq_true hfr] at HBG
              by_cases hc0 : Xa.c = 0
              · have hcb : (Xa.c == 0) = true := by simpa using hc0
                have HEnd : Hid (FsPost R L w (.returned (.bool false)) w6) := ⟨by rw [HNO.out (fun _ => by rw [HFB.out, hcb]; simp)], HBw6.out⟩
                go_wp2_with fail
                go_ret
                exact HEnd.out
              · have hcb : (Xa.c == 0) = false := by simpa using hc0
                go_wp2_with fail
                refine (refRight_any Xa _).mono ?_
                rintro e w7 ⟨rfl, hb7⟩
                have HBw7 : Hid (Below w.heap.size w w7) := HBw6.out.trans (hb7.mono HBw6.out.size)
                have HB7 : Hid (Below w1.heap.size w1 w7) := HB6.out.trans (hb7.mono HB6.out.size)
                have HF7 : Hid (rightB Xa = true → fitB R (Xk, Xa) = true) := fun h => by rw [HFB.out, HBG.out, hcb, h]; rfl
                have HN7 : Hid (rightB Xa = false → fitB R (Xk, Xa) = false) := fun h => by rw [HFB.out, h]; simp
                clear hb7 c1 c2 c3 c4 c5 c6 j1 HFB
                obtain ⟨d, Hd⟩ := hid_ex (rightB Xa)
                rw [← Hd.out] at HF7 HN7 ⊢
                clear Hd
                cases d with
                | true =>
                  have HG7 : Hid _ := HGO.out HR.out (HF7.out rfl)
                  go_wp2_with fail
                  go_roundw
                  case rel => exact ⟨k + 1, by go_num, by omega, HG7.out, HB7.out⟩
                  case measure => simp [intOf]; omega
                | false =>
                  have HEnd : Hid (FsPost R L w (.returned (.bool false)) w7) := ⟨by rw [HNO.out (fun _ => HN7.out rfl)], HBw7.out⟩
                  go_wp2_with fail
                  go_ret
                  exact HEnd.out
            · have hfb : (fr == f) = false := by simpa using hfr
              have HEnd : Hid (FsPost R L w (.returned (.bool false)) w6) := ⟨by rw [HNO.out (fun _ => by rw [HFB.out, HBG.out, decide_eq_false hfr]; rfl)], HBw6.out⟩
              go_wp2_with fail
              go_ret
              exact HEnd.out
          · have hgl : decide ((R.len : Int) ≤ (g : Int)) = true := by simp; omega
            have HEnd : Hid (FsPost R L w (.returned (.bool false)) w5) := ⟨by rw [HNO.out (fun _ => by rw [HFB.out]; unfold begB; rw [decide_eq_false hg]; rfl)], HBw5.out⟩
            have hgn : R.len ≤ g := by omega
            clear hg
            go_wp2_with fail
            go_ret
            exact HEnd.out
        · have HEnd : Hid (FsPost R L w (.returned (.bool false)) w5) := ⟨by rw [HNO.out (fun h => absurd h hR)], HBw5.out⟩
          rw [decide_eq_false hR]
          clear hR
          go_wp2_with fail
          go_ret
          exact HEnd.out
      · have HEnd : Hid (∀ W, Below w3.heap.size w3 W → FsPost R L w (.returned (.bool false)) W) := fun W hW => ⟨by rw [HNO.out (fun _ => fitB_no hrd)], (HBr.out.trans (hb3.mono HBr.out.size)).trans (hW.mono (HBr.out.trans (hb3.mono HBr.out.size)).size)⟩
        have HEnd4 : Hid (FsPost R L w (.returned (.bool false)) (w3.alloc (.cells #[.slice none 0 0, .int .i64 0, .int .i64 0] 59))) := HEnd.out _ (new_below _ _)
        clear hrd hb3 HEnd
        go_wp2_with fail
        go_ret
        exact HEnd4.out
    · have HEnd : Hid (FsPost R L w (.returned (.bool true)) wr) := ⟨by rw [fits_yes (fun j hj => HF.out j hj (by omega))], HBr.out⟩
      go_wp2_with fail
      go_ret
      exact HEnd.out
end Go.Proofs.Ytiamjcgfmfbnoaa
