/- S1 WC6, joined. -/
import Derived.Test.YtahigmjpeicemaaGreatDoorBG1
import Derived.Test.YtahigmjpeicemaaGreatDoorBG20
import Derived.Lib.Bytealg
import Derived.Laws.Externs
/- The contracts of bytes.Compare and bytes.Equal; the order of bytes. -/
namespace Go.Proofs.YtahigmjpeicemaaGreatDoor
open Go.RowKit

theorem run_loadBytes (w : World) : ∀ (l : List UInt8) (b off : Nat) (acc : ByteArray), (∀ j (h : j < l.length), w.cell? ⟨b, off + j, none⟩ = some (bc l[j])) →
    (Extern.Bytes.loadBytes ⟨b, off, none⟩ l.length acc).run Tryz.prog w = .ok ⟨acc.data ++ l.toArray⟩ w := by
  intro l
  induction l with
  | nil => intro b off acc _; simp [Extern.Bytes.loadBytes, Sem.run_pure]
  | cons x l ih =>
    intro b off acc h
    have h0 := h 0 (by simp)
    simp only [Nat.add_zero, List.getElem_cons_zero] at h0
    have e1 : (⟨b, off, none⟩ : Addr).add 1 = ⟨b, off + 1, none⟩ := by simp [Addr.add]
    have := ih b (off + 1) (acc.push x) (fun j hj => by
      have := h (j + 1) (by simpa using hj)
      simpa [Nat.add_assoc, Nat.add_comm 1 j] using this)
    have e2 : ((x.toNat : Int).toNat).toUInt8 = x := by simp
    unfold bc at h0
    simp only [List.length_cons, Extern.Bytes.loadBytes, Sem.run_bind, run_load, h0, Result.andThen, e1, e2, this]
    congr 1
    simp [ByteArray.push]
theorem run_bytesOf {w : World} {v : Value} {l : List UInt8} (h : Reads w v l) : (Extern.Bytes.bytesOf v).run Tryz.prog w = .ok ⟨l.toArray⟩ w := by
  rcases h with ⟨rfl, a, cap, rfl, _⟩ | ⟨b, off, cap, rfl, h2, h3, h4, h5, h6⟩
  · cases a with
    | none => simp [Extern.Bytes.bytesOf, Sem.run_pure]; rfl
    | some a => simp [Extern.Bytes.bytesOf, Extern.Bytes.loadBytes, Sem.run_pure]; rfl
  · have := run_loadBytes w l b off ByteArray.empty h6
    simp only [Extern.Bytes.bytesOf]
    rw [this]; simp
theorem run_cmp {w : World} {va vb : Value} {a b : List UInt8} (ha : Reads w va a) (hb : Reads w vb b) : (Extern.BytealgCompare.compare #[va, vb]).run Tryz.prog w = .ok (.int .i64 (Lib.compareBytes a b)) w := by
  change Sem.run Tryz.prog (do pure (goInt (Extern.BytealgCompare.cmp (← Extern.Bytes.bytesOf va) (← Extern.Bytes.bytesOf vb)))) w = _
  simp only [Sem.run_bind, run_bytesOf ha, run_bytesOf hb, Sem.run_pure, Result.andThen]
  rw [Lib.cmp_eq]
  rfl
theorem equal_any (va vb : Value) (a b : List UInt8) (w : World) (ha : Reads w va a) (hb : Reads w vb b) :
    Calls Tryz.prog 61 #[va, vb] w fun e w' => e = .returned (.bool (decide (a = b))) ∧ w' = w := by
  have h1 := reads_text ha
  have h2 := reads_text hb
  obtain ⟨a1, c1, rfl, _⟩ := ha.form
  obtain ⟨a2, c2, rfl, _⟩ := hb.form
  go_enter Tryz.func61, Tryz.ntmps61
  go_wp2_with fail
  go_ret
  exact ⟨congrArg (fun x => Ending.returned (Value.bool x)) (by rw [Bool.eq_iff_iff]; simp), rfl⟩
end Go.Proofs.YtahigmjpeicemaaGreatDoor

/- wal: Read. -/
namespace Go.Proofs.YtahigmjpeicemaaGreatDoor
open Go.RowKit Go.Shelf

def rdE (b : List UInt8) : Int := if (rdR b).isSome = true then 0 else 90
def rdV (b : List UInt8) : List Fc × Int := (rdR b).getD ([], 0)
theorem rd_yes {b : List UInt8} (h1 : rightR (guF b).1 (guF b).2 = true) (h2 : wrR (guF b).1 (guF b).2 = b) : rdE b = 0 ∧ rdV b = guF b := by
  have : rdR b = some (guF b) := by unfold rdR; rw [if_pos ⟨h1, h2⟩]
  unfold rdE rdV; rw [this]; exact ⟨rfl, rfl⟩
theorem rd_no {b : List UInt8} (h : ¬ (rightR (guF b).1 (guF b).2 = true ∧ wrR (guF b).1 (guF b).2 = b)) : rdE b = 90 ∧ rdV b = ([], 0) := by
  have : rdR b = none := by unfold rdR; rw [if_neg h]
  unfold rdE rdV; rw [this]; exact ⟨rfl, rfl⟩
/-- What Read tells. -/
def RdW (w : World) (b : List UInt8) (e : Ending) (w' : World) : Prop := Below w.heap.size w w' ∧ ∃ r : Rc, e = .returned (.tuple #[r.val, .int .i64 (rdE b)]) ∧ RcOk w' r ∧ (∀ B : World, (∀ k, w.heap.size ≤ k → k < w'.heap.size → B.heap[k]? = w'.heap[k]?) → RcOk B r) ∧ r.p = (rdV b).1 ∧ r.m = (rdV b).2
theorem guF_m (b : List UInt8) : -9223372036854775808 ≤ (guF b).2 ∧ (guF b).2 ≤ 9223372036854775807 := by
  cases b with
  | nil => simp [guF]
  | cons c b =>
    rw [guF]
    by_cases e : c = 2
    · rw [if_pos e]; exact rnF_bd b
    · rw [if_neg e]; simp
theorem rdw_no {w : World} {b : List UInt8} {w' : World} (h : ¬ (rightR (guF b).1 (guF b).2 = true ∧ wrR (guF b).1 (guF b).2 = b)) (hb : Below w.heap.size w w') : RdW w b (.returned (.tuple #[.agg #[.slice none 0 0, .int .i64 0], .int .i64 90])) w' := by
  obtain ⟨h1, h2⟩ := rd_no h
  exact ⟨hb, ⟨.slice none 0 0, [], 0⟩, by rw [h1]; rfl, rc_nil _ _ (by simp) (by simp), fun B _ => rc_nil _ _ (by simp) (by simp), by rw [h2]; rfl, by rw [h2]⟩
set_option maxRecDepth 100000 in
set_option maxHeartbeats 2000000 in
theorem walRead_any (v : Value) (b : List UInt8) (hbl : b.length ≤ 5000) (w : World) (hR : Reads w v b) : Calls Tryz.prog 27 #[v] w (RdW w b) := by
  obtain ⟨a, cap, rfl, _⟩ := hR.form
  have HR : Hid (Reads w (.slice a b.length cap) b) := hR
  have HB0 : Hid (Below w.heap.size w (w.alloc (.cells #[.slice none 0 0, .int .i64 0] 43))) := (Below.refl _ _).alloc (Nat.le_refl _) _
  have HG : Hid (Calls Tryz.prog 60 #[.slice a b.length cap] (w.alloc (.cells #[.slice none 0 0, .int .i64 0] 43)) (GuPost (w.alloc (.cells #[.slice none 0 0, .int .i64 0] 43)) b)) := guessed_any _ b hbl _ (hR.below HB0.out)
  obtain ⟨hm1, hm2⟩ := guF_m b
  obtain ⟨m, HM⟩ := hid_ex (guF b).2
  rw [← HM.out] at hm1 hm2
  clear hR
  go_enter Tryz.func27, Tryz.ntmps27
  go_wp2_with fail
  refine HG.out.mono ?_
  rintro e w1 ⟨hb1, fv, fs, rfl, hfn, hfp⟩
  rw [← HM.out]
  have hfr : FReads w1 fv fs := hfn w1 (fun _ _ _ => rfl)
  obtain ⟨fa, fc, hfv, hf1, hf2⟩ := hfr.form
  subst hfv
  have HFN : Hid (FNew (w.alloc (.cells #[.slice none 0 0, .int .i64 0] 43)) w1 (.slice fa fs.length fc) fs) := hfn
  have HFP : Hid (fs.map Fa.p = (guF b).1) := hfp
  have HRc1 : Hid (RcOk w1 ⟨.slice fa fs.length fc, fs, m⟩) := ⟨hfr, hm1, hm2⟩
  have HK1 : Hid (w1.heap[w.heap.size]? = some (.cells #[.slice none 0 0, .int .i64 0] 43)) := (hb1.block w.heap.size (by simp)).trans (World.alloc_heap_new _ _)
  have hz1 : w.heap.size + 1 ≤ w1.heap.size := by have := hb1.size; simpa using this
  have HB1 : Hid (Below w.heap.size w w1) := HB0.out.trans (hb1.mono (by simp))
  have HBa : Hid (Below w1.heap.size w1 (w1.alloc (.cells #[.slice fa fs.length fc, .int .i64 m] 43))) := (Below.refl _ _).alloc (Nat.le_refl _) _
  have HW : Hid (Calls Tryz.prog 26 #[.agg #[.slice fa fs.length fc, .int .i64 m]] (w1.alloc (.cells #[.slice fa fs.length fc, .int .i64 m] 43)) fun e w' => ∃ v, e = .returned (.tuple #[v, .int .i64 (wrE ⟨.slice fa fs.length fc, fs, m⟩)]) ∧ Own w' (w1.alloc (.cells #[.slice fa fs.length fc, .int .i64 m] 43)).heap.size v (wrB ⟨.slice fa fs.length fc, fs, m⟩) ∧ Below (w1.alloc (.cells #[.slice fa fs.length fc, .int .i64 m] 43)).heap.size (w1.alloc (.cells #[.slice fa fs.length fc, .int .i64 m] 43)) w') := walWrite_any ⟨.slice fa fs.length fc, fs, m⟩ _ (HRc1.out.below HBa.out)
  have HP : Hid ((⟨.slice fa fs.length fc, fs, m⟩ : Rc).p = (guF b).1) := hfp
  obtain ⟨E, HE⟩ := hid_ex (wrE ⟨.slice fa fs.length fc, fs, m⟩)
  obtain ⟨L, HL⟩ := hid_ex (wrB ⟨.slice fa fs.length fc, fs, m⟩)
  rw [← HE.out, ← HL.out] at HW
  clear hb1 hfn hfp hfr HG HB0 hf1 hf2
  go_wp2_with fail
  refine HW.out.mono ?_
  rintro e w2 ⟨vw, rfl, how, hb2⟩
  have HK2 : Hid (w2.heap[w.heap.size]? = some (.cells #[.slice none 0 0, .int .i64 0] 43)) := (hb2.block w.heap.size (by simp; omega)).trans ((Below.heap_alloc _ _ _ (by omega)).trans HK1.out)
  have HX2 : Hid (w2.heap[w1.heap.size]? = some (.cells #[.slice fa fs.length fc, .int .i64 m] 43)) := (hb2.block _ (by simp)).trans (World.alloc_heap_new _ _)
  have HB12 : Hid (Below w1.heap.size w1 w2) := HBa.out.trans (hb2.mono (by simp))
  have HB2 : Hid (Below w.heap.size w w2) := HB1.out.trans (HB12.out.mono (by omega))
  have HOw : Hid (Reads w2 vw L) := how.reads
  obtain ⟨wa, wc, hwv, _⟩ := how.form
  subst hwv
  clear hb2 how HW HK1
  have c0 := cell_rw' HK2.out 0 (by decide)
  have c1 := cell_rw' HK2.out 1 (by decide)
  have x0 := cell_rw' HX2.out 0 (by simp)
  have x1 := cell_rw' HX2.out 1 (by simp)
  have f0 : w2.frozen? ⟨w.heap.size, 0, none⟩ = false := by simp [World.frozen?, HK2.out]
  have f1 : w2.frozen? ⟨w.heap.size, 1, none⟩ = false := by simp [World.frozen?, HK2.out]
  simp only [List.getElem_toArray, List.getElem_cons_succ, List.getElem_cons_zero] at c0 c1 x0 x1
  by_cases hr : rightR (⟨.slice fa fs.length fc, fs, m⟩ : Rc).p m = true
  · have hE : E = 0 := by rw [HE.out]; unfold wrE; rw [if_pos hr]
    have HLr : Hid (L = wrR (guF b).1 (guF b).2) := by unfold Hid; rw [HL.out]; unfold wrB; rw [if_pos hr, HP.out, HM.out]
    have HRr : Hid (rightR (guF b).1 (guF b).2 = true) := by unfold Hid; rw [← HP.out, ← HM.out]; exact hr
    subst hE
    clear hr HL HE
    obtain ⟨q, HQ⟩ := hid_ex (decide (L = b))
    go_wp2_with fail
    refine (equal_any _ _ L b w2 HOw.out (HR.out.below HB2.out)).mono ?_
    rintro e w3 ⟨rfl, hw3⟩
    subst w3
    rw [← HQ.out]
    cases q with
    | false =>
      have HNo : Hid (¬ (rightR (guF b).1 (guF b).2 = true ∧ wrR (guF b).1 (guF b).2 = b)) := fun h => of_decide_eq_false HQ.out.symm (HLr.out.trans h.2)
      go_wp2_with fail
      have HK3 := cells_set (cells_set HK2.out 0 (.slice none 0 0)) 1 (.int .i64 0)
      refine bodyPost_ret (results_rt rfl _ _ w.heap.size _ rfl (run_loadVar_row _ w.heap.size _ _ _ (0, 0) _ HK3 Tryz.underlying43 rfl (by kernel_rfl))) rfl ?_
      exact rdw_no HNo.out ((HB2.out.setCell (p := ⟨w.heap.size, 0, none⟩) (Nat.le_refl _) _).setCell (p := ⟨w.heap.size, 1, none⟩) (Nat.le_refl _) _)
    | true =>
      have HYes : Hid (rdE b = 0 ∧ rdV b = guF b) := rd_yes HRr.out (HLr.out.symm.trans (of_decide_eq_true HQ.out.symm))
      go_wp2_with fail
      have HK3 := set2b HK2.out rfl (.slice fa fs.length fc) (.int .i64 m)
      refine bodyPost_ret (results_rt rfl _ _ w.heap.size _ rfl (run_loadVar_row _ w.heap.size _ _ _ (0, 0) _ HK3 Tryz.underlying43 rfl (by kernel_rfl))) rfl ?_
      have hok : ∀ B : World, (∀ k, w.heap.size ≤ k → k < ((w2.setCell ⟨w.heap.size, 0, none⟩ (.slice fa fs.length fc)).setCell ⟨w.heap.size, 1, none⟩ (.int .i64 m)).heap.size → B.heap[k]? = ((w2.setCell ⟨w.heap.size, 0, none⟩ (.slice fa fs.length fc)).setCell ⟨w.heap.size, 1, none⟩ (.int .i64 m)).heap[k]?) → RcOk B ⟨.slice fa fs.length fc, fs, m⟩ := by
        intro B hB
        refine ⟨HFN.out B fun k h1 h2 => ?_, hm1, hm2⟩
        have h1' : w.heap.size + 1 ≤ k := by simpa using h1
        rw [hB k (by omega) (by have := HB12.out.size; simp; omega), Go.heap_setCell_other _ _ _ _ (by show k ≠ w.heap.size; omega), Go.heap_setCell_other _ _ _ _ (by show k ≠ w.heap.size; omega), HB12.out.block k h2]
      exact ⟨(HB2.out.setCell (p := ⟨w.heap.size, 0, none⟩) (Nat.le_refl _) _).setCell (p := ⟨w.heap.size, 1, none⟩) (Nat.le_refl _) _, ⟨.slice fa fs.length fc, fs, m⟩, by rw [HYes.out.1]; rfl, hok _ (fun _ _ _ => rfl), hok, by rw [HYes.out.2]; exact HP.out, by rw [HYes.out.2]; exact HM.out⟩
  · have hE : E = 90 := by rw [HE.out]; unfold wrE; rw [if_neg hr]
    have HNo : Hid (¬ (rightR (guF b).1 (guF b).2 = true ∧ wrR (guF b).1 (guF b).2 = b)) := fun h => hr (by rw [HP.out, HM.out]; exact h.1)
    subst hE
    clear hr
    go_wp2_with fail
    have HK3 := cells_set (cells_set HK2.out 0 (.slice none 0 0)) 1 (.int .i64 0)
    refine bodyPost_ret (results_rt rfl _ _ w.heap.size _ rfl (run_loadVar_row _ w.heap.size _ _ _ (0, 0) _ HK3 Tryz.underlying43 rfl (by kernel_rfl))) rfl ?_
    exact rdw_no HNo.out ((HB2.out.setCell (p := ⟨w.heap.size, 0, none⟩) (Nat.le_refl _) _).setCell (p := ⟨w.heap.size, 1, none⟩) (Nat.le_refl _) _)
end Go.Proofs.YtahigmjpeicemaaGreatDoor
