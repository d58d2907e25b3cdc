/- S1 WC6 WR6 WR7, joined. -/
import Derived.Test.YtahigmjpeicemaaDoorWG1
import Derived.Test.YtahigmjpeicemaaDoorWG5
import Derived.Test.YtahigmjpeicemaaDoorWG13
import Derived.Test.YtahigmjpeicemaaDoorWG20
import Derived.Lib.Bytealg
import Derived.Laws.Externs
/- The contracts of bytes.Compare and bytes.Equal; the order of bytes. -/
namespace Go.Proofs.YtahigmjpeicemaaDoor
open Go.RowKit

theorem run_loadBytes (w : World) : ∀ (l : List UInt8) (b off : Nat) (acc : ByteArray), (∀ j (h : j < l.length), w.cell? ⟨b, off + j, none⟩ = some (bc l[j])) →
    (Extern.Bytes.loadBytes ⟨b, off, none⟩ l.length acc).run Tryd.prog w = .ok ⟨acc.data ++ l.toArray⟩ w := by
  intro l
  induction l with
  | nil => intro b off acc _; simp [Extern.Bytes.loadBytes, Sem.run_pure]
  | cons x l ih =>
    intro b off acc h
    have h0 := h 0 (by simp)
    simp only [Nat.add_zero, List.getElem_cons_zero] at h0
    have e1 : (⟨b, off, none⟩ : Addr).add 1 = ⟨b, off + 1, none⟩ := by simp [Addr.add]
    have := ih b (off + 1) (acc.push x) (fun j hj => by
      have := h (j + 1) (by simpa using hj)
      simpa [Nat.add_assoc, Nat.add_comm 1 j] using this)
    have e2 : ((x.toNat : Int).toNat).toUInt8 = x := by simp
    unfold bc at h0
    simp only [List.length_cons, Extern.Bytes.loadBytes, Sem.run_bind, run_load, h0, Result.andThen, e1, e2, this]
    congr 1
    simp [ByteArray.push]
theorem run_bytesOf {w : World} {v : Value} {l : List UInt8} (h : Reads w v l) : (Extern.Bytes.bytesOf v).run Tryd.prog w = .ok ⟨l.toArray⟩ w := by
  rcases h with ⟨rfl, a, cap, rfl, _⟩ | ⟨b, off, cap, rfl, h2, h3, h4, h5, h6⟩
  · cases a with
    | none => simp [Extern.Bytes.bytesOf, Sem.run_pure]; rfl
    | some a => simp [Extern.Bytes.bytesOf, Extern.Bytes.loadBytes, Sem.run_pure]; rfl
  · have := run_loadBytes w l b off ByteArray.empty h6
    simp only [Extern.Bytes.bytesOf]
    rw [this]; simp
theorem run_cmp {w : World} {va vb : Value} {a b : List UInt8} (ha : Reads w va a) (hb : Reads w vb b) : (Extern.BytealgCompare.compare #[va, vb]).run Tryd.prog w = .ok (.int .i64 (Lib.compareBytes a b)) w := by
  change Sem.run Tryd.prog (do pure (goInt (Extern.BytealgCompare.cmp (← Extern.Bytes.bytesOf va) (← Extern.Bytes.bytesOf vb)))) w = _
  simp only [Sem.run_bind, run_bytesOf ha, run_bytesOf hb, Sem.run_pure, Result.andThen]
  rw [Lib.cmp_eq]
  rfl
theorem equal_any (va vb : Value) (a b : List UInt8) (w : World) (ha : Reads w va a) (hb : Reads w vb b) :
    Calls Tryd.prog 32 #[va, vb] w fun e w' => e = .returned (.bool (decide (a = b))) ∧ w' = w := by
  have h1 := reads_text ha
  have h2 := reads_text hb
  obtain ⟨a1, c1, rfl, _⟩ := ha.form
  obtain ⟨a2, c2, rfl, _⟩ := hb.form
  go_enter Tryd.func32, Tryd.ntmps32
  go_wp2_with fail
  go_ret
  exact ⟨congrArg (fun x => Ending.returned (Value.bool x)) (by rw [Bool.eq_iff_iff]; simp), rfl⟩
end Go.Proofs.YtahigmjpeicemaaDoor

/- wal: Read. -/
namespace Go.Proofs.YtahigmjpeicemaaDoor
open Go.RowKit Go.Shelf

def rdE (b : List UInt8) : Int := if (rdR b).isSome = true then 0 else 90
def rdV (b : List UInt8) : List Fc × Int := (rdR b).getD ([], 0)
theorem rd_yes {b : List UInt8} (h1 : rightR (guF b).1 (guF b).2 = true) (h2 : wrR (guF b).1 (guF b).2 = b) : rdE b = 0 ∧ rdV b = guF b := by
  have : rdR b = some (guF b) := by unfold rdR; rw [if_pos ⟨h1, h2⟩]
  unfold rdE rdV; rw [this]; exact ⟨rfl, rfl⟩
theorem rd_no {b : List UInt8} (h : ¬ (rightR (guF b).1 (guF b).2 = true ∧ wrR (guF b).1 (guF b).2 = b)) : rdE b = 90 ∧ rdV b = ([], 0) := by
  have : rdR b = none := by unfold rdR; rw [if_neg h]
  unfold rdE rdV; rw [this]; exact ⟨rfl, rfl⟩
/-- What Read tells. -/
def RdW (w : World) (b : List UInt8) (e : Ending) (w' : World) : Prop := Below w.heap.size w w' ∧ ∃ r : Rc, e = .returned (.tuple #[r.val, .int .i64 (rdE b)]) ∧ RcOk w' r ∧ (∀ B : World, (∀ k, w.heap.size ≤ k → k < w'.heap.size → B.heap[k]? = w'.heap[k]?) → RcOk B r) ∧ r.p = (rdV b).1 ∧ r.m = (rdV b).2
theorem guF_m (b : List UInt8) : -9223372036854775808 ≤ (guF b).2 ∧ (guF b).2 ≤ 9223372036854775807 := by
  cases b with
  | nil => simp [guF]
  | cons c b =>
    rw [guF]
    by_cases e : c = 2
    · rw [if_pos e]; exact rnF_bd b
    · rw [if_neg e]; simp
theorem rdw_no {w : World} {b : List UInt8} {w' : World} (h : ¬ (rightR (guF b).1 (guF b).2 = true ∧ wrR (guF b).1 (guF b).2 = b)) (hb : Below w.heap.size w w') : RdW w b (.returned (.tuple #[.agg #[.slice none 0 0, .int .i64 0], .int .i64 90])) w' := by
  obtain ⟨h1, h2⟩ := rd_no h
  exact ⟨hb, ⟨.slice none 0 0, [], 0⟩, by rw [h1]; rfl, rc_nil _ _ (by simp) (by simp), fun B _ => rc_nil _ _ (by simp) (by simp), by rw [h2]; rfl, by rw [h2]⟩
set_option maxRecDepth 100000 in
set_option maxHeartbeats 2000000 in
theorem walRead_any (v : Value) (b : List UInt8) (hbl : b.length ≤ 5000) (w : World) (hR : Reads w v b) : Calls Tryd.prog 10 #[v] w (RdW w b) := by
  obtain ⟨a, cap, rfl, _⟩ := hR.form
  have HR : Hid (Reads w (.slice a b.length cap) b) := hR
  have HB0 : Hid (Below w.heap.size w (w.alloc (.cells #[.slice none 0 0, .int .i64 0] 24))) := (Below.refl _ _).alloc (Nat.le_refl _) _
  have HG : Hid (Calls Tryd.prog 31 #[.slice a b.length cap] (w.alloc (.cells #[.slice none 0 0, .int .i64 0] 24)) (GuPost (w.alloc (.cells #[.slice none 0 0, .int .i64 0] 24)) b)) := guessed_any _ b hbl _ (hR.below HB0.out)
  obtain ⟨hm1, hm2⟩ := guF_m b
  obtain ⟨m, HM⟩ := hid_ex (guF b).2
  rw [← HM.out] at hm1 hm2
  clear hR
  go_enter Tryd.func10, Tryd.ntmps10
  go_wp2_with fail
  refine HG.out.mono ?_
  rintro e w1 ⟨hb1, fv, fs, rfl, hfn, hfp⟩
  rw [← HM.out]
  have hfr : FReads w1 fv fs := hfn w1 (fun _ _ _ => rfl)
  obtain ⟨fa, fc, hfv, hf1, hf2⟩ := hfr.form
  subst hfv
  have HFN : Hid (FNew (w.alloc (.cells #[.slice none 0 0, .int .i64 0] 24)) w1 (.slice fa fs.length fc) fs) := hfn
  have HFP : Hid (fs.map Fa.p = (guF b).1) := hfp
  have HRc1 : Hid (RcOk w1 ⟨.slice fa fs.length fc, fs, m⟩) := ⟨hfr, hm1, hm2⟩
  have HK1 : Hid (w1.heap[w.heap.size]? = some (.cells #[.slice none 0 0, .int .i64 0] 24)) := (hb1.block w.heap.size (by simp)).trans (World.alloc_heap_new _ _)
  have hz1 : w.heap.size + 1 ≤ w1.heap.size := by have := hb1.size; simpa using this
  have HB1 : Hid (Below w.heap.size w w1) := HB0.out.trans (hb1.mono (by simp))
  have HBa : Hid (Below w1.heap.size w1 (w1.alloc (.cells #[.slice fa fs.length fc, .int .i64 m] 24))) := (Below.refl _ _).alloc (Nat.le_refl _) _
  have HW : Hid (Calls Tryd.prog 7 #[.agg #[.slice fa fs.length fc, .int .i64 m]] (w1.alloc (.cells #[.slice fa fs.length fc, .int .i64 m] 24)) fun e w' => ∃ v, e = .returned (.tuple #[v, .int .i64 (wrE ⟨.slice fa fs.length fc, fs, m⟩)]) ∧ Own w' (w1.alloc (.cells #[.slice fa fs.length fc, .int .i64 m] 24)).heap.size v (wrB ⟨.slice fa fs.length fc, fs, m⟩) ∧ Below (w1.alloc (.cells #[.slice fa fs.length fc, .int .i64 m] 24)).heap.size (w1.alloc (.cells #[.slice fa fs.length fc, .int .i64 m] 24)) w') := walWrite_any ⟨.slice fa fs.length fc, fs, m⟩ _ (HRc1.out.below HBa.out)
  have HP : Hid ((⟨.slice fa fs.length fc, fs, m⟩ : Rc).p = (guF b).1) := hfp
  obtain ⟨E, HE⟩ := hid_ex (wrE ⟨.slice fa fs.length fc, fs, m⟩)
  obtain ⟨L, HL⟩ := hid_ex (wrB ⟨.slice fa fs.length fc, fs, m⟩)
  rw [← HE.out, ← HL.out] at HW
  clear hb1 hfn hfp hfr HG HB0 hf1 hf2
  go_wp2_with fail
  refine HW.out.mono ?_
  rintro e w2 ⟨vw, rfl, how, hb2⟩
  have HK2 : Hid (w2.heap[w.heap.size]? = some (.cells #[.slice none 0 0, .int .i64 0] 24)) := (hb2.block w.heap.size (by simp; omega)).trans ((Below.heap_alloc _ _ _ (by omega)).trans HK1.out)
  have HX2 : Hid (w2.heap[w1.heap.size]? = some (.cells #[.slice fa fs.length fc, .int .i64 m] 24)) := (hb2.block _ (by simp)).trans (World.alloc_heap_new _ _)
  have HB12 : Hid (Below w1.heap.size w1 w2) := HBa.out.trans (hb2.mono (by simp))
  have HB2 : Hid (Below w.heap.size w w2) := HB1.out.trans (HB12.out.mono (by omega))
  have HOw : Hid (Reads w2 vw L) := how.reads
  obtain ⟨wa, wc, hwv, _⟩ := how.form
  subst hwv
  clear hb2 how HW HK1
  have c0 := cell_rw' HK2.out 0 (by decide)
  have c1 := cell_rw' HK2.out 1 (by decide)
  have x0 := cell_rw' HX2.out 0 (by simp)
  have x1 := cell_rw' HX2.out 1 (by simp)
  have f0 : w2.frozen? ⟨w.heap.size, 0, none⟩ = false := by simp [World.frozen?, HK2.out]
  have f1 : w2.frozen? ⟨w.heap.size, 1, none⟩ = false := by simp [World.frozen?, HK2.out]
  simp only [List.getElem_toArray, List.getElem_cons_succ, List.getElem_cons_zero] at c0 c1 x0 x1
  by_cases hr : rightR (⟨.slice fa fs.length fc, fs, m⟩ : Rc).p m = true
  · have hE : E = 0 := by rw [HE.out]; unfold wrE; rw [if_pos hr]
    have HLr : Hid (L = wrR (guF b).1 (guF b).2) := by unfold Hid; rw [HL.out]; unfold wrB; rw [if_pos hr, HP.out, HM.out]
    have HRr : Hid (rightR (guF b).1 (guF b).2 = true) := by unfold Hid; rw [← HP.out, ← HM.out]; exact hr
    subst hE
    clear hr HL HE
    obtain ⟨q, HQ⟩ := hid_ex (decide (L = b))
    go_wp2_with fail
    refine (equal_any _ _ L b w2 HOw.out (HR.out.below HB2.out)).mono ?_
    rintro e w3 ⟨rfl, hw3⟩
    subst w3
    rw [← HQ.out]
    cases q with
    | false =>
      have HNo : Hid (¬ (rightR (guF b).1 (guF b).2 = true ∧ wrR (guF b).1 (guF b).2 = b)) := fun h => of_decide_eq_false HQ.out.symm (HLr.out.trans h.2)
      go_wp2_with fail
      have HK3 := cells_set (cells_set HK2.out 0 (.slice none 0 0)) 1 (.int .i64 0)
      refine bodyPost_ret (results_rt rfl _ _ w.heap.size _ rfl (run_loadVar_row _ w.heap.size _ _ _ (0, 0) _ HK3 Tryd.underlying24 rfl (by kernel_rfl))) rfl ?_
      exact rdw_no HNo.out ((HB2.out.setCell (p := ⟨w.heap.size, 0, none⟩) (Nat.le_refl _) _).setCell (p := ⟨w.heap.size, 1, none⟩) (Nat.le_refl _) _)
    | true =>
      have HYes : Hid (rdE b = 0 ∧ rdV b = guF b) := rd_yes HRr.out (HLr.out.symm.trans (of_decide_eq_true HQ.out.symm))
      go_wp2_with fail
      have HK3 := set2b HK2.out rfl (.slice fa fs.length fc) (.int .i64 m)
      refine bodyPost_ret (results_rt rfl _ _ w.heap.size _ rfl (run_loadVar_row _ w.heap.size _ _ _ (0, 0) _ HK3 Tryd.underlying24 rfl (by kernel_rfl))) rfl ?_
      have hok : ∀ B : World, (∀ k, w.heap.size ≤ k → k < ((w2.setCell ⟨w.heap.size, 0, none⟩ (.slice fa fs.length fc)).setCell ⟨w.heap.size, 1, none⟩ (.int .i64 m)).heap.size → B.heap[k]? = ((w2.setCell ⟨w.heap.size, 0, none⟩ (.slice fa fs.length fc)).setCell ⟨w.heap.size, 1, none⟩ (.int .i64 m)).heap[k]?) → RcOk B ⟨.slice fa fs.length fc, fs, m⟩ := by
        intro B hB
        refine ⟨HFN.out B fun k h1 h2 => ?_, hm1, hm2⟩
        have h1' : w.heap.size + 1 ≤ k := by simpa using h1
        rw [hB k (by omega) (by have := HB12.out.size; simp; omega), Go.heap_setCell_other _ _ _ _ (by show k ≠ w.heap.size; omega), Go.heap_setCell_other _ _ _ _ (by show k ≠ w.heap.size; omega), HB12.out.block k h2]
      exact ⟨(HB2.out.setCell (p := ⟨w.heap.size, 0, none⟩) (Nat.le_refl _) _).setCell (p := ⟨w.heap.size, 1, none⟩) (Nat.le_refl _) _, ⟨.slice fa fs.length fc, fs, m⟩, by rw [HYes.out.1]; rfl, hok _ (fun _ _ _ => rfl), hok, by rw [HYes.out.2]; exact HP.out, by rw [HYes.out.2]; exact HM.out⟩
  · have hE : E = 90 := by rw [HE.out]; unfold wrE; rw [if_neg hr]
    have HNo : Hid (¬ (rightR (guF b).1 (guF b).2 = true ∧ wrR (guF b).1 (guF b).2 = b)) := fun h => hr (by rw [HP.out, HM.out]; exact h.1)
    subst hE
    clear hr
    go_wp2_with fail
    have HK3 := cells_set (cells_set HK2.out 0 (.slice none 0 0)) 1 (.int .i64 0)
    refine bodyPost_ret (results_rt rfl _ _ w.heap.size _ rfl (run_loadVar_row _ w.heap.size _ _ _ (0, 0) _ HK3 Tryd.underlying24 rfl (by kernel_rfl))) rfl ?_
    exact rdw_no HNo.out ((HB2.out.setCell (p := ⟨w.heap.size, 0, none⟩) (Nat.le_refl _) _).setCell (p := ⟨w.heap.size, 1, none⟩) (Nat.le_refl _) _)
end Go.Proofs.YtahigmjpeicemaaDoor

/- What the reference's Read guesses: pure. -/
namespace Go.Proofs.YtahigmjpeicemaaDoor
open Go.RowKit Go.Shelf

def gF : Nat → List UInt8 → Option (List Fc)
  | 0, _ => some []
  | k + 1, b => match rdF b with
    | none => none
    | some (f, r) => (gF k r).map (f :: ·)
theorem gF_bd : ∀ (k : Nat) (b : List UInt8) (fs : List Fc), gF k b = some fs → ∀ f ∈ fs, FcB f
  | 0, _, fs, h => by simp [gF] at h; subst h; simp
  | k + 1, b, fs, h => by
    rw [gF] at h
    cases hr : rdF b with
    | none => rw [hr] at h; cases h
    | some q =>
      obtain ⟨g, r⟩ := q
      rw [hr] at h
      simp only [Option.map_eq_some_iff] at h
      obtain ⟨gs, h1, rfl⟩ := h
      intro f hf
      rcases List.mem_cons.1 hf with rfl | hf
      · exact rdF_bd hr
      · exact gF_bd k r gs h1 f hf
theorem gF_wr : ∀ (fs : List Fc), fs.all mayP = true → (∀ f ∈ fs, FcB f) → gF fs.length (fs.flatMap wrF) = some fs
  | [], _, _ => rfl
  | f :: fs, ha, hb => by
    simp only [List.all_cons, Bool.and_eq_true] at ha
    rw [List.length_cons, List.flatMap_cons, gF, rdF_wrF f _ (mayP_4 ha.1) (hb f (List.mem_cons_self ..))]
    simp only
    rw [gF_wr fs ha.2 (fun g hg => hb g (List.mem_cons_of_mem _ hg))]
    rfl
def isA (b : List UInt8) : Prop := b.length = 9 ∧ b[0]? = some 2
def isB (b : List UInt8) : Prop := 1 < b.length ∧ b[0]? = some 1
instance (b : List UInt8) : Decidable (isA b) := by unfold isA; infer_instance
instance (b : List UInt8) : Decidable (isB b) := by unfold isB; infer_instance
def cntB (b : List UInt8) : Nat := min (rsF (b.drop 1) 0 0).1 17
def g2F (b : List UInt8) : Option (List Fc × Int) :=
  if isA b then some ([], (rnF (b.drop 1)).1)
  else if isB b then (gF (cntB b) (b.drop (1 + (rsF (b.drop 1) 0 0).2.1))).map fun fs => (fs, -1)
  else some ([], -1)
theorem sh_pos9 (n : Nat) : 1 ≤ (sh n).length := by
  rw [sh]
  by_cases h : n < 128
  · rw [if_pos h]; simp
  · rw [if_neg h]; simp
theorem g2_of {b : List UInt8} {fs : List Fc} {m : Int} (h : rdR b = some (fs, m)) : g2F b = some (fs, m) := by
  obtain ⟨hr, hb, hw⟩ := rdR_some h
  obtain ⟨h1, h2⟩ := rightR_all hr
  subst hw
  unfold wrR
  unfold rightR at hr
  by_cases e : fs.length = 0
  · rw [if_pos e] at hr ⊢
    obtain ⟨a, c⟩ := isTm_iff.1 hr
    have := rnF_nb m (by omega) (by omega) []
    rw [List.append_nil] at this
    have hA : isA (2 :: nb m) := ⟨by simp [nb_len], rfl⟩
    unfold g2F
    rw [if_pos hA, List.length_eq_zero_iff.1 e]
    simp only [List.drop_succ_cons, List.drop_zero]
    rw [this]
  · rw [if_neg e] at hr ⊢
    simp only [Bool.and_eq_true, beq_iff_eq] at hr
    have hs := rsF_sh fs.length (fs.flatMap wrF) 0 0 (by simp) (by simp; omega) (by simp)
    simp only [Nat.zero_add, Nat.pow_zero, Nat.one_mul] at hs
    have hA : ¬ isA (1 :: (sh fs.length ++ fs.flatMap wrF)) := by
      intro h9
      have := h9.2
      simp at this
    have hB : isB (1 :: (sh fs.length ++ fs.flatMap wrF)) := ⟨by have := sh_pos9 fs.length; simp; omega, rfl⟩
    unfold g2F cntB
    rw [if_neg hA, if_pos hB]
    simp only [List.drop_succ_cons, List.drop_zero]
    rw [hs]
    simp only
    rw [show min fs.length 17 = fs.length by omega, show 1 + (sh fs.length).length = (sh fs.length).length + 1 by omega, List.drop_succ_cons, List.drop_left, gF_wr fs h2 hb, hr.1.1]
    rfl
theorem g2_none {b : List UInt8} (h : g2F b = none) : rdR b = none := by
  cases e : rdR b with
  | none => rfl
  | some q => rw [g2_of (fs := q.1) (m := q.2) e] at h; cases h
theorem g2_bad {b : List UInt8} {fs : List Fc} {m : Int} (h : g2F b = some (fs, m)) (hn : ¬ (rightR fs m = true ∧ wrR fs m = b)) : rdR b = none := by
  cases e : rdR b with
  | none => rfl
  | some q =>
    obtain ⟨h1, _, h3⟩ := rdR_some (fs := q.1) (m := q.2) e
    rw [g2_of (fs := q.1) (m := q.2) e] at h
    cases h
    exact absurd ⟨h1, h3⟩ hn
theorem g2_bd {b : List UInt8} {fs : List Fc} {m : Int} (h : g2F b = some (fs, m)) : ∀ f ∈ fs, FcB f := by
  unfold g2F at h
  by_cases hA : isA b
  · rw [if_pos hA] at h; cases h; simp
  · rw [if_neg hA] at h
    by_cases hB : isB b
    · rw [if_pos hB, Option.map_eq_some_iff] at h
      obtain ⟨gs, h1, h2⟩ := h
      cases h2
      exact gF_bd _ _ _ h1
    · rw [if_neg hB] at h; cases h; simp
theorem g2_good {b : List UInt8} {fs : List Fc} {m : Int} (h : g2F b = some (fs, m)) (h1 : rightR fs m = true) (h2 : wrR fs m = b) : rdR b = some (fs, m) := rdR_iff.2 ⟨h1, g2_bd h, h2⟩
theorem g2_m {b : List UInt8} {fs : List Fc} {m : Int} (h : g2F b = some (fs, m)) : -9223372036854775808 ≤ m ∧ m ≤ 9223372036854775807 := by
  unfold g2F at h
  by_cases hA : isA b
  · rw [if_pos hA] at h; cases h; exact rnF_bd _
  · rw [if_neg hA] at h
    by_cases hB : isB b
    · rw [if_pos hB, Option.map_eq_some_iff] at h
      obtain ⟨gs, h1, h2⟩ := h
      cases h2
      simp
    · rw [if_neg hB] at h; cases h; simp
theorem rdx_no {w : World} {b : List UInt8} {w' : World} (h : rdR b = none) (hb : Below w.heap.size w w') : RdW w b (.returned (.tuple #[.agg #[.slice none 0 0, .int .i64 0], .int .i64 90])) w' := by
  have h1 : rdE b = 90 := by unfold rdE; rw [h]; rfl
  have h2 : rdV b = ([], 0) := by unfold rdV; rw [h]; rfl
  exact ⟨hb, ⟨.slice none 0 0, [], 0⟩, by rw [h1]; rfl, rc_nil _ _ (by simp) (by simp), fun B _ => rc_nil _ _ (by simp) (by simp), by rw [h2]; rfl, by rw [h2]⟩
theorem rdx_yes {b : List UInt8} {fs : List Fc} {m : Int} (h : rdR b = some (fs, m)) : rdE b = 0 ∧ rdV b = (fs, m) := by
  unfold rdE rdV; rw [h]; exact ⟨rfl, rfl⟩
end Go.Proofs.YtahigmjpeicemaaDoor

/- The reference's Read: a theorem a case (written by mkwr7.py). -/
namespace Go.Proofs.YtahigmjpeicemaaDoor
open Go.RowKit Go.Shelf

structure IRd (w : World) (fv : Value) (pre : List Fa) (W : World) : Prop where
  r : W.heap[w.heap.size + 1]? = some (.cells #[fv, .int .i64 (-1)] 35)
  o : W.ownsRow (w.heap.size + 2) 27 3 fv pre.length (pre.flatMap c3)
  z : W.heap[w.heap.size]? = some (.cells #[.slice none 0 0, .int .i64 0] 35)
  s : ∀ x ∈ pre, SOwn W (w.heap.size + 2) x.v x.D ∧ FaB x
  b : Below w.heap.size w W
  g : w.heap.size + 2 ≤ W.heap.size
theorem IRd.below {w W W' : World} {fv : Value} {pre : List Fa} (h : IRd w fv pre W) (hb : Below W.heap.size W W') : IRd w fv pre W' :=
  ⟨(hb.block _ (Array.getElem?_eq_some_iff.1 h.r).1).trans h.r, row_new h.o (fun k _ hk => hb.block k hk), (hb.block _ (Array.getElem?_eq_some_iff.1 h.z).1).trans h.z, fun x hx => ⟨(h.s x hx).1.below hb, (h.s x hx).2⟩, h.b.trans (hb.mono h.b.size), Nat.le_trans h.g hb.size⟩
theorem IRd.r4 {w W w4 : World} {fv : Value} {pre : List Fa} {tmp : Obj} (h : IRd w fv pre W) (hg : (W.alloc tmp).grownBy w4 fv.ownBlock) : w4.heap[w.heap.size + 1]? = some (.cells #[fv, .int .i64 (-1)] 35) :=
  (hg.block _ (by have := (Array.getElem?_eq_some_iff.1 h.r).1; simp; omega) (row_ne h.o h.r (by decide))).trans ((Below.heap_alloc _ _ _ (Array.getElem?_eq_some_iff.1 h.r).1).trans h.r)
theorem IRd.step {w W w4 : World} {fv vq : Value} {pre : List Fa} {x : Fa} {tmp : Obj} (h : IRd w fv pre W) (hso : SOwn W (w.heap.size + 2) x.v x.D) (hfb : FaB x)
    (hown : w4.ownsRow (w.heap.size + 2) 27 3 vq (pre.length + 1) (pre.flatMap c3 ++ c3 x)) (hg : (W.alloc tmp).grownBy w4 fv.ownBlock) : IRd w vq (pre ++ [x]) (w4.setCell ⟨w.heap.size + 1, 0, none⟩ vq) := by
  have hR4 := h.r4 hg
  have hgz := h.g
  have hbase : ∀ k, fv.ownBlock = some k → w.heap.size ≤ k := fun k hk => Nat.le_trans (by omega) (own_block h.o k hk)
  have bel4 : Below w.heap.size w w4 := (h.b.alloc (by omega) tmp).grown hg (by simp; omega) hbase
  have keep : ∀ k, k < W.heap.size → k ≠ w.heap.size + 1 → some k ≠ fv.ownBlock → (w4.setCell ⟨w.heap.size + 1, 0, none⟩ vq).heap[k]? = W.heap[k]? := fun k h1 h2 h3 =>
    (Go.heap_setCell_other _ _ _ _ h2).trans ((hg.block k (by simp; omega) h3).trans (Below.heap_alloc _ _ _ h1))
  have toS : ∀ {v : Value} {L : List ByteArray}, SOwn W (w.heap.size + 2) v L → SOwn (w4.setCell ⟨w.heap.size + 1, 0, none⟩ vq) (w.heap.size + 2) v L := fun hh => sown_to hh fun g cur hgc =>
    keep g (Array.getElem?_eq_some_iff.1 hgc).1 (fun e => by rw [e, h.r] at hgc; simp at hgc) (row_ne h.o hgc (by decide))
  refine ⟨?_, ?_, ?_, ?_, bel4.setCell (p := ⟨w.heap.size + 1, 0, none⟩) (Nat.le_succ _) vq, ?_⟩
  · rw [cells_set hR4 0 vq]; rfl
  · rw [List.length_append, List.flatMap_append]
    have hk := World.ownsRow.kept hown (grownBy_setCell' w4 (w.heap.size + 1) vq) (.inr ?_)
    · simpa using hk
    · intro e
      have := row_ne hown hR4 (by decide)
      exact this (by first | exact e | exact e.symm)
  · exact (keep _ (Array.getElem?_eq_some_iff.1 h.z).1 (by omega) (row_ne h.o h.z (by decide))).trans h.z
  · intro y hy
    rcases List.mem_append.1 hy with hy | hy
    · exact ⟨toS (h.s y hy).1, (h.s y hy).2⟩
    · simp at hy
      subst hy
      exact ⟨toS hso, hfb⟩
  · have h5 : (w4.setCell ⟨w.heap.size + 1, 0, none⟩ vq).heap.size = w4.heap.size := by simp
    have h6 := (Array.getElem?_eq_some_iff.1 hR4).1
    rw [h5]; omega
/-- What is read of the row hangs on what came behind the boxes alone. -/
def FNw (n : Nat) (W : World) (fv : Value) (fs : List Fa) : Prop := ∀ B : World, (∀ k, n ≤ k → k < W.heap.size → B.heap[k]? = W.heap[k]?) → FReads B fv fs
theorem IRd.fn {w W : World} {fv : Value} {pre : List Fa} (h : IRd w fv pre W) : FNw (w.heap.size + 2) W fv pre := fun _ hB =>
  igu_reads (row_new h.o hB) fun x hx => ⟨SOwn.reads ⟨row_new (h.s x hx).1.1 hB, (h.s x hx).1.2⟩, (h.s x hx).2⟩
theorem fnw_nil (n : Nat) (W : World) : FNw n W (.slice none 0 0) [] := fun _ _ => freads_nil _
theorem set2r {w : World} {g : Nat} {x y : Value} {T : TypeId} (h : w.heap[g]? = some (.cells #[x, y] T)) (a : Value) : (w.setCell ⟨g, 1, none⟩ a).heap[g]? = some (.cells #[x, a] T) := by
  rw [cells_set h 1 a]; rfl
def ZR : Obj := .cells #[.slice none 0 0, .int .i64 0] 35
def RR0 : Obj := .cells #[.slice none 0 0, .int .i64 (-1)] 35
theorem ird0 (w : World) : IRd w (.slice none 0 0) [] ((w.alloc (.cells #[.slice none 0 0, .int .i64 0] 35)).alloc (.cells #[.slice none 0 0, .int .i64 (-1)] 35)) := by
  refine ⟨?_, ⟨rfl, .inl ⟨rfl, rfl⟩⟩, ?_, by simp, ((Below.refl _ _).alloc (Nat.le_refl _) _).alloc (by simp) _, by simp⟩
  · have := World.alloc_heap_new (w.alloc (.cells #[.slice none 0 0, .int .i64 0] 35)) (.cells #[.slice none 0 0, .int .i64 (-1)] 35)
    simpa using this
  · exact (Below.heap_alloc _ _ _ (by simp)).trans (World.alloc_heap_new _ _)
set_option maxRecDepth 100000 in
set_option maxHeartbeats 4000000 in
theorem wrefRead_C1 (b : List UInt8) (hbl : b.length ≤ 1) (a : Option Addr) (cap : Nat) (w : World) (hR : Reads w (.slice a b.length cap) b) : Calls Tryd.prog 12 #[.slice a b.length cap] w (RdW w b) := by
  have HR : Hid (Reads w (.slice a b.length cap) b) := hR
  have HI0 : Hid (IRd w (.slice none 0 0) [] ((w.alloc (.cells #[.slice none 0 0, .int .i64 0] 35)).alloc (.cells #[.slice none 0 0, .int .i64 (-1)] 35))) := ird0 w
  clear hR
  have h9 : ¬ (b.length : Int) = 9 := by omega
  have h1 : ¬ (1 : Int) < (b.length : Int) := by omega
  have HG0 : Hid (g2F b = some ([], -1)) := by
    unfold Hid g2F
    rw [if_neg (fun h => by have := h.1; omega), if_neg (fun h => by have := h.1; omega)]
  go_enter Tryd.func12, Tryd.ntmps12
  go_wp2_with fail
  have HRt : Hid (((w.alloc (.cells #[.slice none 0 0, .int .i64 0] 35)).alloc (.cells #[.slice none 0 0, .int .i64 (-1)] 35)).heap[w.heap.size + 1]? = some (.cells #[.slice none 0 0, .int .i64 (-1)] 35)) := HI0.out.r
  have HZt : Hid (((w.alloc (.cells #[.slice none 0 0, .int .i64 0] 35)).alloc (.cells #[.slice none 0 0, .int .i64 (-1)] 35)).heap[w.heap.size]? = some (.cells #[.slice none 0 0, .int .i64 0] 35)) := HI0.out.z
  have HBt : Hid (Below w.heap.size w ((w.alloc (.cells #[.slice none 0 0, .int .i64 0] 35)).alloc (.cells #[.slice none 0 0, .int .i64 (-1)] 35))) := HI0.out.b
  have HGt2 : Hid (w.heap.size + 2 ≤ ((w.alloc (.cells #[.slice none 0 0, .int .i64 0] 35)).alloc (.cells #[.slice none 0 0, .int .i64 (-1)] 35)).heap.size) := HI0.out.g
  have HNt : Hid (FNw (w.heap.size + 2) ((w.alloc (.cells #[.slice none 0 0, .int .i64 0] 35)).alloc (.cells #[.slice none 0 0, .int .i64 (-1)] 35)) (.slice none 0 0) []) := fnw_nil _ _
  have HGt : Hid (g2F b = some (([] : List Fa).map Fa.p, -1)) := HG0.out
  have hzt := HGt2.out
  have HMt : Hid (-9223372036854775808 ≤ (-1) ∧ (-1) ≤ 9223372036854775807) := g2_m HGt.out
  have HOk : Hid (RcOk ((w.alloc (.cells #[.slice none 0 0, .int .i64 0] 35)).alloc (.cells #[.slice none 0 0, .int .i64 (-1)] 35)) ⟨.slice none 0 0, ([] : List Fa), (-1)⟩) := ⟨HNt.out ((w.alloc (.cells #[.slice none 0 0, .int .i64 0] 35)).alloc (.cells #[.slice none 0 0, .int .i64 (-1)] 35)) (fun _ _ _ => rfl), HMt.out.1, HMt.out.2⟩
  have HW : Hid (Calls Tryd.prog 8 #[.agg #[.slice none 0 0, .int .i64 (-1)]] ((w.alloc (.cells #[.slice none 0 0, .int .i64 0] 35)).alloc (.cells #[.slice none 0 0, .int .i64 (-1)] 35)) fun e w' => ∃ v, e = .returned (.tuple #[v, .int .i64 (wrE ⟨.slice none 0 0, ([] : List Fa), (-1)⟩)]) ∧ Own w' ((w.alloc (.cells #[.slice none 0 0, .int .i64 0] 35)).alloc (.cells #[.slice none 0 0, .int .i64 (-1)] 35)).heap.size v (wrB ⟨.slice none 0 0, ([] : List Fa), (-1)⟩) ∧ Below ((w.alloc (.cells #[.slice none 0 0, .int .i64 0] 35)).alloc (.cells #[.slice none 0 0, .int .i64 (-1)] 35)).heap.size ((w.alloc (.cells #[.slice none 0 0, .int .i64 0] 35)).alloc (.cells #[.slice none 0 0, .int .i64 (-1)] 35)) w') := wrefWrite_any ⟨.slice none 0 0, ([] : List Fa), (-1)⟩ ((w.alloc (.cells #[.slice none 0 0, .int .i64 0] 35)).alloc (.cells #[.slice none 0 0, .int .i64 (-1)] 35)) HOk.out
  have HP : Hid ((⟨.slice none 0 0, ([] : List Fa), (-1)⟩ : Rc).p = ([] : List Fa).map Fa.p) := rfl
  obtain ⟨E, HE⟩ := hid_ex (wrE ⟨.slice none 0 0, ([] : List Fa), (-1)⟩)
  obtain ⟨L, HL⟩ := hid_ex (wrB ⟨.slice none 0 0, ([] : List Fa), (-1)⟩)
  rw [← HE.out, ← HL.out] at HW
  refine HW.out.mono ?_
  rintro e w2 ⟨vw, rfl, how, hb2⟩
  have HK2 : Hid (w2.heap[w.heap.size]? = some (.cells #[.slice none 0 0, .int .i64 0] 35)) := (hb2.block w.heap.size (by omega)).trans HZt.out
  have HX2 : Hid (w2.heap[w.heap.size + 1]? = some (.cells #[.slice none 0 0, .int .i64 (-1)] 35)) := (hb2.block _ (by omega)).trans HRt.out
  have HB2 : Hid (Below w.heap.size w w2) := HBt.out.trans (hb2.mono (by omega))
  have HB12 : Hid (Below ((w.alloc (.cells #[.slice none 0 0, .int .i64 0] 35)).alloc (.cells #[.slice none 0 0, .int .i64 (-1)] 35)).heap.size ((w.alloc (.cells #[.slice none 0 0, .int .i64 0] 35)).alloc (.cells #[.slice none 0 0, .int .i64 (-1)] 35)) w2) := hb2
  have HOw : Hid (Reads w2 vw L) := how.reads
  obtain ⟨wa, wc, hwv, _⟩ := how.form
  subst hwv
  clear hb2 how HW
  have c0 := cl3 HK2.out 0 (by simp)
  have c1 := cl3 HK2.out 1 (by simp)
  have x0 := cl3 HX2.out 0 (by simp)
  have x1 := cl3 HX2.out 1 (by simp)
  have f0 := fz3 HK2.out 0
  have f1 := fz3 HK2.out 1
  simp only [List.getElem_toArray, List.getElem_cons_succ, List.getElem_cons_zero] at c0 c1 x0 x1
  by_cases hr : rightR (([] : List Fa).map Fa.p) (-1) = true
  · have hE : E = 0 := by rw [HE.out]; unfold wrE; rw [HP.out, if_pos hr]
    have HLr : Hid (L = wrR (([] : List Fa).map Fa.p) (-1)) := by unfold Hid; rw [HL.out]; unfold wrB; rw [HP.out, if_pos hr]
    have HRr : Hid (rightR (([] : List Fa).map Fa.p) (-1) = true) := hr
    have q1 := reads_text HOw.out
    have q2 := reads_text (HR.out.below HB2.out)
    subst hE
    clear hr HL HE
    by_cases hU : L = b
    · obtain ⟨r1, r2⟩ := rdx_yes (g2_good HGt.out HRr.out (HLr.out.symm.trans hU))
      have hbe : (L == b) = true := by simp [hU]
      have hbn : (L != b) = false := by simp [hU]
      have HYes : Hid (rdE b = 0 ∧ rdV b = (([] : List Fa).map Fa.p, (-1))) := ⟨r1, r2⟩
      clear hU r1 r2
      go_wp2_with fail
      have HK3 := set2b HK2.out rfl (.slice none 0 0) (.int .i64 (-1))
      refine bodyPost_ret (results_ct rfl _ _ w.heap.size _ rfl (run_loadVar_row _ w.heap.size _ _ _ (0, 0) _ HK3 Tryd.underlying35 rfl (by kernel_rfl))) rfl ?_
      have hok : ∀ B : World, (∀ k, w.heap.size ≤ k → k < ((w2.setCell ⟨w.heap.size, 0, none⟩ (.slice none 0 0)).setCell ⟨w.heap.size, 1, none⟩ (.int .i64 (-1))).heap.size → B.heap[k]? = ((w2.setCell ⟨w.heap.size, 0, none⟩ (.slice none 0 0)).setCell ⟨w.heap.size, 1, none⟩ (.int .i64 (-1))).heap[k]?) → RcOk B ⟨.slice none 0 0, ([] : List Fa), (-1)⟩ := by
        intro B hB
        refine ⟨HNt.out B fun k h1 h2 => ?_, HMt.out.1, HMt.out.2⟩
        rw [hB k (by omega) (by have := HB12.out.size; simp; omega), Go.heap_setCell_other _ _ _ _ (by show k ≠ w.heap.size; omega), Go.heap_setCell_other _ _ _ _ (by show k ≠ w.heap.size; omega), HB12.out.block k h2]
      exact ⟨(HB2.out.setCell (p := ⟨w.heap.size, 0, none⟩) (Nat.le_refl _) _).setCell (p := ⟨w.heap.size, 1, none⟩) (Nat.le_refl _) _, ⟨.slice none 0 0, ([] : List Fa), (-1)⟩, by rw [HYes.out.1]; rfl, hok _ (fun _ _ _ => rfl), hok, by rw [HYes.out.2]; exact HP.out, by rw [HYes.out.2]⟩
    · have HNo : Hid (rdR b = none) := g2_bad HGt.out (fun h => hU (HLr.out.trans h.2))
      have hbe : (L == b) = false := by simp [hU]
      have hbn : (L != b) = true := by simp [hU]
      clear hU
      go_wp2_with fail
      have HK3 := set2b HK2.out rfl (.slice none 0 0) (.int .i64 0)
      refine bodyPost_ret (results_ct rfl _ _ w.heap.size _ rfl (run_loadVar_row _ w.heap.size _ _ _ (0, 0) _ HK3 Tryd.underlying35 rfl (by kernel_rfl))) rfl ?_
      exact rdx_no HNo.out ((HB2.out.setCell (p := ⟨w.heap.size, 0, none⟩) (Nat.le_refl _) _).setCell (p := ⟨w.heap.size, 1, none⟩) (Nat.le_refl _) _)
  · have hE : E = 90 := by rw [HE.out]; unfold wrE; rw [HP.out, if_neg hr]
    have HNo : Hid (rdR b = none) := g2_bad HGt.out (fun h => hr h.1)
    subst hE
    clear hr
    go_wp2_with fail
    have HK3 := set2b HK2.out rfl (.slice none 0 0) (.int .i64 0)
    refine bodyPost_ret (results_ct rfl _ _ w.heap.size _ rfl (run_loadVar_row _ w.heap.size _ _ _ (0, 0) _ HK3 Tryd.underlying35 rfl (by kernel_rfl))) rfl ?_
    exact rdx_no HNo.out ((HB2.out.setCell (p := ⟨w.heap.size, 0, none⟩) (Nat.le_refl _) _).setCell (p := ⟨w.heap.size, 1, none⟩) (Nat.le_refl _) _)
set_option maxRecDepth 100000 in
set_option maxHeartbeats 4000000 in
theorem wrefRead_C9 {w : World} (b : List UInt8) (hbl : b.length ≤ 5000) (hlen : 1 < b.length) (bb off cap : Nat) (hbw : bb < w.heap.size) (c : UInt8) (hc : b[0]? = some c) (hcell : w.cell? ⟨bb, off, none⟩ = some (bc c)) (h2 : ¬ c = 2) (h1 : ¬ c = 1) (h9 : b.length = 9) (hR : Reads w (.slice (some ⟨bb, off, none⟩) b.length cap) b) : Calls Tryd.prog 12 #[.slice (some ⟨bb, off, none⟩) b.length cap] w (RdW w b) := by
  have HR : Hid (Reads w (.slice (some ⟨bb, off, none⟩) b.length cap) b) := hR
  have HI0 : Hid (IRd w (.slice none 0 0) [] ((w.alloc (.cells #[.slice none 0 0, .int .i64 0] 35)).alloc (.cells #[.slice none 0 0, .int .i64 (-1)] 35))) := ird0 w
  clear hR
  have hd9 : ((b.length : Int) == 9) = true := by simp; omega
  have hl1 : (1 : Int) < (b.length : Int) := by omega
  have c0 : ((w.alloc (.cells #[.slice none 0 0, .int .i64 0] 35)).alloc (.cells #[.slice none 0 0, .int .i64 (-1)] 35)).cell? ⟨bb, off, none⟩ = some (.int .u8 (c.toNat : Int)) := (HI0.out.b.cell (p := ⟨bb, off, none⟩) hbw).trans hcell
  have h2' : ¬ (c.toNat : Int) = 2 := fun e => h2 (UInt8.toNat_inj.1 (show c.toNat = 2 by omega))
  have h1' : ¬ (c.toNat : Int) = 1 := fun e => h1 (UInt8.toNat_inj.1 (show c.toNat = 1 by omega))
  have HG0 : Hid (g2F b = some ([], -1)) := by
    unfold Hid g2F
    rw [if_neg (fun h => by have := h.2; rw [hc] at this; exact h2 (Option.some.inj this)), if_neg (fun h => by have := h.2; rw [hc] at this; exact h1 (Option.some.inj this))]
  clear h2 h1 hcell hc h9
  go_enter Tryd.func12, Tryd.ntmps12
  go_wp2_with fail
  have HRt : Hid (((w.alloc (.cells #[.slice none 0 0, .int .i64 0] 35)).alloc (.cells #[.slice none 0 0, .int .i64 (-1)] 35)).heap[w.heap.size + 1]? = some (.cells #[.slice none 0 0, .int .i64 (-1)] 35)) := HI0.out.r
  have HZt : Hid (((w.alloc (.cells #[.slice none 0 0, .int .i64 0] 35)).alloc (.cells #[.slice none 0 0, .int .i64 (-1)] 35)).heap[w.heap.size]? = some (.cells #[.slice none 0 0, .int .i64 0] 35)) := HI0.out.z
  have HBt : Hid (Below w.heap.size w ((w.alloc (.cells #[.slice none 0 0, .int .i64 0] 35)).alloc (.cells #[.slice none 0 0, .int .i64 (-1)] 35))) := HI0.out.b
  have HGt2 : Hid (w.heap.size + 2 ≤ ((w.alloc (.cells #[.slice none 0 0, .int .i64 0] 35)).alloc (.cells #[.slice none 0 0, .int .i64 (-1)] 35)).heap.size) := HI0.out.g
  have HNt : Hid (FNw (w.heap.size + 2) ((w.alloc (.cells #[.slice none 0 0, .int .i64 0] 35)).alloc (.cells #[.slice none 0 0, .int .i64 (-1)] 35)) (.slice none 0 0) []) := fnw_nil _ _
  have HGt : Hid (g2F b = some (([] : List Fa).map Fa.p, -1)) := HG0.out
  have hzt := HGt2.out
  have HMt : Hid (-9223372036854775808 ≤ (-1) ∧ (-1) ≤ 9223372036854775807) := g2_m HGt.out
  have HOk : Hid (RcOk ((w.alloc (.cells #[.slice none 0 0, .int .i64 0] 35)).alloc (.cells #[.slice none 0 0, .int .i64 (-1)] 35)) ⟨.slice none 0 0, ([] : List Fa), (-1)⟩) := ⟨HNt.out ((w.alloc (.cells #[.slice none 0 0, .int .i64 0] 35)).alloc (.cells #[.slice none 0 0, .int .i64 (-1)] 35)) (fun _ _ _ => rfl), HMt.out.1, HMt.out.2⟩
  have HW : Hid (Calls Tryd.prog 8 #[.agg #[.slice none 0 0, .int .i64 (-1)]] ((w.alloc (.cells #[.slice none 0 0, .int .i64 0] 35)).alloc (.cells #[.slice none 0 0, .int .i64 (-1)] 35)) fun e w' => ∃ v, e = .returned (.tuple #[v, .int .i64 (wrE ⟨.slice none 0 0, ([] : List Fa), (-1)⟩)]) ∧ Own w' ((w.alloc (.cells #[.slice none 0 0, .int .i64 0] 35)).alloc (.cells #[.slice none 0 0, .int .i64 (-1)] 35)).heap.size v (wrB ⟨.slice none 0 0, ([] : List Fa), (-1)⟩) ∧ Below ((w.alloc (.cells #[.slice none 0 0, .int .i64 0] 35)).alloc (.cells #[.slice none 0 0, .int .i64 (-1)] 35)).heap.size ((w.alloc (.cells #[.slice none 0 0, .int .i64 0] 35)).alloc (.cells #[.slice none 0 0, .int .i64 (-1)] 35)) w') := wrefWrite_any ⟨.slice none 0 0, ([] : List Fa), (-1)⟩ ((w.alloc (.cells #[.slice none 0 0, .int .i64 0] 35)).alloc (.cells #[.slice none 0 0, .int .i64 (-1)] 35)) HOk.out
  have HP : Hid ((⟨.slice none 0 0, ([] : List Fa), (-1)⟩ : Rc).p = ([] : List Fa).map Fa.p) := rfl
  obtain ⟨E, HE⟩ := hid_ex (wrE ⟨.slice none 0 0, ([] : List Fa), (-1)⟩)
  obtain ⟨L, HL⟩ := hid_ex (wrB ⟨.slice none 0 0, ([] : List Fa), (-1)⟩)
  rw [← HE.out, ← HL.out] at HW
  refine HW.out.mono ?_
  rintro e w2 ⟨vw, rfl, how, hb2⟩
  have HK2 : Hid (w2.heap[w.heap.size]? = some (.cells #[.slice none 0 0, .int .i64 0] 35)) := (hb2.block w.heap.size (by omega)).trans HZt.out
  have HX2 : Hid (w2.heap[w.heap.size + 1]? = some (.cells #[.slice none 0 0, .int .i64 (-1)] 35)) := (hb2.block _ (by omega)).trans HRt.out
  have HB2 : Hid (Below w.heap.size w w2) := HBt.out.trans (hb2.mono (by omega))
  have HB12 : Hid (Below ((w.alloc (.cells #[.slice none 0 0, .int .i64 0] 35)).alloc (.cells #[.slice none 0 0, .int .i64 (-1)] 35)).heap.size ((w.alloc (.cells #[.slice none 0 0, .int .i64 0] 35)).alloc (.cells #[.slice none 0 0, .int .i64 (-1)] 35)) w2) := hb2
  have HOw : Hid (Reads w2 vw L) := how.reads
  obtain ⟨wa, wc, hwv, _⟩ := how.form
  subst hwv
  clear hb2 how HW
  have c0 := cl3 HK2.out 0 (by simp)
  have c1 := cl3 HK2.out 1 (by simp)
  have x0 := cl3 HX2.out 0 (by simp)
  have x1 := cl3 HX2.out 1 (by simp)
  have f0 := fz3 HK2.out 0
  have f1 := fz3 HK2.out 1
  simp only [List.getElem_toArray, List.getElem_cons_succ, List.getElem_cons_zero] at c0 c1 x0 x1
  by_cases hr : rightR (([] : List Fa).map Fa.p) (-1) = true
  · have hE : E = 0 := by rw [HE.out]; unfold wrE; rw [HP.out, if_pos hr]
    have HLr : Hid (L = wrR (([] : List Fa).map Fa.p) (-1)) := by unfold Hid; rw [HL.out]; unfold wrB; rw [HP.out, if_pos hr]
    have HRr : Hid (rightR (([] : List Fa).map Fa.p) (-1) = true) := hr
    have q1 := reads_text HOw.out
    have q2 := reads_text (HR.out.below HB2.out)
    subst hE
    clear hr HL HE
    by_cases hU : L = b
    · obtain ⟨r1, r2⟩ := rdx_yes (g2_good HGt.out HRr.out (HLr.out.symm.trans hU))
      have hbe : (L == b) = true := by simp [hU]
      have hbn : (L != b) = false := by simp [hU]
      have HYes : Hid (rdE b = 0 ∧ rdV b = (([] : List Fa).map Fa.p, (-1))) := ⟨r1, r2⟩
      clear hU r1 r2
      go_wp2_with fail
      have HK3 := set2b HK2.out rfl (.slice none 0 0) (.int .i64 (-1))
      refine bodyPost_ret (results_ct rfl _ _ w.heap.size _ rfl (run_loadVar_row _ w.heap.size _ _ _ (0, 0) _ HK3 Tryd.underlying35 rfl (by kernel_rfl))) rfl ?_
      have hok : ∀ B : World, (∀ k, w.heap.size ≤ k → k < ((w2.setCell ⟨w.heap.size, 0, none⟩ (.slice none 0 0)).setCell ⟨w.heap.size, 1, none⟩ (.int .i64 (-1))).heap.size → B.heap[k]? = ((w2.setCell ⟨w.heap.size, 0, none⟩ (.slice none 0 0)).setCell ⟨w.heap.size, 1, none⟩ (.int .i64 (-1))).heap[k]?) → RcOk B ⟨.slice none 0 0, ([] : List Fa), (-1)⟩ := by
        intro B hB
        refine ⟨HNt.out B fun k h1 h2 => ?_, HMt.out.1, HMt.out.2⟩
        rw [hB k (by omega) (by have := HB12.out.size; simp; omega), Go.heap_setCell_other _ _ _ _ (by show k ≠ w.heap.size; omega), Go.heap_setCell_other _ _ _ _ (by show k ≠ w.heap.size; omega), HB12.out.block k h2]
      exact ⟨(HB2.out.setCell (p := ⟨w.heap.size, 0, none⟩) (Nat.le_refl _) _).setCell (p := ⟨w.heap.size, 1, none⟩) (Nat.le_refl _) _, ⟨.slice none 0 0, ([] : List Fa), (-1)⟩, by rw [HYes.out.1]; rfl, hok _ (fun _ _ _ => rfl), hok, by rw [HYes.out.2]; exact HP.out, by rw [HYes.out.2]⟩
    · have HNo : Hid (rdR b = none) := g2_bad HGt.out (fun h => hU (HLr.out.trans h.2))
      have hbe : (L == b) = false := by simp [hU]
      have hbn : (L != b) = true := by simp [hU]
      clear hU
      go_wp2_with fail
      have HK3 := set2b HK2.out rfl (.slice none 0 0) (.int .i64 0)
      refine bodyPost_ret (results_ct rfl _ _ w.heap.size _ rfl (run_loadVar_row _ w.heap.size _ _ _ (0, 0) _ HK3 Tryd.underlying35 rfl (by kernel_rfl))) rfl ?_
      exact rdx_no HNo.out ((HB2.out.setCell (p := ⟨w.heap.size, 0, none⟩) (Nat.le_refl _) _).setCell (p := ⟨w.heap.size, 1, none⟩) (Nat.le_refl _) _)
  · have hE : E = 90 := by rw [HE.out]; unfold wrE; rw [HP.out, if_neg hr]
    have HNo : Hid (rdR b = none) := g2_bad HGt.out (fun h => hr h.1)
    subst hE
    clear hr
    go_wp2_with fail
    have HK3 := set2b HK2.out rfl (.slice none 0 0) (.int .i64 0)
    refine bodyPost_ret (results_ct rfl _ _ w.heap.size _ rfl (run_loadVar_row _ w.heap.size _ _ _ (0, 0) _ HK3 Tryd.underlying35 rfl (by kernel_rfl))) rfl ?_
    exact rdx_no HNo.out ((HB2.out.setCell (p := ⟨w.heap.size, 0, none⟩) (Nat.le_refl _) _).setCell (p := ⟨w.heap.size, 1, none⟩) (Nat.le_refl _) _)
set_option maxRecDepth 100000 in
set_option maxHeartbeats 4000000 in
theorem wrefRead_Cn {w : World} (b : List UInt8) (hbl : b.length ≤ 5000) (hlen : 1 < b.length) (bb off cap : Nat) (hbw : bb < w.heap.size) (c : UInt8) (hc : b[0]? = some c) (hcell : w.cell? ⟨bb, off, none⟩ = some (bc c)) (h1 : ¬ c = 1) (h9 : ¬ b.length = 9) (hR : Reads w (.slice (some ⟨bb, off, none⟩) b.length cap) b) : Calls Tryd.prog 12 #[.slice (some ⟨bb, off, none⟩) b.length cap] w (RdW w b) := by
  have HR : Hid (Reads w (.slice (some ⟨bb, off, none⟩) b.length cap) b) := hR
  have HI0 : Hid (IRd w (.slice none 0 0) [] ((w.alloc (.cells #[.slice none 0 0, .int .i64 0] 35)).alloc (.cells #[.slice none 0 0, .int .i64 (-1)] 35))) := ird0 w
  clear hR
  have hd9 : ¬ (b.length : Int) = 9 := by omega
  have hl1 : (1 : Int) < (b.length : Int) := by omega
  have c0 : ((w.alloc (.cells #[.slice none 0 0, .int .i64 0] 35)).alloc (.cells #[.slice none 0 0, .int .i64 (-1)] 35)).cell? ⟨bb, off, none⟩ = some (.int .u8 (c.toNat : Int)) := (HI0.out.b.cell (p := ⟨bb, off, none⟩) hbw).trans hcell
  have h1' : ¬ (c.toNat : Int) = 1 := fun e => h1 (UInt8.toNat_inj.1 (show c.toNat = 1 by omega))
  have HG0 : Hid (g2F b = some ([], -1)) := by
    unfold Hid g2F
    rw [if_neg (fun h => h9 h.1), if_neg (fun h => by have := h.2; rw [hc] at this; exact h1 (Option.some.inj this))]
  clear h1 hcell hc h9
  go_enter Tryd.func12, Tryd.ntmps12
  go_wp2_with fail
  have HRt : Hid (((w.alloc (.cells #[.slice none 0 0, .int .i64 0] 35)).alloc (.cells #[.slice none 0 0, .int .i64 (-1)] 35)).heap[w.heap.size + 1]? = some (.cells #[.slice none 0 0, .int .i64 (-1)] 35)) := HI0.out.r
  have HZt : Hid (((w.alloc (.cells #[.slice none 0 0, .int .i64 0] 35)).alloc (.cells #[.slice none 0 0, .int .i64 (-1)] 35)).heap[w.heap.size]? = some (.cells #[.slice none 0 0, .int .i64 0] 35)) := HI0.out.z
  have HBt : Hid (Below w.heap.size w ((w.alloc (.cells #[.slice none 0 0, .int .i64 0] 35)).alloc (.cells #[.slice none 0 0, .int .i64 (-1)] 35))) := HI0.out.b
  have HGt2 : Hid (w.heap.size + 2 ≤ ((w.alloc (.cells #[.slice none 0 0, .int .i64 0] 35)).alloc (.cells #[.slice none 0 0, .int .i64 (-1)] 35)).heap.size) := HI0.out.g
  have HNt : Hid (FNw (w.heap.size + 2) ((w.alloc (.cells #[.slice none 0 0, .int .i64 0] 35)).alloc (.cells #[.slice none 0 0, .int .i64 (-1)] 35)) (.slice none 0 0) []) := fnw_nil _ _
  have HGt : Hid (g2F b = some (([] : List Fa).map Fa.p, -1)) := HG0.out
  have hzt := HGt2.out
  have HMt : Hid (-9223372036854775808 ≤ (-1) ∧ (-1) ≤ 9223372036854775807) := g2_m HGt.out
  have HOk : Hid (RcOk ((w.alloc (.cells #[.slice none 0 0, .int .i64 0] 35)).alloc (.cells #[.slice none 0 0, .int .i64 (-1)] 35)) ⟨.slice none 0 0, ([] : List Fa), (-1)⟩) := ⟨HNt.out ((w.alloc (.cells #[.slice none 0 0, .int .i64 0] 35)).alloc (.cells #[.slice none 0 0, .int .i64 (-1)] 35)) (fun _ _ _ => rfl), HMt.out.1, HMt.out.2⟩
  have HW : Hid (Calls Tryd.prog 8 #[.agg #[.slice none 0 0, .int .i64 (-1)]] ((w.alloc (.cells #[.slice none 0 0, .int .i64 0] 35)).alloc (.cells #[.slice none 0 0, .int .i64 (-1)] 35)) fun e w' => ∃ v, e = .returned (.tuple #[v, .int .i64 (wrE ⟨.slice none 0 0, ([] : List Fa), (-1)⟩)]) ∧ Own w' ((w.alloc (.cells #[.slice none 0 0, .int .i64 0] 35)).alloc (.cells #[.slice none 0 0, .int .i64 (-1)] 35)).heap.size v (wrB ⟨.slice none 0 0, ([] : List Fa), (-1)⟩) ∧ Below ((w.alloc (.cells #[.slice none 0 0, .int .i64 0] 35)).alloc (.cells #[.slice none 0 0, .int .i64 (-1)] 35)).heap.size ((w.alloc (.cells #[.slice none 0 0, .int .i64 0] 35)).alloc (.cells #[.slice none 0 0, .int .i64 (-1)] 35)) w') := wrefWrite_any ⟨.slice none 0 0, ([] : List Fa), (-1)⟩ ((w.alloc (.cells #[.slice none 0 0, .int .i64 0] 35)).alloc (.cells #[.slice none 0 0, .int .i64 (-1)] 35)) HOk.out
  have HP : Hid ((⟨.slice none 0 0, ([] : List Fa), (-1)⟩ : Rc).p = ([] : List Fa).map Fa.p) := rfl
  obtain ⟨E, HE⟩ := hid_ex (wrE ⟨.slice none 0 0, ([] : List Fa), (-1)⟩)
  obtain ⟨L, HL⟩ := hid_ex (wrB ⟨.slice none 0 0, ([] : List Fa), (-1)⟩)
  rw [← HE.out, ← HL.out] at HW
  refine HW.out.mono ?_
  rintro e w2 ⟨vw, rfl, how, hb2⟩
  have HK2 : Hid (w2.heap[w.heap.size]? = some (.cells #[.slice none 0 0, .int .i64 0] 35)) := (hb2.block w.heap.size (by omega)).trans HZt.out
  have HX2 : Hid (w2.heap[w.heap.size + 1]? = some (.cells #[.slice none 0 0, .int .i64 (-1)] 35)) := (hb2.block _ (by omega)).trans HRt.out
  have HB2 : Hid (Below w.heap.size w w2) := HBt.out.trans (hb2.mono (by omega))
  have HB12 : Hid (Below ((w.alloc (.cells #[.slice none 0 0, .int .i64 0] 35)).alloc (.cells #[.slice none 0 0, .int .i64 (-1)] 35)).heap.size ((w.alloc (.cells #[.slice none 0 0, .int .i64 0] 35)).alloc (.cells #[.slice none 0 0, .int .i64 (-1)] 35)) w2) := hb2
  have HOw : Hid (Reads w2 vw L) := how.reads
  obtain ⟨wa, wc, hwv, _⟩ := how.form
  subst hwv
  clear hb2 how HW
  have c0 := cl3 HK2.out 0 (by simp)
  have c1 := cl3 HK2.out 1 (by simp)
  have x0 := cl3 HX2.out 0 (by simp)
  have x1 := cl3 HX2.out 1 (by simp)
  have f0 := fz3 HK2.out 0
  have f1 := fz3 HK2.out 1
  simp only [List.getElem_toArray, List.getElem_cons_succ, List.getElem_cons_zero] at c0 c1 x0 x1
  by_cases hr : rightR (([] : List Fa).map Fa.p) (-1) = true
  · have hE : E = 0 := by rw [HE.out]; unfold wrE; rw [HP.out, if_pos hr]
    have HLr : Hid (L = wrR (([] : List Fa).map Fa.p) (-1)) := by unfold Hid; rw [HL.out]; unfold wrB; rw [HP.out, if_pos hr]
    have HRr : Hid (rightR (([] : List Fa).map Fa.p) (-1) = true) := hr
    have q1 := reads_text HOw.out
    have q2 := reads_text (HR.out.below HB2.out)
    subst hE
    clear hr HL HE
    by_cases hU : L = b
    · obtain ⟨r1, r2⟩ := rdx_yes (g2_good HGt.out HRr.out (HLr.out.symm.trans hU))
      have hbe : (L == b) = true := by simp [hU]
      have hbn : (L != b) = false := by simp [hU]
      have HYes : Hid (rdE b = 0 ∧ rdV b = (([] : List Fa).map Fa.p, (-1))) := ⟨r1, r2⟩
      clear hU r1 r2
      go_wp2_with fail
      have HK3 := set2b HK2.out rfl (.slice none 0 0) (.int .i64 (-1))
      refine bodyPost_ret (results_ct rfl _ _ w.heap.size _ rfl (run_loadVar_row _ w.heap.size _ _ _ (0, 0) _ HK3 Tryd.underlying35 rfl (by kernel_rfl))) rfl ?_
      have hok : ∀ B : World, (∀ k, w.heap.size ≤ k → k < ((w2.setCell ⟨w.heap.size, 0, none⟩ (.slice none 0 0)).setCell ⟨w.heap.size, 1, none⟩ (.int .i64 (-1))).heap.size → B.heap[k]? = ((w2.setCell ⟨w.heap.size, 0, none⟩ (.slice none 0 0)).setCell ⟨w.heap.size, 1, none⟩ (.int .i64 (-1))).heap[k]?) → RcOk B ⟨.slice none 0 0, ([] : List Fa), (-1)⟩ := by
        intro B hB
        refine ⟨HNt.out B fun k h1 h2 => ?_, HMt.out.1, HMt.out.2⟩
        rw [hB k (by omega) (by have := HB12.out.size; simp; omega), Go.heap_setCell_other _ _ _ _ (by show k ≠ w.heap.size; omega), Go.heap_setCell_other _ _ _ _ (by show k ≠ w.heap.size; omega), HB12.out.block k h2]
      exact ⟨(HB2.out.setCell (p := ⟨w.heap.size, 0, none⟩) (Nat.le_refl _) _).setCell (p := ⟨w.heap.size, 1, none⟩) (Nat.le_refl _) _, ⟨.slice none 0 0, ([] : List Fa), (-1)⟩, by rw [HYes.out.1]; rfl, hok _ (fun _ _ _ => rfl), hok, by rw [HYes.out.2]; exact HP.out, by rw [HYes.out.2]⟩
    · have HNo : Hid (rdR b = none) := g2_bad HGt.out (fun h => hU (HLr.out.trans h.2))
      have hbe : (L == b) = false := by simp [hU]
      have hbn : (L != b) = true := by simp [hU]
      clear hU
      go_wp2_with fail
      have HK3 := set2b HK2.out rfl (.slice none 0 0) (.int .i64 0)
      refine bodyPost_ret (results_ct rfl _ _ w.heap.size _ rfl (run_loadVar_row _ w.heap.size _ _ _ (0, 0) _ HK3 Tryd.underlying35 rfl (by kernel_rfl))) rfl ?_
      exact rdx_no HNo.out ((HB2.out.setCell (p := ⟨w.heap.size, 0, none⟩) (Nat.le_refl _) _).setCell (p := ⟨w.heap.size, 1, none⟩) (Nat.le_refl _) _)
  · have hE : E = 90 := by rw [HE.out]; unfold wrE; rw [HP.out, if_neg hr]
    have HNo : Hid (rdR b = none) := g2_bad HGt.out (fun h => hr h.1)
    subst hE
    clear hr
    go_wp2_with fail
    have HK3 := set2b HK2.out rfl (.slice none 0 0) (.int .i64 0)
    refine bodyPost_ret (results_ct rfl _ _ w.heap.size _ rfl (run_loadVar_row _ w.heap.size _ _ _ (0, 0) _ HK3 Tryd.underlying35 rfl (by kernel_rfl))) rfl ?_
    exact rdx_no HNo.out ((HB2.out.setCell (p := ⟨w.heap.size, 0, none⟩) (Nat.le_refl _) _).setCell (p := ⟨w.heap.size, 1, none⟩) (Nat.le_refl _) _)
set_option maxRecDepth 100000 in
set_option maxHeartbeats 4000000 in
theorem wrefRead_A {w : World} (b : List UInt8) (hbl : b.length ≤ 5000) (hlen : 1 < b.length) (bb off cap : Nat) (hbw : bb < w.heap.size) (c : UInt8) (hc : b[0]? = some c) (hcell : w.cell? ⟨bb, off, none⟩ = some (bc c)) (h2 : c = 2) (h9 : b.length = 9) (hR : Reads w (.slice (some ⟨bb, off, none⟩) b.length cap) b) : Calls Tryd.prog 12 #[.slice (some ⟨bb, off, none⟩) b.length cap] w (RdW w b) := by
  have HR : Hid (Reads w (.slice (some ⟨bb, off, none⟩) b.length cap) b) := hR
  have HI0 : Hid (IRd w (.slice none 0 0) [] ((w.alloc (.cells #[.slice none 0 0, .int .i64 0] 35)).alloc (.cells #[.slice none 0 0, .int .i64 (-1)] 35))) := ird0 w
  clear hR
  have hd9 : ((b.length : Int) == 9) = true := by simp; omega
  have hl1 : (1 : Int) < (b.length : Int) := by omega
  have c0 : ((w.alloc (.cells #[.slice none 0 0, .int .i64 0] 35)).alloc (.cells #[.slice none 0 0, .int .i64 (-1)] 35)).cell? ⟨bb, off, none⟩ = some (.int .u8 (c.toNat : Int)) := (HI0.out.b.cell (p := ⟨bb, off, none⟩) hbw).trans hcell
  subst h2
  have c0 : ((w.alloc (.cells #[.slice none 0 0, .int .i64 0] 35)).alloc (.cells #[.slice none 0 0, .int .i64 (-1)] 35)).cell? ⟨bb, off, none⟩ = some (.int .u8 2) := c0
  have HG0 : Hid (g2F b = some ([], (rnF (b.drop 1)).1)) := by
    unfold Hid g2F
    rw [if_pos ⟨h9, hc⟩]
  obtain ⟨a1, c1, hsl1, hrd1⟩ := sl_from HR.out (c := 1) (by omega)
  have hsl2 : ∀ w', (Instr.slice 28 (.slice (some ⟨bb, off, none⟩) b.length cap) (some (.int .i64 1)) none none).run Tryd.prog w' = .ok (.slice a1 (b.length - 1) c1) w' := hsl1
  have HN : Hid (Calls Tryd.prog 33 #[.slice a1 (b.length - 1) c1] ((w.alloc (.cells #[.slice none 0 0, .int .i64 0] 35)).alloc (.cells #[.slice none 0 0, .int .i64 (-1)] 35)) fun e w' => e = .returned (.tuple #[.int .i64 (rnF (b.drop 1)).1, .int .i64 (rnF (b.drop 1)).2.1, .int .i64 (rnF (b.drop 1)).2.2]) ∧ Below ((w.alloc (.cells #[.slice none 0 0, .int .i64 0] 35)).alloc (.cells #[.slice none 0 0, .int .i64 (-1)] 35)).heap.size ((w.alloc (.cells #[.slice none 0 0, .int .i64 0] 35)).alloc (.cells #[.slice none 0 0, .int .i64 (-1)] 35)) w') := refReadNumber_any _ (b.drop 1) _ (hrd1.below HI0.out.b)
  obtain ⟨m, HM⟩ := hid_ex (rnF (b.drop 1)).1
  obtain ⟨u1, HU1⟩ := hid_ex (rnF (b.drop 1)).2.1
  obtain ⟨u2, HU2⟩ := hid_ex (rnF (b.drop 1)).2.2
  rw [← HM.out] at HG0
  rw [← HM.out, ← HU1.out, ← HU2.out] at HN
  clear h9 hsl1 hrd1
  go_enter Tryd.func12, Tryd.ntmps12
  go_wp2_with fail
  refine HN.out.mono ?_
  rintro e w1 ⟨rfl, hb1⟩
  have HI1 : Hid (IRd w (.slice none 0 0) [] w1) := HI0.out.below hb1
  have HRt : Hid ((w1.setCell ⟨w.heap.size + 1, 1, none⟩ (.int .i64 m)).heap[w.heap.size + 1]? = some (.cells #[.slice none 0 0, .int .i64 m] 35)) := set2r HI1.out.r _
  have HZt : Hid ((w1.setCell ⟨w.heap.size + 1, 1, none⟩ (.int .i64 m)).heap[w.heap.size]? = some (.cells #[.slice none 0 0, .int .i64 0] 35)) := set_ne HI1.out.z (by omega)
  have HBt : Hid (Below w.heap.size w (w1.setCell ⟨w.heap.size + 1, 1, none⟩ (.int .i64 m))) := HI1.out.b.setCell (p := ⟨w.heap.size + 1, 1, none⟩) (by show w.heap.size ≤ w.heap.size + 1; omega) _
  have HGt2 : Hid (w.heap.size + 2 ≤ (w1.setCell ⟨w.heap.size + 1, 1, none⟩ (.int .i64 m)).heap.size) := by have := HI1.out.g; unfold Hid; simpa using this
  have HNt : Hid (FNw (w.heap.size + 2) (w1.setCell ⟨w.heap.size + 1, 1, none⟩ (.int .i64 m)) (.slice none 0 0) []) := fnw_nil _ _
  have HGt : Hid (g2F b = some (([] : List Fa).map Fa.p, m)) := HG0.out
  have f9 := fz3 HI1.out.r 1
  have k9 := cl3 HI1.out.r 1 (by simp)
  have k8 := cl3 HRt.out 0 (by simp)
  have k7 := cl3 HRt.out 1 (by simp)
  have k6 : (w1.setCell ⟨w.heap.size + 1, 1, none⟩ (.int .i64 m)).cell? ⟨bb, off, none⟩ = some (.int .u8 2) := (HBt.out.cell (p := ⟨bb, off, none⟩) hbw).trans hcell
  simp only [List.getElem_toArray, List.getElem_cons_succ, List.getElem_cons_zero] at k9 k8 k7
  clear hb1 HN c0 hsl2
  go_wp2_with fail
  clear f9 k9 k8 k7 k6
  generalize w1.setCell ⟨w.heap.size + 1, 1, none⟩ (.int .i64 m) = wt at *
  have hzt := HGt2.out
  have HMt : Hid (-9223372036854775808 ≤ m ∧ m ≤ 9223372036854775807) := g2_m HGt.out
  have HOk : Hid (RcOk wt ⟨.slice none 0 0, ([] : List Fa), m⟩) := ⟨HNt.out wt (fun _ _ _ => rfl), HMt.out.1, HMt.out.2⟩
  have HW : Hid (Calls Tryd.prog 8 #[.agg #[.slice none 0 0, .int .i64 m]] wt fun e w' => ∃ v, e = .returned (.tuple #[v, .int .i64 (wrE ⟨.slice none 0 0, ([] : List Fa), m⟩)]) ∧ Own w' wt.heap.size v (wrB ⟨.slice none 0 0, ([] : List Fa), m⟩) ∧ Below wt.heap.size wt w') := wrefWrite_any ⟨.slice none 0 0, ([] : List Fa), m⟩ wt HOk.out
  have HP : Hid ((⟨.slice none 0 0, ([] : List Fa), m⟩ : Rc).p = ([] : List Fa).map Fa.p) := rfl
  obtain ⟨E, HE⟩ := hid_ex (wrE ⟨.slice none 0 0, ([] : List Fa), m⟩)
  obtain ⟨L, HL⟩ := hid_ex (wrB ⟨.slice none 0 0, ([] : List Fa), m⟩)
  rw [← HE.out, ← HL.out] at HW
  refine HW.out.mono ?_
  rintro e w2 ⟨vw, rfl, how, hb2⟩
  have HK2 : Hid (w2.heap[w.heap.size]? = some (.cells #[.slice none 0 0, .int .i64 0] 35)) := (hb2.block w.heap.size (by omega)).trans HZt.out
  have HX2 : Hid (w2.heap[w.heap.size + 1]? = some (.cells #[.slice none 0 0, .int .i64 m] 35)) := (hb2.block _ (by omega)).trans HRt.out
  have HB2 : Hid (Below w.heap.size w w2) := HBt.out.trans (hb2.mono (by omega))
  have HB12 : Hid (Below wt.heap.size wt w2) := hb2
  have HOw : Hid (Reads w2 vw L) := how.reads
  obtain ⟨wa, wc, hwv, _⟩ := how.form
  subst hwv
  clear hb2 how HW
  have c0 := cl3 HK2.out 0 (by simp)
  have c1 := cl3 HK2.out 1 (by simp)
  have x0 := cl3 HX2.out 0 (by simp)
  have x1 := cl3 HX2.out 1 (by simp)
  have f0 := fz3 HK2.out 0
  have f1 := fz3 HK2.out 1
  simp only [List.getElem_toArray, List.getElem_cons_succ, List.getElem_cons_zero] at c0 c1 x0 x1
  by_cases hr : rightR (([] : List Fa).map Fa.p) m = true
  · have hE : E = 0 := by rw [HE.out]; unfold wrE; rw [HP.out, if_pos hr]
    have HLr : Hid (L = wrR (([] : List Fa).map Fa.p) m) := by unfold Hid; rw [HL.out]; unfold wrB; rw [HP.out, if_pos hr]
    have HRr : Hid (rightR (([] : List Fa).map Fa.p) m = true) := hr
    have q1 := reads_text HOw.out
    have q2 := reads_text (HR.out.below HB2.out)
    subst hE
    clear hr HL HE
    by_cases hU : L = b
    · obtain ⟨r1, r2⟩ := rdx_yes (g2_good HGt.out HRr.out (HLr.out.symm.trans hU))
      have hbe : (L == b) = true := by simp [hU]
      have hbn : (L != b) = false := by simp [hU]
      have HYes : Hid (rdE b = 0 ∧ rdV b = (([] : List Fa).map Fa.p, m)) := ⟨r1, r2⟩
      clear hU r1 r2
      go_wp2_with fail
      have HK3 := set2b HK2.out rfl (.slice none 0 0) (.int .i64 m)
      refine bodyPost_ret (results_ct rfl _ _ w.heap.size _ rfl (run_loadVar_row _ w.heap.size _ _ _ (0, 0) _ HK3 Tryd.underlying35 rfl (by kernel_rfl))) rfl ?_
      have hok : ∀ B : World, (∀ k, w.heap.size ≤ k → k < ((w2.setCell ⟨w.heap.size, 0, none⟩ (.slice none 0 0)).setCell ⟨w.heap.size, 1, none⟩ (.int .i64 m)).heap.size → B.heap[k]? = ((w2.setCell ⟨w.heap.size, 0, none⟩ (.slice none 0 0)).setCell ⟨w.heap.size, 1, none⟩ (.int .i64 m)).heap[k]?) → RcOk B ⟨.slice none 0 0, ([] : List Fa), m⟩ := by
        intro B hB
        refine ⟨HNt.out B fun k h1 h2 => ?_, HMt.out.1, HMt.out.2⟩
        rw [hB k (by omega) (by have := HB12.out.size; simp; omega), Go.heap_setCell_other _ _ _ _ (by show k ≠ w.heap.size; omega), Go.heap_setCell_other _ _ _ _ (by show k ≠ w.heap.size; omega), HB12.out.block k h2]
      exact ⟨(HB2.out.setCell (p := ⟨w.heap.size, 0, none⟩) (Nat.le_refl _) _).setCell (p := ⟨w.heap.size, 1, none⟩) (Nat.le_refl _) _, ⟨.slice none 0 0, ([] : List Fa), m⟩, by rw [HYes.out.1]; rfl, hok _ (fun _ _ _ => rfl), hok, by rw [HYes.out.2]; exact HP.out, by rw [HYes.out.2]⟩
    · have HNo : Hid (rdR b = none) := g2_bad HGt.out (fun h => hU (HLr.out.trans h.2))
      have hbe : (L == b) = false := by simp [hU]
      have hbn : (L != b) = true := by simp [hU]
      clear hU
      go_wp2_with fail
      have HK3 := set2b HK2.out rfl (.slice none 0 0) (.int .i64 0)
      refine bodyPost_ret (results_ct rfl _ _ w.heap.size _ rfl (run_loadVar_row _ w.heap.size _ _ _ (0, 0) _ HK3 Tryd.underlying35 rfl (by kernel_rfl))) rfl ?_
      exact rdx_no HNo.out ((HB2.out.setCell (p := ⟨w.heap.size, 0, none⟩) (Nat.le_refl _) _).setCell (p := ⟨w.heap.size, 1, none⟩) (Nat.le_refl _) _)
  · have hE : E = 90 := by rw [HE.out]; unfold wrE; rw [HP.out, if_neg hr]
    have HNo : Hid (rdR b = none) := g2_bad HGt.out (fun h => hr h.1)
    subst hE
    clear hr
    go_wp2_with fail
    have HK3 := set2b HK2.out rfl (.slice none 0 0) (.int .i64 0)
    refine bodyPost_ret (results_ct rfl _ _ w.heap.size _ rfl (run_loadVar_row _ w.heap.size _ _ _ (0, 0) _ HK3 Tryd.underlying35 rfl (by kernel_rfl))) rfl ?_
    exact rdx_no HNo.out ((HB2.out.setCell (p := ⟨w.heap.size, 0, none⟩) (Nat.le_refl _) _).setCell (p := ⟨w.heap.size, 1, none⟩) (Nat.le_refl _) _)
end Go.Proofs.YtahigmjpeicemaaDoor
