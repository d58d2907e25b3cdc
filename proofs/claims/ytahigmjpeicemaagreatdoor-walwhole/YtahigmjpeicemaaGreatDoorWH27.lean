/- WR7, joined. -/
import Derived.Test.YtahigmjpeicemaaGreatDoorWH26
/- The reference's Read: a theorem a case (written by mkwr7.py). -/
namespace Go.Proofs.YtahigmjpeicemaaGreatDoor
open Go.RowKit Go.Shelf

structure IRd (w : World) (fv : Value) (pre : List Fa) (W : World) : Prop where
  r : W.heap[w.heap.size + 1]? = some (.cells #[fv, .int .i64 (-1)] 46)
  o : W.ownsRow (w.heap.size + 2) 90 3 fv pre.length (pre.flatMap c3)
  z : W.heap[w.heap.size]? = some (.cells #[.slice none 0 0, .int .i64 0] 46)
  s : ∀ x ∈ pre, SOwn W (w.heap.size + 2) x.v x.D ∧ FaB x
  b : Below w.heap.size w W
  g : w.heap.size + 2 ≤ W.heap.size
theorem IRd.below {w W W' : World} {fv : Value} {pre : List Fa} (h : IRd w fv pre W) (hb : Below W.heap.size W W') : IRd w fv pre W' :=
  ⟨(hb.block _ (Array.getElem?_eq_some_iff.1 h.r).1).trans h.r, row_new h.o (fun k _ hk => hb.block k hk), (hb.block _ (Array.getElem?_eq_some_iff.1 h.z).1).trans h.z, fun x hx => ⟨(h.s x hx).1.below hb, (h.s x hx).2⟩, h.b.trans (hb.mono h.b.size), Nat.le_trans h.g hb.size⟩
theorem IRd.r4 {w W w4 : World} {fv : Value} {pre : List Fa} {tmp : Obj} (h : IRd w fv pre W) (hg : (W.alloc tmp).grownBy w4 fv.ownBlock) : w4.heap[w.heap.size + 1]? = some (.cells #[fv, .int .i64 (-1)] 46) :=
  (hg.block _ (by have := (Array.getElem?_eq_some_iff.1 h.r).1; simp; omega) (row_ne h.o h.r (by decide))).trans ((Below.heap_alloc _ _ _ (Array.getElem?_eq_some_iff.1 h.r).1).trans h.r)
theorem IRd.step {w W w4 : World} {fv vq : Value} {pre : List Fa} {x : Fa} {tmp : Obj} (h : IRd w fv pre W) (hso : SOwn W (w.heap.size + 2) x.v x.D) (hfb : FaB x)
    (hown : w4.ownsRow (w.heap.size + 2) 90 3 vq (pre.length + 1) (pre.flatMap c3 ++ c3 x)) (hg : (W.alloc tmp).grownBy w4 fv.ownBlock) : IRd w vq (pre ++ [x]) (w4.setCell ⟨w.heap.size + 1, 0, none⟩ vq) := by
  have hR4 := h.r4 hg
  have hgz := h.g
  have hbase : ∀ k, fv.ownBlock = some k → w.heap.size ≤ k := fun k hk => Nat.le_trans (by omega) (own_block h.o k hk)
  have bel4 : Below w.heap.size w w4 := (h.b.alloc (by omega) tmp).grown hg (by simp; omega) hbase
  have keep : ∀ k, k < W.heap.size → k ≠ w.heap.size + 1 → some k ≠ fv.ownBlock → (w4.setCell ⟨w.heap.size + 1, 0, none⟩ vq).heap[k]? = W.heap[k]? := fun k h1 h2 h3 =>
    (Go.heap_setCell_other _ _ _ _ h2).trans ((hg.block k (by simp; omega) h3).trans (Below.heap_alloc _ _ _ h1))
  have toS : ∀ {v : Value} {L : List ByteArray}, SOwn W (w.heap.size + 2) v L → SOwn (w4.setCell ⟨w.heap.size + 1, 0, none⟩ vq) (w.heap.size + 2) v L := fun hh => sown_to hh fun g cur hgc =>
    keep g (Array.getElem?_eq_some_iff.1 hgc).1 (fun e => by rw [e, h.r] at hgc; simp at hgc) (row_ne h.o hgc (by decide))
  refine ⟨?_, ?_, ?_, ?_, bel4.setCell (p := ⟨w.heap.size + 1, 0, none⟩) (Nat.le_succ _) vq, ?_⟩
  · rw [cells_set hR4 0 vq]; rfl
  · rw [List.length_append, List.flatMap_append]
    have hk := World.ownsRow.kept hown (grownBy_setCell' w4 (w.heap.size + 1) vq) (.inr ?_)
    · simpa using hk
    · intro e
      have := row_ne hown hR4 (by decide)
      exact this (by first | exact e | exact e.symm)
  · exact (keep _ (Array.getElem?_eq_some_iff.1 h.z).1 (by omega) (row_ne h.o h.z (by decide))).trans h.z
  · intro y hy
    rcases List.mem_append.1 hy with hy | hy
    · exact ⟨toS (h.s y hy).1, (h.s y hy).2⟩
    · simp at hy
      subst hy
      exact ⟨toS hso, hfb⟩
  · have h5 : (w4.setCell ⟨w.heap.size + 1, 0, none⟩ vq).heap.size = w4.heap.size := by simp
    have h6 := (Array.getElem?_eq_some_iff.1 hR4).1
    rw [h5]; omega
/-- What is read of the row hangs on what came behind the boxes alone. -/
def FNw (n : Nat) (W : World) (fv : Value) (fs : List Fa) : Prop := ∀ B : World, (∀ k, n ≤ k → k < W.heap.size → B.heap[k]? = W.heap[k]?) → FReads B fv fs
theorem IRd.fn {w W : World} {fv : Value} {pre : List Fa} (h : IRd w fv pre W) : FNw (w.heap.size + 2) W fv pre := fun _ hB =>
  igu_reads (row_new h.o hB) fun x hx => ⟨SOwn.reads ⟨row_new (h.s x hx).1.1 hB, (h.s x hx).1.2⟩, (h.s x hx).2⟩
theorem fnw_nil (n : Nat) (W : World) : FNw n W (.slice none 0 0) [] := fun _ _ => freads_nil _
theorem set2r {w : World} {g : Nat} {x y : Value} {T : TypeId} (h : w.heap[g]? = some (.cells #[x, y] T)) (a : Value) : (w.setCell ⟨g, 1, none⟩ a).heap[g]? = some (.cells #[x, a] T) := by
  rw [cells_set h 1 a]; rfl
def ZR : Obj := .cells #[.slice none 0 0, .int .i64 0] 46
def RR0 : Obj := .cells #[.slice none 0 0, .int .i64 (-1)] 46
theorem ird0 (w : World) : IRd w (.slice none 0 0) [] ((w.alloc (.cells #[.slice none 0 0, .int .i64 0] 46)).alloc (.cells #[.slice none 0 0, .int .i64 (-1)] 46)) := by
  refine ⟨?_, ⟨rfl, .inl ⟨rfl, rfl⟩⟩, ?_, by simp, ((Below.refl _ _).alloc (Nat.le_refl _) _).alloc (by simp) _, by simp⟩
  · have := World.alloc_heap_new (w.alloc (.cells #[.slice none 0 0, .int .i64 0] 46)) (.cells #[.slice none 0 0, .int .i64 (-1)] 46)
    simpa using this
  · exact (Below.heap_alloc _ _ _ (by simp)).trans (World.alloc_heap_new _ _)
set_option maxRecDepth 100000 in
set_option maxHeartbeats 4000000 in
theorem wrefRead_C1 (b : List UInt8) (hbl : b.length ≤ 1) (a : Option Addr) (cap : Nat) (w : World) (hR : Reads w (.slice a b.length cap) b) : Calls Tryz.prog 54 #[.slice a b.length cap] w (RdW w b) := by
  have HR : Hid (Reads w (.slice a b.length cap) b) := hR
  have HI0 : Hid (IRd w (.slice none 0 0) [] ((w.alloc (.cells #[.slice none 0 0, .int .i64 0] 46)).alloc (.cells #[.slice none 0 0, .int .i64 (-1)] 46))) := ird0 w
  clear hR
  have h9 : ¬ (b.length : Int) = 9 := by omega
  have h1 : ¬ (1 : Int) < (b.length : Int) := by omega
  have HG0 : Hid (g2F b = some ([], -1)) := by
    unfold Hid g2F
    rw [if_neg (fun h => by have := h.1; omega), if_neg (fun h => by have := h.1; omega)]
  go_enter Tryz.func54, Tryz.ntmps54
  go_wp2_with fail
  have HRt : Hid (((w.alloc (.cells #[.slice none 0 0, .int .i64 0] 46)).alloc (.cells #[.slice none 0 0, .int .i64 (-1)] 46)).heap[w.heap.size + 1]? = some (.cells #[.slice none 0 0, .int .i64 (-1)] 46)) := HI0.out.r
  have HZt : Hid (((w.alloc (.cells #[.slice none 0 0, .int .i64 0] 46)).alloc (.cells #[.slice none 0 0, .int .i64 (-1)] 46)).heap[w.heap.size]? = some (.cells #[.slice none 0 0, .int .i64 0] 46)) := HI0.out.z
  have HBt : Hid (Below w.heap.size w ((w.alloc (.cells #[.slice none 0 0, .int .i64 0] 46)).alloc (.cells #[.slice none 0 0, .int .i64 (-1)] 46))) := HI0.out.b
  have HGt2 : Hid (w.heap.size + 2 ≤ ((w.alloc (.cells #[.slice none 0 0, .int .i64 0] 46)).alloc (.cells #[.slice none 0 0, .int .i64 (-1)] 46)).heap.size) := HI0.out.g
  have HNt : Hid (FNw (w.heap.size + 2) ((w.alloc (.cells #[.slice none 0 0, .int .i64 0] 46)).alloc (.cells #[.slice none 0 0, .int .i64 (-1)] 46)) (.slice none 0 0) []) := fnw_nil _ _
  have HGt : Hid (g2F b = some (([] : List Fa).map Fa.p, -1)) := HG0.out
  have hzt := HGt2.out
  have HMt : Hid (-9223372036854775808 ≤ (-1) ∧ (-1) ≤ 9223372036854775807) := g2_m HGt.out
  have HOk : Hid (RcOk ((w.alloc (.cells #[.slice none 0 0, .int .i64 0] 46)).alloc (.cells #[.slice none 0 0, .int .i64 (-1)] 46)) ⟨.slice none 0 0, ([] : List Fa), (-1)⟩) := ⟨HNt.out ((w.alloc (.cells #[.slice none 0 0, .int .i64 0] 46)).alloc (.cells #[.slice none 0 0, .int .i64 (-1)] 46)) (fun _ _ _ => rfl), HMt.out.1, HMt.out.2⟩
  have HW : Hid (Calls Tryz.prog 17 #[.agg #[.slice none 0 0, .int .i64 (-1)]] ((w.alloc (.cells #[.slice none 0 0, .int .i64 0] 46)).alloc (.cells #[.slice none 0 0, .int .i64 (-1)] 46)) fun e w' => ∃ v, e = .returned (.tuple #[v, .int .i64 (wrE ⟨.slice none 0 0, ([] : List Fa), (-1)⟩)]) ∧ Own w' ((w.alloc (.cells #[.slice none 0 0, .int .i64 0] 46)).alloc (.cells #[.slice none 0 0, .int .i64 (-1)] 46)).heap.size v (wrB ⟨.slice none 0 0, ([] : List Fa), (-1)⟩) ∧ Below ((w.alloc (.cells #[.slice none 0 0, .int .i64 0] 46)).alloc (.cells #[.slice none 0 0, .int .i64 (-1)] 46)).heap.size ((w.alloc (.cells #[.slice none 0 0, .int .i64 0] 46)).alloc (.cells #[.slice none 0 0, .int .i64 (-1)] 46)) w') := wrefWrite_any ⟨.slice none 0 0, ([] : List Fa), (-1)⟩ ((w.alloc (.cells #[.slice none 0 0, .int .i64 0] 46)).alloc (.cells #[.slice none 0 0, .int .i64 (-1)] 46)) HOk.out
  have HP : Hid ((⟨.slice none 0 0, ([] : List Fa), (-1)⟩ : Rc).p = ([] : List Fa).map Fa.p) := rfl
  obtain ⟨E, HE⟩ := hid_ex (wrE ⟨.slice none 0 0, ([] : List Fa), (-1)⟩)
  obtain ⟨L, HL⟩ := hid_ex (wrB ⟨.slice none 0 0, ([] : List Fa), (-1)⟩)
  rw [← HE.out, ← HL.out] at HW
  refine HW.out.mono ?_
  rintro e w2 ⟨vw, rfl, how, hb2⟩
  have HK2 : Hid (w2.heap[w.heap.size]? = some (.cells #[.slice none 0 0, .int .i64 0] 46)) := (hb2.block w.heap.size (by omega)).trans HZt.out
  have HX2 : Hid (w2.heap[w.heap.size + 1]? = some (.cells #[.slice none 0 0, .int .i64 (-1)] 46)) := (hb2.block _ (by omega)).trans HRt.out
  have HB2 : Hid (Below w.heap.size w w2) := HBt.out.trans (hb2.mono (by omega))
  have HB12 : Hid (Below ((w.alloc (.cells #[.slice none 0 0, .int .i64 0] 46)).alloc (.cells #[.slice none 0 0, .int .i64 (-1)] 46)).heap.size ((w.alloc (.cells #[.slice none 0 0, .int .i64 0] 46)).alloc (.cells #[.slice none 0 0, .int .i64 (-1)] 46)) w2) := hb2
  have HOw : Hid (Reads w2 vw L) := how.reads
  obtain ⟨wa, wc, hwv, _⟩ := how.form
  subst hwv
  clear hb2 how HW
  have c0 := cl3 HK2.out 0 (by simp)
  have c1 := cl3 HK2.out 1 (by simp)
  have x0 := cl3 HX2.out 0 (by simp)
  have x1 := cl3 HX2.out 1 (by simp)
  have f0 := fz3 HK2.out 0
  have f1 := fz3 HK2.out 1
  simp only [List.getElem_toArray, List.getElem_cons_succ, List.getElem_cons_zero] at c0 c1 x0 x1
  by_cases hr : rightR (([] : List Fa).map Fa.p) (-1) = true
  · have hE : E = 0 := by rw [HE.out]; unfold wrE; rw [HP.out, if_pos hr]
    have HLr : Hid (L = wrR (([] : List Fa).map Fa.p) (-1)) := by unfold Hid; rw [HL.out]; unfold wrB; rw [HP.out, if_pos hr]
    have HRr : Hid (rightR (([] : List Fa).map Fa.p) (-1) = true) := hr
    have q1 := reads_text HOw.out
    have q2 := reads_text (HR.out.below HB2.out)
    subst hE
    clear hr HL HE
    by_cases hU : L = b
    · obtain ⟨r1, r2⟩ := rdx_yes (g2_good HGt.out HRr.out (HLr.out.symm.trans hU))
      have hbe : (L == b) = true := by simp [hU]
      have hbn : (L != b) = false := by simp [hU]
      have HYes : Hid (rdE b = 0 ∧ rdV b = (([] : List Fa).map Fa.p, (-1))) := ⟨r1, r2⟩
      clear hU r1 r2
      go_wp2_with fail
      have HK3 := set2b HK2.out rfl (.slice none 0 0) (.int .i64 (-1))
      refine bodyPost_ret (results_ct rfl _ _ w.heap.size _ rfl (run_loadVar_row _ w.heap.size _ _ _ (0, 0) _ HK3 Tryz.underlying46 rfl (by kernel_rfl))) rfl ?_
      have hok : ∀ B : World, (∀ k, w.heap.size ≤ k → k < ((w2.setCell ⟨w.heap.size, 0, none⟩ (.slice none 0 0)).setCell ⟨w.heap.size, 1, none⟩ (.int .i64 (-1))).heap.size → B.heap[k]? = ((w2.setCell ⟨w.heap.size, 0, none⟩ (.slice none 0 0)).setCell ⟨w.heap.size, 1, none⟩ (.int .i64 (-1))).heap[k]?) → RcOk B ⟨.slice none 0 0, ([] : List Fa), (-1)⟩ := by
        intro B hB
        refine ⟨HNt.out B fun k h1 h2 => ?_, HMt.out.1, HMt.out.2⟩
        rw [hB k (by omega) (by have := HB12.out.size; simp; omega), Go.heap_setCell_other _ _ _ _ (by show k ≠ w.heap.size; omega), Go.heap_setCell_other _ _ _ _ (by show k ≠ w.heap.size; omega), HB12.out.block k h2]
      exact ⟨(HB2.out.setCell (p := ⟨w.heap.size, 0, none⟩) (Nat.le_refl _) _).setCell (p := ⟨w.heap.size, 1, none⟩) (Nat.le_refl _) _, ⟨.slice none 0 0, ([] : List Fa), (-1)⟩, by rw [HYes.out.1]; rfl, hok _ (fun _ _ _ => rfl), hok, by rw [HYes.out.2]; exact HP.out, by rw [HYes.out.2]⟩
    · have HNo : Hid (rdR b = none) := g2_bad HGt.out (fun h => hU (HLr.out.trans h.2))
      have hbe : (L == b) = false := by simp [hU]
      have hbn : (L != b) = true := by simp [hU]
      clear hU
      go_wp2_with fail
      have HK3 := set2b HK2.out rfl (.slice none 0 0) (.int .i64 0)
      refine bodyPost_ret (results_ct rfl _ _ w.heap.size _ rfl (run_loadVar_row _ w.heap.size _ _ _ (0, 0) _ HK3 Tryz.underlying46 rfl (by kernel_rfl))) rfl ?_
      exact rdx_no HNo.out ((HB2.out.setCell (p := ⟨w.heap.size, 0, none⟩) (Nat.le_refl _) _).setCell (p := ⟨w.heap.size, 1, none⟩) (Nat.le_refl _) _)
  · have hE : E = 90 := by rw [HE.out]; unfold wrE; rw [HP.out, if_neg hr]
    have HNo : Hid (rdR b = none) := g2_bad HGt.out (fun h => hr h.1)
    subst hE
    clear hr
    go_wp2_with fail
    have HK3 := set2b HK2.out rfl (.slice none 0 0) (.int .i64 0)
    refine bodyPost_ret (results_ct rfl _ _ w.heap.size _ rfl (run_loadVar_row _ w.heap.size _ _ _ (0, 0) _ HK3 Tryz.underlying46 rfl (by kernel_rfl))) rfl ?_
    exact rdx_no HNo.out ((HB2.out.setCell (p := ⟨w.heap.size, 0, none⟩) (Nat.le_refl _) _).setCell (p := ⟨w.heap.size, 1, none⟩) (Nat.le_refl _) _)
set_option maxRecDepth 100000 in
set_option maxHeartbeats 4000000 in
theorem wrefRead_C9 {w : World} (b : List UInt8) (hbl : b.length ≤ 5000) (hlen : 1 < b.length) (bb off cap : Nat) (hbw : bb < w.heap.size) (c : UInt8) (hc : b[0]? = some c) (hcell : w.cell? ⟨bb, off, none⟩ = some (bc c)) (h2 : ¬ c = 2) (h1 : ¬ c = 1) (h9 : b.length = 9) (hR : Reads w (.slice (some ⟨bb, off, none⟩) b.length cap) b) : Calls Tryz.prog 54 #[.slice (some ⟨bb, off, none⟩) b.length cap] w (RdW w b) := by
  have HR : Hid (Reads w (.slice (some ⟨bb, off, none⟩) b.length cap) b) := hR
  have HI0 : Hid (IRd w (.slice none 0 0) [] ((w.alloc (.cells #[.slice none 0 0, .int .i64 0] 46)).alloc (.cells #[.slice none 0 0, .int .i64 (-1)] 46))) := ird0 w
  clear hR
  have hd9 : ((b.length : Int) == 9) = true := by simp; omega
  have hl1 : (1 : Int) < (b.length : Int) := by omega
  have c0 : ((w.alloc (.cells #[.slice none 0 0, .int .i64 0] 46)).alloc (.cells #[.slice none 0 0, .int .i64 (-1)] 46)).cell? ⟨bb, off, none⟩ = some (.int .u8 (c.toNat : Int)) := (HI0.out.b.cell (p := ⟨bb, off, none⟩) hbw).trans hcell
  have h2' : ¬ (c.toNat : Int) = 2 := fun e => h2 (UInt8.toNat_inj.1 (show c.toNat = 2 by omega))
  have h1' : ¬ (c.toNat : Int) = 1 := fun e => h1 (UInt8.toNat_inj.1 (show c.toNat = 1 by omega))
  have HG0 : Hid (g2F b = some ([], -1)) := by
    unfold Hid g2F
    rw [if_neg (fun h => by have := h.2; rw [hc] at this; exact h2 (Option.some.inj this)), if_neg (fun h => by have := h.2; rw [hc] at this; exact h1 (Option.some.inj this))]
  clear h2 h1 hcell hc h9
  go_enter Tryz.func54, Tryz.ntmps54
  go_wp2_with fail
  have HRt : Hid (((w.alloc (.cells #[.slice none 0 0, .int .i64 0] 46)).alloc (.cells #[.slice none 0 0, .int .i64 (-1)] 46)).heap[w.heap.size + 1]? = some (.cells #[.slice none 0 0, .int .i64 (-1)] 46)) := HI0.out.r
  have HZt : Hid (((w.alloc (.cells #[.slice none 0 0, .int .i64 0] 46)).alloc (.cells #[.slice none 0 0, .int .i64 (-1)] 46)).heap[w.heap.size]? = some (.cells #[.slice none 0 0, .int .i64 0] 46)) := HI0.out.z
  have HBt : Hid (Below w.heap.size w ((w.alloc (.cells #[.slice none 0 0, .int .i64 0] 46)).alloc (.cells #[.slice none 0 0, .int .i64 (-1)] 46))) := HI0.out.b
  have HGt2 : Hid (w.heap.size + 2 ≤ ((w.alloc (.cells #[.slice none 0 0, .int .i64 0] 46)).alloc (.cells #[.slice none 0 0, .int .i64 (-1)] 46)).heap.size) := HI0.out.g
  have HNt : Hid (FNw (w.heap.size + 2) ((w.alloc (.cells #[.slice none 0 0, .int .i64 0] 46)).alloc (.cells #[.slice none 0 0, .int .i64 (-1)] 46)) (.slice none 0 0) []) := fnw_nil _ _
  have HGt : Hid (g2F b = some (([] : List Fa).map Fa.p, -1)) := HG0.out
  have hzt := HGt2.out
  have HMt : Hid (-9223372036854775808 ≤ (-1) ∧ (-1) ≤ 9223372036854775807) := g2_m HGt.out
  have HOk : Hid (RcOk ((w.alloc (.cells #[.slice none 0 0, .int .i64 0] 46)).alloc (.cells #[.slice none 0 0, .int .i64 (-1)] 46)) ⟨.slice none 0 0, ([] : List Fa), (-1)⟩) := ⟨HNt.out ((w.alloc (.cells #[.slice none 0 0, .int .i64 0] 46)).alloc (.cells #[.slice none 0 0, .int .i64 (-1)] 46)) (fun _ _ _ => rfl), HMt.out.1, HMt.out.2⟩
  have HW : Hid (Calls Tryz.prog 17 #[.agg #[.slice none 0 0, .int .i64 (-1)]] ((w.alloc (.cells #[.slice none 0 0, .int .i64 0] 46)).alloc (.cells #[.slice none 0 0, .int .i64 (-1)] 46)) fun e w' => ∃ v, e = .returned (.tuple #[v, .int .i64 (wrE ⟨.slice none 0 0, ([] : List Fa), (-1)⟩)]) ∧ Own w' ((w.alloc (.cells #[.slice none 0 0, .int .i64 0] 46)).alloc (.cells #[.slice none 0 0, .int .i64 (-1)] 46)).heap.size v (wrB ⟨.slice none 0 0, ([] : List Fa), (-1)⟩) ∧ Below ((w.alloc (.cells #[.slice none 0 0, .int .i64 0] 46)).alloc (.cells #[.slice none 0 0, .int .i64 (-1)] 46)).heap.size ((w.alloc (.cells #[.slice none 0 0, .int .i64 0] 46)).alloc (.cells #[.slice none 0 0, .int .i64 (-1)] 46)) w') := wrefWrite_any ⟨.slice none 0 0, ([] : List Fa), (-1)⟩ ((w.alloc (.cells #[.slice none 0 0, .int .i64 0] 46)).alloc (.cells #[.slice none 0 0, .int .i64 (-1)] 46)) HOk.out
  have HP : Hid ((⟨.slice none 0 0, ([] : List Fa), (-1)⟩ : Rc).p = ([] : List Fa).map Fa.p) := rfl
  obtain ⟨E, HE⟩ := hid_ex (wrE ⟨.slice none 0 0, ([] : List Fa), (-1)⟩)
  obtain ⟨L, HL⟩ := hid_ex (wrB ⟨.slice none 0 0, ([] : List Fa), (-1)⟩)
  rw [← HE.out, ← HL.out] at HW
  refine HW.out.mono ?_
  rintro e w2 ⟨vw, rfl, how, hb2⟩
  have HK2 : Hid (w2.heap[w.heap.size]? = some (.cells #[.slice none 0 0, .int .i64 0] 46)) := (hb2.block w.heap.size (by omega)).trans HZt.out
  have HX2 : Hid (w2.heap[w.heap.size + 1]? = some (.cells #[.slice none 0 0, .int .i64 (-1)] 46)) := (hb2.block _ (by omega)).trans HRt.out
  have HB2 : Hid (Below w.heap.size w w2) := HBt.out.trans (hb2.mono (by omega))
  have HB12 : Hid (Below ((w.alloc (.cells #[.slice none 0 0, .int .i64 0] 46)).alloc (.cells #[.slice none 0 0, .int .i64 (-1)] 46)).heap.size ((w.alloc (.cells #[.slice none 0 0, .int .i64 0] 46)).alloc (.cells #[.slice none 0 0, .int .i64 (-1)] 46)) w2) := hb2
  have HOw : Hid (Reads w2 vw L) := how.reads
  obtain ⟨wa, wc, hwv, _⟩ := how.form
  subst hwv
  clear hb2 how HW
  have c0 := cl3 HK2.out 0 (by simp)
  have c1 := cl3 HK2.out 1 (by simp)
  have x0 := cl3 HX2.out 0 (by simp)
  have x1 := cl3 HX2.out 1 (by simp)
  have f0 := fz3 HK2.out 0
  have f1 := fz3 HK2.out 1
  simp only [List.getElem_toArray, List.getElem_cons_succ, List.getElem_cons_zero] at c0 c1 x0 x1
  by_cases hr : rightR (([] : List Fa).map Fa.p) (-1) = true
  · have hE : E = 0 := by rw [HE.out]; unfold wrE; rw [HP.out, if_pos hr]
    have HLr : Hid (L = wrR (([] : List Fa).map Fa.p) (-1)) := by unfold Hid; rw [HL.out]; unfold wrB; rw [HP.out, if_pos hr]
    have HRr : Hid (rightR (([] : List Fa).map Fa.p) (-1) = true) := hr
    have q1 := reads_text HOw.out
    have q2 := reads_text (HR.out.below HB2.out)
    subst hE
    clear hr HL HE
    by_cases hU : L = b
    · obtain ⟨r1, r2⟩ := rdx_yes (g2_good HGt.out HRr.out (HLr.out.symm.trans hU))
      have hbe : (L == b) = true := by simp [hU]
      have hbn : (L != b) = false := by simp [hU]
      have HYes : Hid (rdE b = 0 ∧ rdV b = (([] : List Fa).map Fa.p, (-1))) := ⟨r1, r2⟩
      clear hU r1 r2
      go_wp2_with fail
      have HK3 := set2b HK2.out rfl (.slice none 0 0) (.int .i64 (-1))
      refine bodyPost_ret (results_ct rfl _ _ w.heap.size _ rfl (run_loadVar_row _ w.heap.size _ _ _ (0, 0) _ HK3 Tryz.underlying46 rfl (by kernel_rfl))) rfl ?_
      have hok : ∀ B : World, (∀ k, w.heap.size ≤ k → k < ((w2.setCell ⟨w.heap.size, 0, none⟩ (.slice none 0 0)).setCell ⟨w.heap.size, 1, none⟩ (.int .i64 (-1))).heap.size → B.heap[k]? = ((w2.setCell ⟨w.heap.size, 0, none⟩ (.slice none 0 0)).setCell ⟨w.heap.size, 1, none⟩ (.int .i64 (-1))).heap[k]?) → RcOk B ⟨.slice none 0 0, ([] : List Fa), (-1)⟩ := by
        intro B hB
        refine ⟨HNt.out B fun k h1 h2 => ?_, HMt.out.1, HMt.out.2⟩
        rw [hB k (by omega) (by have := HB12.out.size; simp; omega), Go.heap_setCell_other _ _ _ _ (by show k ≠ w.heap.size; omega), Go.heap_setCell_other _ _ _ _ (by show k ≠ w.heap.size; omega), HB12.out.block k h2]
      exact ⟨(HB2.out.setCell (p := ⟨w.heap.size, 0, none⟩) (Nat.le_refl _) _).setCell (p := ⟨w.heap.size, 1, none⟩) (Nat.le_refl _) _, ⟨.slice none 0 0, ([] : List Fa), (-1)⟩, by rw [HYes.out.1]; rfl, hok _ (fun _ _ _ => rfl), hok, by rw [HYes.out.2]; exact HP.out, by rw [HYes.out.2]⟩
    · have HNo : Hid (rdR b = none) := g2_bad HGt.out (fun h => hU (HLr.out.trans h.2))
      have hbe : (L == b) = false := by simp [hU]
      have hbn : (L != b) = true := by simp [hU]
      clear hU
      go_wp2_with fail
      have HK3 := set2b HK2.out rfl (.slice none 0 0) (.int .i64 0)
      refine bodyPost_ret (results_ct rfl _ _ w.heap.size _ rfl (run_loadVar_row _ w.heap.size _ _ _ (0, 0) _ HK3 Tryz.underlying46 rfl (by kernel_rfl))) rfl ?_
      exact rdx_no HNo.out ((HB2.out.setCell (p := ⟨w.heap.size, 0, none⟩) (Nat.le_refl _) _).setCell (p := ⟨w.heap.size, 1, none⟩) (Nat.le_refl _) _)
  · have hE : E = 90 := by rw [HE.out]; unfold wrE; rw [HP.out, if_neg hr]
    have HNo : Hid (rdR b = none) := g2_bad HGt.out (fun h => hr h.1)
    subst hE
    clear hr
    go_wp2_with fail
    have HK3 := set2b HK2.out rfl (.slice none 0 0) (.int .i64 0)
    refine bodyPost_ret (results_ct rfl _ _ w.heap.size _ rfl (run_loadVar_row _ w.heap.size _ _ _ (0, 0) _ HK3 Tryz.underlying46 rfl (by kernel_rfl))) rfl ?_
    exact rdx_no HNo.out ((HB2.out.setCell (p := ⟨w.heap.size, 0, none⟩) (Nat.le_refl _) _).setCell (p := ⟨w.heap.size, 1, none⟩) (Nat.le_refl _) _)
set_option maxRecDepth 100000 in
set_option maxHeartbeats 4000000 in
theorem wrefRead_Cn {w : World} (b : List UInt8) (hbl : b.length ≤ 5000) (hlen : 1 < b.length) (bb off cap : Nat) (hbw : bb < w.heap.size) (c : UInt8) (hc : b[0]? = some c) (hcell : w.cell? ⟨bb, off, none⟩ = some (bc c)) (h1 : ¬ c = 1) (h9 : ¬ b.length = 9) (hR : Reads w (.slice (some ⟨bb, off, none⟩) b.length cap) b) : Calls Tryz.prog 54 #[.slice (some ⟨bb, off, none⟩) b.length cap] w (RdW w b) := by
  have HR : Hid (Reads w (.slice (some ⟨bb, off, none⟩) b.length cap) b) := hR
  have HI0 : Hid (IRd w (.slice none 0 0) [] ((w.alloc (.cells #[.slice none 0 0, .int .i64 0] 46)).alloc (.cells #[.slice none 0 0, .int .i64 (-1)] 46))) := ird0 w
  clear hR
  have hd9 : ¬ (b.length : Int) = 9 := by omega
  have hl1 : (1 : Int) < (b.length : Int) := by omega
  have c0 : ((w.alloc (.cells #[.slice none 0 0, .int .i64 0] 46)).alloc (.cells #[.slice none 0 0, .int .i64 (-1)] 46)).cell? ⟨bb, off, none⟩ = some (.int .u8 (c.toNat : Int)) := (HI0.out.b.cell (p := ⟨bb, off, none⟩) hbw).trans hcell
  have h1' : ¬ (c.toNat : Int) = 1 := fun e => h1 (UInt8.toNat_inj.1 (show c.toNat = 1 by omega))
  have HG0 : Hid (g2F b = some ([], -1)) := by
    unfold Hid g2F
    rw [if_neg (fun h => h9 h.1), if_neg (fun h => by have := h.2; rw [hc] at this; exact h1 (Option.some.inj this))]
  clear h1 hcell hc h9
  go_enter Tryz.func54, Tryz.ntmps54
  go_wp2_with fail
  have HRt : Hid (((w.alloc (.cells #[.slice none 0 0, .int .i64 0] 46)).alloc (.cells #[.slice none 0 0, .int .i64 (-1)] 46)).heap[w.heap.size + 1]? = some (.cells #[.slice none 0 0, .int .i64 (-1)] 46)) := HI0.out.r
  have HZt : Hid (((w.alloc (.cells #[.slice none 0 0, .int .i64 0] 46)).alloc (.cells #[.slice none 0 0, .int .i64 (-1)] 46)).heap[w.heap.size]? = some (.cells #[.slice none 0 0, .int .i64 0] 46)) := HI0.out.z
  have HBt : Hid (Below w.heap.size w ((w.alloc (.cells #[.slice none 0 0, .int .i64 0] 46)).alloc (.cells #[.slice none 0 0, .int .i64 (-1)] 46))) := HI0.out.b
  have HGt2 : Hid (w.heap.size + 2 ≤ ((w.alloc (.cells #[.slice none 0 0, .int .i64 0] 46)).alloc (.cells #[.slice none 0 0, .int .i64 (-1)] 46)).heap.size) := HI0.out.g
  have HNt : Hid (FNw (w.heap.size + 2) ((w.alloc (.cells #[.slice none 0 0, .int .i64 0] 46)).alloc (.cells #[.slice none 0 0, .int .i64 (-1)] 46)) (.slice none 0 0) []) := fnw_nil _ _
  have HGt : Hid (g2F b = some (([] : List Fa).map Fa.p, -1)) := HG0.out
  have hzt := HGt2.out
  have HMt : Hid (-9223372036854775808 ≤ (-1) ∧ (-1) ≤ 9223372036854775807) := g2_m HGt.out
  have HOk : Hid (RcOk ((w.alloc (.cells #[.slice none 0 0, .int .i64 0] 46)).alloc (.cells #[.slice none 0 0, .int .i64 (-1)] 46)) ⟨.slice none 0 0, ([] : List Fa), (-1)⟩) := ⟨HNt.out ((w.alloc (.cells #[.slice none 0 0, .int .i64 0] 46)).alloc (.cells #[.slice none 0 0, .int .i64 (-1)] 46)) (fun _ _ _ => rfl), HMt.out.1, HMt.out.2⟩
  have HW : Hid (Calls Tryz.prog 17 #[.agg #[.slice none 0 0, .int .i64 (-1)]] ((w.alloc (.cells #[.slice none 0 0, .int .i64 0] 46)).alloc (.cells #[.slice none 0 0, .int .i64 (-1)] 46)) fun e w' => ∃ v, e = .returned (.tuple #[v, .int .i64 (wrE ⟨.slice none 0 0, ([] : List Fa), (-1)⟩)]) ∧ Own w' ((w.alloc (.cells #[.slice none 0 0, .int .i64 0] 46)).alloc (.cells #[.slice none 0 0, .int .i64 (-1)] 46)).heap.size v (wrB ⟨.slice none 0 0, ([] : List Fa), (-1)⟩) ∧ Below ((w.alloc (.cells #[.slice none 0 0, .int .i64 0] 46)).alloc (.cells #[.slice none 0 0, .int .i64 (-1)] 46)).heap.size ((w.alloc (.cells #[.slice none 0 0, .int .i64 0] 46)).alloc (.cells #[.slice none 0 0, .int .i64 (-1)] 46)) w') := wrefWrite_any ⟨.slice none 0 0, ([] : List Fa), (-1)⟩ ((w.alloc (.cells #[.slice none 0 0, .int .i64 0] 46)).alloc (.cells #[.slice none 0 0, .int .i64 (-1)] 46)) HOk.out
  have HP : Hid ((⟨.slice none 0 0, ([] : List Fa), (-1)⟩ : Rc).p = ([] : List Fa).map Fa.p) := rfl
  obtain ⟨E, HE⟩ := hid_ex (wrE ⟨.slice none 0 0, ([] : List Fa), (-1)⟩)
  obtain ⟨L, HL⟩ := hid_ex (wrB ⟨.slice none 0 0, ([] : List Fa), (-1)⟩)
  rw [← HE.out, ← HL.out] at HW
  refine HW.out.mono ?_
  rintro e w2 ⟨vw, rfl, how, hb2⟩
  have HK2 : Hid (w2.heap[w.heap.size]? = some (.cells #[.slice none 0 0, .int .i64 0] 46)) := (hb2.block w.heap.size (by omega)).trans HZt.out
  have HX2 : Hid (w2.heap[w.heap.size + 1]? = some (.cells #[.slice none 0 0, .int .i64 (-1)] 46)) := (hb2.block _ (by omega)).trans HRt.out
  have HB2 : Hid (Below w.heap.size w w2) := HBt.out.trans (hb2.mono (by omega))
  have HB12 : Hid (Below ((w.alloc (.cells #[.slice none 0 0, .int .i64 0] 46)).alloc (.cells #[.slice none 0 0, .int .i64 (-1)] 46)).heap.size ((w.alloc (.cells #[.slice none 0 0, .int .i64 0] 46)).alloc (.cells #[.slice none 0 0, .int .i64 (-1)] 46)) w2) := hb2
  have HOw : Hid (Reads w2 vw L) := how.reads
  obtain ⟨wa, wc, hwv, _⟩ := how.form
  subst hwv
  clear hb2 how HW
  have c0 := cl3 HK2.out 0 (by simp)
  have c1 := cl3 HK2.out 1 (by simp)
  have x0 := cl3 HX2.out 0 (by simp)
  have x1 := cl3 HX2.out 1 (by simp)
  have f0 := fz3 HK2.out 0
  have f1 := fz3 HK2.out 1
  simp only [List.getElem_toArray, List.getElem_cons_succ, List.getElem_cons_zero] at c0 c1 x0 x1
  by_cases hr : rightR (([] : List Fa).map Fa.p) (-1) = true
  · have hE : E = 0 := by rw [HE.out]; unfold wrE; rw [HP.out, if_pos hr]
    have HLr : Hid (L = wrR (([] : List Fa).map Fa.p) (-1)) := by unfold Hid; rw [HL.out]; unfold wrB; rw [HP.out, if_pos hr]
    have HRr : Hid (rightR (([] : List Fa).map Fa.p) (-1) = true) := hr
    have q1 := reads_text HOw.out
    have q2 := reads_text (HR.out.below HB2.out)
    subst hE
    clear hr HL HE
    by_cases hU : L = b
    · obtain ⟨r1, r2⟩ := rdx_yes (g2_good HGt.out HRr.out (HLr.out.symm.trans hU))
      have hbe : (L == b) = true := by simp [hU]
      have hbn : (L != b) = false := by simp [hU]
      have HYes : Hid (rdE b = 0 ∧ rdV b = (([] : List Fa).map Fa.p, (-1))) := ⟨r1, r2⟩
      clear hU r1 r2
      go_wp2_with fail
      have HK3 := set2b HK2.out rfl (.slice none 0 0) (.int .i64 (-1))
      refine bodyPost_ret (results_ct rfl _ _ w.heap.size _ rfl (run_loadVar_row _ w.heap.size _ _ _ (0, 0) _ HK3 Tryz.underlying46 rfl (by kernel_rfl))) rfl ?_
      have hok : ∀ B : World, (∀ k, w.heap.size ≤ k → k < ((w2.setCell ⟨w.heap.size, 0, none⟩ (.slice none 0 0)).setCell ⟨w.heap.size, 1, none⟩ (.int .i64 (-1))).heap.size → B.heap[k]? = ((w2.setCell ⟨w.heap.size, 0, none⟩ (.slice none 0 0)).setCell ⟨w.heap.size, 1, none⟩ (.int .i64 (-1))).heap[k]?) → RcOk B ⟨.slice none 0 0, ([] : List Fa), (-1)⟩ := by
        intro B hB
        refine ⟨HNt.out B fun k h1 h2 => ?_, HMt.out.1, HMt.out.2⟩
        rw [hB k (by omega) (by have := HB12.out.size; simp; omega), Go.heap_setCell_other _ _ _ _ (by show k ≠ w.heap.size; omega), Go.heap_setCell_other _ _ _ _ (by show k ≠ w.heap.size; omega), HB12.out.block k h2]
      exact ⟨(HB2.out.setCell (p := ⟨w.heap.size, 0, none⟩) (Nat.le_refl _) _).setCell (p := ⟨w.heap.size, 1, none⟩) (Nat.le_refl _) _, ⟨.slice none 0 0, ([] : List Fa), (-1)⟩, by rw [HYes.out.1]; rfl, hok _ (fun _ _ _ => rfl), hok, by rw [HYes.out.2]; exact HP.out, by rw [HYes.out.2]⟩
    · have HNo : Hid (rdR b = none) := g2_bad HGt.out (fun h => hU (HLr.out.trans h.2))
      have hbe : (L == b) = false := by simp [hU]
      have hbn : (L != b) = true := by simp [hU]
      clear hU
      go_wp2_with fail
      have HK3 := set2b HK2.out rfl (.slice none 0 0) (.int .i64 0)
      refine bodyPost_ret (results_ct rfl _ _ w.heap.size _ rfl (run_loadVar_row _ w.heap.size _ _ _ (0, 0) _ HK3 Tryz.underlying46 rfl (by kernel_rfl))) rfl ?_
      exact rdx_no HNo.out ((HB2.out.setCell (p := ⟨w.heap.size, 0, none⟩) (Nat.le_refl _) _).setCell (p := ⟨w.heap.size, 1, none⟩) (Nat.le_refl _) _)
  · have hE : E = 90 := by rw [HE.out]; unfold wrE; rw [HP.out, if_neg hr]
    have HNo : Hid (rdR b = none) := g2_bad HGt.out (fun h => hr h.1)
    subst hE
    clear hr
    go_wp2_with fail
    have HK3 := set2b HK2.out rfl (.slice none 0 0) (.int .i64 0)
    refine bodyPost_ret (results_ct rfl _ _ w.heap.size _ rfl (run_loadVar_row _ w.heap.size _ _ _ (0, 0) _ HK3 Tryz.underlying46 rfl (by kernel_rfl))) rfl ?_
    exact rdx_no HNo.out ((HB2.out.setCell (p := ⟨w.heap.size, 0, none⟩) (Nat.le_refl _) _).setCell (p := ⟨w.heap.size, 1, none⟩) (Nat.le_refl _) _)
set_option maxRecDepth 100000 in
set_option maxHeartbeats 4000000 in
theorem wrefRead_A {w : World} (b : List UInt8) (hbl : b.length ≤ 5000) (hlen : 1 < b.length) (bb off cap : Nat) (hbw : bb < w.heap.size) (c : UInt8) (hc : b[0]? = some c) (hcell : w.cell? ⟨bb, off, none⟩ = some (bc c)) (h2 : c = 2) (h9 : b.length = 9) (hR : Reads w (.slice (some ⟨bb, off, none⟩) b.length cap) b) : Calls Tryz.prog 54 #[.slice (some ⟨bb, off, none⟩) b.length cap] w (RdW w b) := by
  have HR : Hid (Reads w (.slice (some ⟨bb, off, none⟩) b.length cap) b) := hR
  have HI0 : Hid (IRd w (.slice none 0 0) [] ((w.alloc (.cells #[.slice none 0 0, .int .i64 0] 46)).alloc (.cells #[.slice none 0 0, .int .i64 (-1)] 46))) := ird0 w
  clear hR
  have hd9 : ((b.length : Int) == 9) = true := by simp; omega
  have hl1 : (1 : Int) < (b.length : Int) := by omega
  have c0 : ((w.alloc (.cells #[.slice none 0 0, .int .i64 0] 46)).alloc (.cells #[.slice none 0 0, .int .i64 (-1)] 46)).cell? ⟨bb, off, none⟩ = some (.int .u8 (c.toNat : Int)) := (HI0.out.b.cell (p := ⟨bb, off, none⟩) hbw).trans hcell
  subst h2
  have c0 : ((w.alloc (.cells #[.slice none 0 0, .int .i64 0] 46)).alloc (.cells #[.slice none 0 0, .int .i64 (-1)] 46)).cell? ⟨bb, off, none⟩ = some (.int .u8 2) := c0
  have HG0 : Hid (g2F b = some ([], (rnF (b.drop 1)).1)) := by
    unfold Hid g2F
    rw [if_pos ⟨h9, hc⟩]
  obtain ⟨a1, c1, hsl1, hrd1⟩ := sl_from HR.out (c := 1) (by omega)
  have hsl2 : ∀ w', (Instr.slice 28 (.slice (some ⟨bb, off, none⟩) b.length cap) (some (.int .i64 1)) none none).run Tryz.prog w' = .ok (.slice a1 (b.length - 1) c1) w' := hsl1
  have HN : Hid (Calls Tryz.prog 82 #[.slice a1 (b.length - 1) c1] ((w.alloc (.cells #[.slice none 0 0, .int .i64 0] 46)).alloc (.cells #[.slice none 0 0, .int .i64 (-1)] 46)) fun e w' => e = .returned (.tuple #[.int .i64 (rnF (b.drop 1)).1, .int .i64 (rnF (b.drop 1)).2.1, .int .i64 (rnF (b.drop 1)).2.2]) ∧ Below ((w.alloc (.cells #[.slice none 0 0, .int .i64 0] 46)).alloc (.cells #[.slice none 0 0, .int .i64 (-1)] 46)).heap.size ((w.alloc (.cells #[.slice none 0 0, .int .i64 0] 46)).alloc (.cells #[.slice none 0 0, .int .i64 (-1)] 46)) w') := refReadNumber_any _ (b.drop 1) _ (hrd1.below HI0.out.b)
  obtain ⟨m, HM⟩ := hid_ex (rnF (b.drop 1)).1
  obtain ⟨u1, HU1⟩ := hid_ex (rnF (b.drop 1)).2.1
  obtain ⟨u2, HU2⟩ := hid_ex (rnF (b.drop 1)).2.2
  rw [← HM.out] at HG0
  rw [← HM.out, ← HU1.out, ← HU2.out] at HN
  clear h9 hsl1 hrd1
  go_enter Tryz.func54, Tryz.ntmps54
  go_wp2_with fail
  refine HN.out.mono ?_
  rintro e w1 ⟨rfl, hb1⟩
  have HI1 : Hid (IRd w (.slice none 0 0) [] w1) := HI0.out.below hb1
  have HRt : Hid ((w1.setCell ⟨w.heap.size + 1, 1, none⟩ (.int .i64 m)).heap[w.heap.size + 1]? = some (.cells #[.slice none 0 0, .int .i64 m] 46)) := set2r HI1.out.r _
  have HZt : Hid ((w1.setCell ⟨w.heap.size + 1, 1, none⟩ (.int .i64 m)).heap[w.heap.size]? = some (.cells #[.slice none 0 0, .int .i64 0] 46)) := set_ne HI1.out.z (by omega)
  have HBt : Hid (Below w.heap.size w (w1.setCell ⟨w.heap.size + 1, 1, none⟩ (.int .i64 m))) := HI1.out.b.setCell (p := ⟨w.heap.size + 1, 1, none⟩) (by show w.heap.size ≤ w.heap.size + 1; omega) _
  have HGt2 : Hid (w.heap.size + 2 ≤ (w1.setCell ⟨w.heap.size + 1, 1, none⟩ (.int .i64 m)).heap.size) := by have := HI1.out.g; unfold Hid; simpa using this
  have HNt : Hid (FNw (w.heap.size + 2) (w1.setCell ⟨w.heap.size + 1, 1, none⟩ (.int .i64 m)) (.slice none 0 0) []) := fnw_nil _ _
  have HGt : Hid (g2F b = some (([] : List Fa).map Fa.p, m)) := HG0.out
  have f9 := fz3 HI1.out.r 1
  have k9 := cl3 HI1.out.r 1 (by simp)
  have k8 := cl3 HRt.out 0 (by simp)
  have k7 := cl3 HRt.out 1 (by simp)
  have k6 : (w1.setCell ⟨w.heap.size + 1, 1, none⟩ (.int .i64 m)).cell? ⟨bb, off, none⟩ = some (.int .u8 2) := (HBt.out.cell (p := ⟨bb, off, none⟩) hbw).trans hcell
  simp only [List.getElem_toArray, List.getElem_cons_succ, List.getElem_cons_zero] at k9 k8 k7
  clear hb1 HN c0 hsl2
  go_wp2_with fail
  clear f9 k9 k8 k7 k6
  generalize w1.setCell ⟨w.heap.size + 1, 1, none⟩ (.int .i64 m) = wt at *
  have hzt := HGt2.out
  have HMt : Hid (-9223372036854775808 ≤ m ∧ m ≤ 9223372036854775807) := g2_m HGt.out
  have HOk : Hid (RcOk wt ⟨.slice none 0 0, ([] : List Fa), m⟩) := ⟨HNt.out wt (fun _ _ _ => rfl), HMt.out.1, HMt.out.2⟩
  have HW : Hid (Calls Tryz.prog 17 #[.agg #[.slice none 0 0, .int .i64 m]] wt fun e w' => ∃ v, e = .returned (.tuple #[v, .int .i64 (wrE ⟨.slice none 0 0, ([] : List Fa), m⟩)]) ∧ Own w' wt.heap.size v (wrB ⟨.slice none 0 0, ([] : List Fa), m⟩) ∧ Below wt.heap.size wt w') := wrefWrite_any ⟨.slice none 0 0, ([] : List Fa), m⟩ wt HOk.out
  have HP : Hid ((⟨.slice none 0 0, ([] : List Fa), m⟩ : Rc).p = ([] : List Fa).map Fa.p) := rfl
  obtain ⟨E, HE⟩ := hid_ex (wrE ⟨.slice none 0 0, ([] : List Fa), m⟩)
  obtain ⟨L, HL⟩ := hid_ex (wrB ⟨.slice none 0 0, ([] : List Fa), m⟩)
  rw [← HE.out, ← HL.out] at HW
  refine HW.out.mono ?_
  rintro e w2 ⟨vw, rfl, how, hb2⟩
  have HK2 : Hid (w2.heap[w.heap.size]? = some (.cells #[.slice none 0 0, .int .i64 0] 46)) := (hb2.block w.heap.size (by omega)).trans HZt.out
  have HX2 : Hid (w2.heap[w.heap.size + 1]? = some (.cells #[.slice none 0 0, .int .i64 m] 46)) := (hb2.block _ (by omega)).trans HRt.out
  have HB2 : Hid (Below w.heap.size w w2) := HBt.out.trans (hb2.mono (by omega))
  have HB12 : Hid (Below wt.heap.size wt w2) := hb2
  have HOw : Hid (Reads w2 vw L) := how.reads
  obtain ⟨wa, wc, hwv, _⟩ := how.form
  subst hwv
  clear hb2 how HW
  have c0 := cl3 HK2.out 0 (by simp)
  have c1 := cl3 HK2.out 1 (by simp)
  have x0 := cl3 HX2.out 0 (by simp)
  have x1 := cl3 HX2.out 1 (by simp)
  have f0 := fz3 HK2.out 0
  have f1 := fz3 HK2.out 1
  simp only [List.getElem_toArray, List.getElem_cons_succ, List.getElem_cons_zero] at c0 c1 x0 x1
  by_cases hr : rightR (([] : List Fa).map Fa.p) m = true
  · have hE : E = 0 := by rw [HE.out]; unfold wrE; rw [HP.out, if_pos hr]
    have HLr : Hid (L = wrR (([] : List Fa).map Fa.p) m) := by unfold Hid; rw [HL.out]; unfold wrB; rw [HP.out, if_pos hr]
    have HRr : Hid (rightR (([] : List Fa).map Fa.p) m = true) := hr
    have q1 := reads_text HOw.out
    have q2 := reads_text (HR.out.below HB2.out)
    subst hE
    clear hr HL HE
    by_cases hU : L = b
    · obtain ⟨r1, r2⟩ := rdx_yes (g2_good HGt.out HRr.out (HLr.out.symm.trans hU))
      have hbe : (L == b) = true := by simp [hU]
      have hbn : (L != b) = false := by simp [hU]
      have HYes : Hid (rdE b = 0 ∧ rdV b = (([] : List Fa).map Fa.p, m)) := ⟨r1, r2⟩
      clear hU r1 r2
      go_wp2_with fail
      have HK3 := set2b HK2.out rfl (.slice none 0 0) (.int .i64 m)
      refine bodyPost_ret (results_ct rfl _ _ w.heap.size _ rfl (run_loadVar_row _ w.heap.size _ _ _ (0, 0) _ HK3 Tryz.underlying46 rfl (by kernel_rfl))) rfl ?_
      have hok : ∀ B : World, (∀ k, w.heap.size ≤ k → k < ((w2.setCell ⟨w.heap.size, 0, none⟩ (.slice none 0 0)).setCell ⟨w.heap.size, 1, none⟩ (.int .i64 m)).heap.size → B.heap[k]? = ((w2.setCell ⟨w.heap.size, 0, none⟩ (.slice none 0 0)).setCell ⟨w.heap.size, 1, none⟩ (.int .i64 m)).heap[k]?) → RcOk B ⟨.slice none 0 0, ([] : List Fa), m⟩ := by
        intro B hB
        refine ⟨HNt.out B fun k h1 h2 => ?_, HMt.out.1, HMt.out.2⟩
        rw [hB k (by omega) (by have := HB12.out.size; simp; omega), Go.heap_setCell_other _ _ _ _ (by show k ≠ w.heap.size; omega), Go.heap_setCell_other _ _ _ _ (by show k ≠ w.heap.size; omega), HB12.out.block k h2]
      exact ⟨(HB2.out.setCell (p := ⟨w.heap.size, 0, none⟩) (Nat.le_refl _) _).setCell (p := ⟨w.heap.size, 1, none⟩) (Nat.le_refl _) _, ⟨.slice none 0 0, ([] : List Fa), m⟩, by rw [HYes.out.1]; rfl, hok _ (fun _ _ _ => rfl), hok, by rw [HYes.out.2]; exact HP.out, by rw [HYes.out.2]⟩
    · have HNo : Hid (rdR b = none) := g2_bad HGt.out (fun h => hU (HLr.out.trans h.2))
      have hbe : (L == b) = false := by simp [hU]
      have hbn : (L != b) = true := by simp [hU]
      clear hU
      go_wp2_with fail
      have HK3 := set2b HK2.out rfl (.slice none 0 0) (.int .i64 0)
      refine bodyPost_ret (results_ct rfl _ _ w.heap.size _ rfl (run_loadVar_row _ w.heap.size _ _ _ (0, 0) _ HK3 Tryz.underlying46 rfl (by kernel_rfl))) rfl ?_
      exact rdx_no HNo.out ((HB2.out.setCell (p := ⟨w.heap.size, 0, none⟩) (Nat.le_refl _) _).setCell (p := ⟨w.heap.size, 1, none⟩) (Nat.le_refl _) _)
  · have hE : E = 90 := by rw [HE.out]; unfold wrE; rw [HP.out, if_neg hr]
    have HNo : Hid (rdR b = none) := g2_bad HGt.out (fun h => hr h.1)
    subst hE
    clear hr
    go_wp2_with fail
    have HK3 := set2b HK2.out rfl (.slice none 0 0) (.int .i64 0)
    refine bodyPost_ret (results_ct rfl _ _ w.heap.size _ rfl (run_loadVar_row _ w.heap.size _ _ _ (0, 0) _ HK3 Tryz.underlying46 rfl (by kernel_rfl))) rfl ?_
    exact rdx_no HNo.out ((HB2.out.setCell (p := ⟨w.heap.size, 0, none⟩) (Nat.le_refl _) _).setCell (p := ⟨w.heap.size, 1, none⟩) (Nat.le_refl _) _)
end Go.Proofs.YtahigmjpeicemaaGreatDoor
