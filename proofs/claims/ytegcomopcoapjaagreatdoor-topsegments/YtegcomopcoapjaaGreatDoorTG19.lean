/- S1 WC6 V1 V2 V3, joined. -/
import Derived.Test.YtegcomopcoapjaaGreatDoorTG1
import Derived.Test.YtegcomopcoapjaaGreatDoorTG18
import Derived.Lib.Bytealg
import Derived.Laws.Externs
/- The contracts of bytes.Compare and bytes.Equal; the order of bytes. -/
namespace Go.Proofs.YtegcomopcoapjaaGreatDoor
open Go.RowKit

theorem run_loadBytes (w : World) : ∀ (l : List UInt8) (b off : Nat) (acc : ByteArray), (∀ j (h : j < l.length), w.cell? ⟨b, off + j, none⟩ = some (bc l[j])) →
    (Extern.Bytes.loadBytes ⟨b, off, none⟩ l.length acc).run Tryz.prog w = .ok ⟨acc.data ++ l.toArray⟩ w := by
  intro l
  induction l with
  | nil => intro b off acc _; simp [Extern.Bytes.loadBytes, Sem.run_pure]
  | cons x l ih =>
    intro b off acc h
    have h0 := h 0 (by simp)
    simp only [Nat.add_zero, List.getElem_cons_zero] at h0
    have e1 : (⟨b, off, none⟩ : Addr).add 1 = ⟨b, off + 1, none⟩ := by simp [Addr.add]
    have := ih b (off + 1) (acc.push x) (fun j hj => by
      have := h (j + 1) (by simpa using hj)
      simpa [Nat.add_assoc, Nat.add_comm 1 j] using this)
    have e2 : ((x.toNat : Int).toNat).toUInt8 = x := by simp
    unfold bc at h0
    simp only [List.length_cons, Extern.Bytes.loadBytes, Sem.run_bind, run_load, h0, Result.andThen, e1, e2, this]
    congr 1
    simp [ByteArray.push]
theorem run_bytesOf {w : World} {v : Value} {l : List UInt8} (h : Reads w v l) : (Extern.Bytes.bytesOf v).run Tryz.prog w = .ok ⟨l.toArray⟩ w := by
  rcases h with ⟨rfl, a, cap, rfl, _⟩ | ⟨b, off, cap, rfl, h2, h3, h4, h5, h6⟩
  · cases a with
    | none => simp [Extern.Bytes.bytesOf, Sem.run_pure]; rfl
    | some a => simp [Extern.Bytes.bytesOf, Extern.Bytes.loadBytes, Sem.run_pure]; rfl
  · have := run_loadBytes w l b off ByteArray.empty h6
    simp only [Extern.Bytes.bytesOf]
    rw [this]; simp
theorem run_cmp {w : World} {va vb : Value} {a b : List UInt8} (ha : Reads w va a) (hb : Reads w vb b) : (Extern.BytealgCompare.compare #[va, vb]).run Tryz.prog w = .ok (.int .i64 (Lib.compareBytes a b)) w := by
  change Sem.run Tryz.prog (do pure (goInt (Extern.BytealgCompare.cmp (← Extern.Bytes.bytesOf va) (← Extern.Bytes.bytesOf vb)))) w = _
  simp only [Sem.run_bind, run_bytesOf ha, run_bytesOf hb, Sem.run_pure, Result.andThen]
  rw [Lib.cmp_eq]
  rfl
theorem equal_any (va vb : Value) (a b : List UInt8) (w : World) (ha : Reads w va a) (hb : Reads w vb b) :
    Calls Tryz.prog 51 #[va, vb] w fun e w' => e = .returned (.bool (decide (a = b))) ∧ w' = w := by
  have h1 := reads_text ha
  have h2 := reads_text hb
  obtain ⟨a1, c1, rfl, _⟩ := ha.form
  obtain ⟨a2, c2, rfl, _⟩ := hb.form
  go_enter Tryz.func51, Tryz.ntmps51
  go_wp2_with fail
  go_ret
  exact ⟨congrArg (fun x => Ending.returned (Value.bool x)) (by rw [Bool.eq_iff_iff]; simp), rfl⟩
end Go.Proofs.YtegcomopcoapjaaGreatDoor

/- wal: Read. -/
namespace Go.Proofs.YtegcomopcoapjaaGreatDoor
open Go.RowKit Go.Shelf

def rdE (b : List UInt8) : Int := if (rdR b).isSome = true then 0 else 90
def rdV (b : List UInt8) : List Fc × Int := (rdR b).getD ([], 0)
theorem rd_yes {b : List UInt8} (h1 : rightR (guF b).1 (guF b).2 = true) (h2 : wrR (guF b).1 (guF b).2 = b) : rdE b = 0 ∧ rdV b = guF b := by
  have : rdR b = some (guF b) := by unfold rdR; rw [if_pos ⟨h1, h2⟩]
  unfold rdE rdV; rw [this]; exact ⟨rfl, rfl⟩
theorem rd_no {b : List UInt8} (h : ¬ (rightR (guF b).1 (guF b).2 = true ∧ wrR (guF b).1 (guF b).2 = b)) : rdE b = 90 ∧ rdV b = ([], 0) := by
  have : rdR b = none := by unfold rdR; rw [if_neg h]
  unfold rdE rdV; rw [this]; exact ⟨rfl, rfl⟩
/-- What Read tells. -/
def RdW (w : World) (b : List UInt8) (e : Ending) (w' : World) : Prop := Below w.heap.size w w' ∧ ∃ r : Rc, e = .returned (.tuple #[r.val, .int .i64 (rdE b)]) ∧ RcOk w' r ∧ (∀ B : World, (∀ k, w.heap.size ≤ k → k < w'.heap.size → B.heap[k]? = w'.heap[k]?) → RcOk B r) ∧ r.p = (rdV b).1 ∧ r.m = (rdV b).2
theorem guF_m (b : List UInt8) : -9223372036854775808 ≤ (guF b).2 ∧ (guF b).2 ≤ 9223372036854775807 := by
  cases b with
  | nil => simp [guF]
  | cons c b =>
    rw [guF]
    by_cases e : c = 2
    · rw [if_pos e]; exact rnF_bd b
    · rw [if_neg e]; simp
theorem rdw_no {w : World} {b : List UInt8} {w' : World} (h : ¬ (rightR (guF b).1 (guF b).2 = true ∧ wrR (guF b).1 (guF b).2 = b)) (hb : Below w.heap.size w w') : RdW w b (.returned (.tuple #[.agg #[.slice none 0 0, .int .i64 0], .int .i64 90])) w' := by
  obtain ⟨h1, h2⟩ := rd_no h
  exact ⟨hb, ⟨.slice none 0 0, [], 0⟩, by rw [h1]; rfl, rc_nil _ _ (by simp) (by simp), fun B _ => rc_nil _ _ (by simp) (by simp), by rw [h2]; rfl, by rw [h2]⟩
set_option maxRecDepth 100000 in
set_option maxHeartbeats 2000000 in
theorem walRead_any (v : Value) (b : List UInt8) (hbl : b.length ≤ 5000) (w : World) (hR : Reads w v b) : Calls Tryz.prog 32 #[v] w (RdW w b) := by
  obtain ⟨a, cap, rfl, _⟩ := hR.form
  have HR : Hid (Reads w (.slice a b.length cap) b) := hR
  have HB0 : Hid (Below w.heap.size w (w.alloc (.cells #[.slice none 0 0, .int .i64 0] 37))) := (Below.refl _ _).alloc (Nat.le_refl _) _
  have HG : Hid (Calls Tryz.prog 50 #[.slice a b.length cap] (w.alloc (.cells #[.slice none 0 0, .int .i64 0] 37)) (GuPost (w.alloc (.cells #[.slice none 0 0, .int .i64 0] 37)) b)) := guessed_any _ b hbl _ (hR.below HB0.out)
  obtain ⟨hm1, hm2⟩ := guF_m b
  obtain ⟨m, HM⟩ := hid_ex (guF b).2
  rw [← HM.out] at hm1 hm2
  clear hR
  go_enter Tryz.func32, Tryz.ntmps32
  go_wp2_with fail
  refine HG.out.mono ?_
  rintro e w1 ⟨hb1, fv, fs, rfl, hfn, hfp⟩
  rw [← HM.out]
  have hfr : FReads w1 fv fs := hfn w1 (fun _ _ _ => rfl)
  obtain ⟨fa, fc, hfv, hf1, hf2⟩ := hfr.form
  subst hfv
  have HFN : Hid (FNew (w.alloc (.cells #[.slice none 0 0, .int .i64 0] 37)) w1 (.slice fa fs.length fc) fs) := hfn
  have HFP : Hid (fs.map Fa.p = (guF b).1) := hfp
  have HRc1 : Hid (RcOk w1 ⟨.slice fa fs.length fc, fs, m⟩) := ⟨hfr, hm1, hm2⟩
  have HK1 : Hid (w1.heap[w.heap.size]? = some (.cells #[.slice none 0 0, .int .i64 0] 37)) := (hb1.block w.heap.size (by simp)).trans (World.alloc_heap_new _ _)
  have hz1 : w.heap.size + 1 ≤ w1.heap.size := by have := hb1.size; simpa using this
  have HB1 : Hid (Below w.heap.size w w1) := HB0.out.trans (hb1.mono (by simp))
  have HBa : Hid (Below w1.heap.size w1 (w1.alloc (.cells #[.slice fa fs.length fc, .int .i64 m] 37))) := (Below.refl _ _).alloc (Nat.le_refl _) _
  have HW : Hid (Calls Tryz.prog 23 #[.agg #[.slice fa fs.length fc, .int .i64 m]] (w1.alloc (.cells #[.slice fa fs.length fc, .int .i64 m] 37)) fun e w' => ∃ v, e = .returned (.tuple #[v, .int .i64 (wrE ⟨.slice fa fs.length fc, fs, m⟩)]) ∧ Own w' (w1.alloc (.cells #[.slice fa fs.length fc, .int .i64 m] 37)).heap.size v (wrB ⟨.slice fa fs.length fc, fs, m⟩) ∧ Below (w1.alloc (.cells #[.slice fa fs.length fc, .int .i64 m] 37)).heap.size (w1.alloc (.cells #[.slice fa fs.length fc, .int .i64 m] 37)) w') := walWrite_any ⟨.slice fa fs.length fc, fs, m⟩ _ (HRc1.out.below HBa.out)
  have HP : Hid ((⟨.slice fa fs.length fc, fs, m⟩ : Rc).p = (guF b).1) := hfp
  obtain ⟨E, HE⟩ := hid_ex (wrE ⟨.slice fa fs.length fc, fs, m⟩)
  obtain ⟨L, HL⟩ := hid_ex (wrB ⟨.slice fa fs.length fc, fs, m⟩)
  rw [← HE.out, ← HL.out] at HW
  clear hb1 hfn hfp hfr HG HB0 hf1 hf2
  go_wp2_with fail
  refine HW.out.mono ?_
  rintro e w2 ⟨vw, rfl, how, hb2⟩
  have HK2 : Hid (w2.heap[w.heap.size]? = some (.cells #[.slice none 0 0, .int .i64 0] 37)) := (hb2.block w.heap.size (by simp; omega)).trans ((Below.heap_alloc _ _ _ (by omega)).trans HK1.out)
  have HX2 : Hid (w2.heap[w1.heap.size]? = some (.cells #[.slice fa fs.length fc, .int .i64 m] 37)) := (hb2.block _ (by simp)).trans (World.alloc_heap_new _ _)
  have HB12 : Hid (Below w1.heap.size w1 w2) := HBa.out.trans (hb2.mono (by simp))
  have HB2 : Hid (Below w.heap.size w w2) := HB1.out.trans (HB12.out.mono (by omega))
  have HOw : Hid (Reads w2 vw L) := how.reads
  obtain ⟨wa, wc, hwv, _⟩ := how.form
  subst hwv
  clear hb2 how HW HK1
  have c0 := cell_rw' HK2.out 0 (by decide)
  have c1 := cell_rw' HK2.out 1 (by decide)
  have x0 := cell_rw' HX2.out 0 (by simp)
  have x1 := cell_rw' HX2.out 1 (by simp)
  have f0 : w2.frozen? ⟨w.heap.size, 0, none⟩ = false := by simp [World.frozen?, HK2.out]
  have f1 : w2.frozen? ⟨w.heap.size, 1, none⟩ = false := by simp [World.frozen?, HK2.out]
  simp only [List.getElem_toArray, List.getElem_cons_succ, List.getElem_cons_zero] at c0 c1 x0 x1
  by_cases hr : rightR (⟨.slice fa fs.length fc, fs, m⟩ : Rc).p m = true
  · have hE : E = 0 := by rw [HE.out]; unfold wrE; rw [if_pos hr]
    have HLr : Hid (L = wrR (guF b).1 (guF b).2) := by unfold Hid; rw [HL.out]; unfold wrB; rw [if_pos hr, HP.out, HM.out]
    have HRr : Hid (rightR (guF b).1 (guF b).2 = true) := by unfold Hid; rw [← HP.out, ← HM.out]; exact hr
    subst hE
    clear hr HL HE
    obtain ⟨q, HQ⟩ := hid_ex (decide (L = b))
    go_wp2_with fail
    refine (equal_any _ _ L b w2 HOw.out (HR.out.below HB2.out)).mono ?_
    rintro e w3 ⟨rfl, hw3⟩
    subst w3
    rw [← HQ.out]
    cases q with
    | false =>
      have HNo : Hid (¬ (rightR (guF b).1 (guF b).2 = true ∧ wrR (guF b).1 (guF b).2 = b)) := fun h => of_decide_eq_false HQ.out.symm (HLr.out.trans h.2)
      go_wp2_with fail
      have HK3 := cells_set (cells_set HK2.out 0 (.slice none 0 0)) 1 (.int .i64 0)
      refine bodyPost_ret (results_rt rfl _ _ w.heap.size _ rfl (run_loadVar_row _ w.heap.size _ _ _ (0, 0) _ HK3 Tryz.underlying37 rfl (by kernel_rfl))) rfl ?_
      exact rdw_no HNo.out ((HB2.out.setCell (p := ⟨w.heap.size, 0, none⟩) (Nat.le_refl _) _).setCell (p := ⟨w.heap.size, 1, none⟩) (Nat.le_refl _) _)
    | true =>
      have HYes : Hid (rdE b = 0 ∧ rdV b = guF b) := rd_yes HRr.out (HLr.out.symm.trans (of_decide_eq_true HQ.out.symm))
      go_wp2_with fail
      have HK3 := set2b HK2.out rfl (.slice fa fs.length fc) (.int .i64 m)
      refine bodyPost_ret (results_rt rfl _ _ w.heap.size _ rfl (run_loadVar_row _ w.heap.size _ _ _ (0, 0) _ HK3 Tryz.underlying37 rfl (by kernel_rfl))) rfl ?_
      have hok : ∀ B : World, (∀ k, w.heap.size ≤ k → k < ((w2.setCell ⟨w.heap.size, 0, none⟩ (.slice fa fs.length fc)).setCell ⟨w.heap.size, 1, none⟩ (.int .i64 m)).heap.size → B.heap[k]? = ((w2.setCell ⟨w.heap.size, 0, none⟩ (.slice fa fs.length fc)).setCell ⟨w.heap.size, 1, none⟩ (.int .i64 m)).heap[k]?) → RcOk B ⟨.slice fa fs.length fc, fs, m⟩ := by
        intro B hB
        refine ⟨HFN.out B fun k h1 h2 => ?_, hm1, hm2⟩
        have h1' : w.heap.size + 1 ≤ k := by simpa using h1
        rw [hB k (by omega) (by have := HB12.out.size; simp; omega), Go.heap_setCell_other _ _ _ _ (by show k ≠ w.heap.size; omega), Go.heap_setCell_other _ _ _ _ (by show k ≠ w.heap.size; omega), HB12.out.block k h2]
      exact ⟨(HB2.out.setCell (p := ⟨w.heap.size, 0, none⟩) (Nat.le_refl _) _).setCell (p := ⟨w.heap.size, 1, none⟩) (Nat.le_refl _) _, ⟨.slice fa fs.length fc, fs, m⟩, by rw [HYes.out.1]; rfl, hok _ (fun _ _ _ => rfl), hok, by rw [HYes.out.2]; exact HP.out, by rw [HYes.out.2]; exact HM.out⟩
  · have hE : E = 90 := by rw [HE.out]; unfold wrE; rw [if_neg hr]
    have HNo : Hid (¬ (rightR (guF b).1 (guF b).2 = true ∧ wrR (guF b).1 (guF b).2 = b)) := fun h => hr (by rw [HP.out, HM.out]; exact h.1)
    subst hE
    clear hr
    go_wp2_with fail
    have HK3 := cells_set (cells_set HK2.out 0 (.slice none 0 0)) 1 (.int .i64 0)
    refine bodyPost_ret (results_rt rfl _ _ w.heap.size _ rfl (run_loadVar_row _ w.heap.size _ _ _ (0, 0) _ HK3 Tryz.underlying37 rfl (by kernel_rfl))) rfl ?_
    exact rdw_no HNo.out ((HB2.out.setCell (p := ⟨w.heap.size, 0, none⟩) (Nat.le_refl _) _).setCell (p := ⟨w.heap.size, 1, none⟩) (Nat.le_refl _) _)
end Go.Proofs.YtegcomopcoapjaaGreatDoor

/- The sum's mathematics: the register as a natural number, of any length. -/
namespace Go.Proofs.YtegcomopcoapjaaGreatDoor

/-- One digit leaves the register. -/
def stp (c : Nat) : Nat := if c % 2 = 1 then (c / 2) ^^^ 2197175160 else c / 2
/-- So many digits leave it. -/
def stps : Nat → Nat → Nat
  | 0, c => c
  | n + 1, c => stps n (stp c)
/-- The register behind a byte. -/
def byt (c : Nat) (x : UInt8) : Nat := stps 8 (c ^^^ x.toNat)
/-- The register behind bytes. -/
def reg (c : Nat) : List UInt8 → Nat
  | [] => c
  | x :: l => reg (byt c x) l
theorem reg_nil (c : Nat) : reg c [] = c := rfl
theorem reg_cons (c : Nat) (x : UInt8) (l : List UInt8) : reg c (x :: l) = reg (byt c x) l := rfl
/-- The sum of what goes on. -/
def mor (s : Nat) (l : List UInt8) : Nat := 4294967295 - reg (4294967295 - s) l
/-- The value of bytes, the least one first. -/
def vle : List UInt8 → Nat
  | [] => 0
  | x :: l => x.toNat + 256 * vle l
/-- A number as four bytes, the least one first. -/
def four (n : Nat) : List UInt8 := [UInt8.ofNat n, UInt8.ofNat (n / 256), UInt8.ofNat (n / 65536), UInt8.ofNat (n / 16777216)]

theorem xor_lt32 {a b : Nat} (ha : a < 4294967296) (hb : b < 4294967296) : a ^^^ b < 4294967296 := Nat.xor_lt_two_pow (n := 32) ha hb
theorem stp_lt {c : Nat} (h : c < 4294967296) : stp c < 4294967296 := by
  unfold stp; split
  · exact xor_lt32 (by omega) (by omega)
  · omega
theorem stps_lt (n : Nat) : ∀ {c : Nat}, c < 4294967296 → stps n c < 4294967296 := by
  induction n with
  | zero => intro c h; exact h
  | succ n ih => intro c h; exact ih (stp_lt h)
theorem byt_lt {c : Nat} {x : UInt8} (h : c < 4294967296) : byt c x < 4294967296 := stps_lt 8 (xor_lt32 h (by have := x.toNat_lt; omega))
theorem reg_lt (l : List UInt8) : ∀ {c : Nat}, c < 4294967296 → reg c l < 4294967296 := by
  induction l with
  | nil => intro c h; exact h
  | cons x l ih => intro c h; exact ih (byt_lt h)
theorem stps_add (m n : Nat) : ∀ c, stps (m + n) c = stps n (stps m c) := by
  induction m with
  | zero => intro c; simp [stps]
  | succ m ih => intro c; rw [Nat.succ_add]; exact ih (stp c)
theorem stps_snoc (n : Nat) (c : Nat) : stps (n + 1) c = stp (stps n c) := by rw [stps_add]; rfl
theorem reg_append (a b : List UInt8) : ∀ c, reg c (a ++ b) = reg (reg c a) b := by
  induction a with
  | nil => intro c; rfl
  | cons x a ih => intro c; exact ih (byt c x)
theorem reg_snoc (a : List UInt8) (x : UInt8) (c : Nat) : reg c (a ++ [x]) = byt (reg c a) x := by rw [reg_append]; rfl
theorem mor_lt (s : Nat) (l : List UInt8) : mor s l < 4294967296 := by unfold mor; omega
theorem mor_append {s : Nat} (a b : List UInt8) : mor s (a ++ b) = mor (mor s a) b := by
  unfold mor
  rw [reg_append]
  have := reg_lt a (c := 4294967295 - s) (by omega)
  congr 1
  have e : 4294967295 - (4294967295 - reg (4294967295 - s) a) = reg (4294967295 - s) a := by omega
  rw [e]
theorem mor_nil {s : Nat} (h : s < 4294967296) : mor s [] = s := by unfold mor; rw [reg_nil]; omega

/-- The digits turned. -/
theorem not32 {a : Nat} (h : a < 4294967296) : 4294967295 - a = 4294967295 ^^^ a := by
  have e : (BitVec.allOnes 32 ^^^ BitVec.ofNat 32 a).toNat = (~~~ BitVec.ofNat 32 a).toNat := by rw [BitVec.allOnes_xor]
  rw [BitVec.toNat_xor, BitVec.toNat_not, BitVec.toNat_allOnes, BitVec.toNat_ofNat, Nat.mod_eq_of_lt (by omega)] at e
  simpa using e.symm
theorem xor_mod2 (a b : Nat) : (a ^^^ b) % 2 = (a % 2) ^^^ (b % 2) := Nat.xor_mod_two_pow (n := 1)
theorem xor_div2 (a b : Nat) : (a ^^^ b) / 2 = (a / 2) ^^^ (b / 2) := Nat.xor_div_two_pow (n := 1)
theorem xor4 (a b t : Nat) : (a ^^^ t) ^^^ (b ^^^ t) = a ^^^ b := by
  rw [Nat.xor_assoc, Nat.xor_comm b t, ← Nat.xor_assoc t t b, Nat.xor_self, Nat.zero_xor]
theorem stp_xor (a b : Nat) : stp (a ^^^ b) = stp a ^^^ stp b := by
  unfold stp
  rw [xor_mod2, xor_div2]
  rcases Nat.mod_two_eq_zero_or_one a with h | h <;> rcases Nat.mod_two_eq_zero_or_one b with k | k <;> simp only [h, k]
  · simp
  · simp [Nat.xor_assoc]
  · simp only [Nat.xor_zero, if_true]
    rw [if_neg (by decide), Nat.xor_assoc, Nat.xor_assoc, Nat.xor_comm (b / 2)]
  · rw [Nat.xor_self, if_neg (by decide), if_pos trivial, if_pos trivial, xor4]
theorem stps_xor (n : Nat) : ∀ a b, stps n (a ^^^ b) = stps n a ^^^ stps n b := by
  induction n with
  | zero => intro a b; rfl
  | succ n ih => intro a b; show stps n (stp (a ^^^ b)) = _; rw [stp_xor]; exact ih _ _
theorem stp_two (y : Nat) : stp (2 * y) = y := by
  unfold stp; rw [if_neg (by omega)]; omega
theorem stps_pow (n : Nat) : ∀ y, stps n (2 ^ n * y) = y := by
  induction n with
  | zero => intro y; simp [stps]
  | succ n ih => intro y; show stps n (stp _) = y; rw [Nat.pow_succ, Nat.mul_comm (2 ^ n) 2, Nat.mul_assoc, stp_two]; exact ih y
theorem low8 (x : UInt8) (V : Nat) : x.toNat + 256 * V = x.toNat ^^^ (2 ^ 8 * V) := by
  have h := x.toNat_lt
  have e : x.toNat ^^^ (2 ^ 8 * V) = (2 ^ 8 * V) ||| x.toNat := by
    apply Nat.eq_of_testBit_eq
    intro i
    rw [Nat.testBit_xor, Nat.testBit_or, Nat.testBit_two_pow_mul]
    by_cases hi : i < 8
    · simp [Nat.not_le.2 hi]
    · have : x.toNat.testBit i = false := Nat.testBit_lt_two_pow (Nat.lt_of_lt_of_le h (Nat.pow_le_pow_right (by decide) (by omega : 8 ≤ i)))
      simp [this]
  rw [e, ← Nat.two_pow_add_eq_or_of_lt h]; omega
/-- THE REGISTER: the bytes' value, xor'ed in at once. -/
theorem reg_eq (l : List UInt8) : ∀ c, reg c l = stps (8 * l.length) (c ^^^ vle l) := by
  induction l with
  | nil => intro c; rw [reg_nil, vle, Nat.xor_zero]; rfl
  | cons x l ih =>
    intro c
    have e1 : 8 * (x :: l).length = 8 + 8 * l.length := by simp; omega
    have e2 : stps 8 (c ^^^ vle (x :: l)) = byt c x ^^^ vle l := by
      rw [vle, low8, ← Nat.xor_assoc, stps_xor 8 (c ^^^ x.toNat), stps_pow, byt]
    rw [reg_cons, ih, e1, stps_add, e2]
theorem stp_zero : stp 0 = 0 := by decide
theorem stp_ne {c : Nat} (h : c < 4294967296) (h0 : c ≠ 0) : stp c ≠ 0 := by
  unfold stp
  split
  · intro e
    have e2 : c / 2 = 2197175160 := by
      have := congrArg (· ^^^ 2197175160) e
      simp only [Nat.zero_xor] at this
      rwa [Nat.xor_assoc, Nat.xor_self, Nat.xor_zero] at this
    omega
  · omega
theorem stps_ne (n : Nat) : ∀ {c : Nat}, c < 4294967296 → c ≠ 0 → stps n c ≠ 0 := by
  induction n with
  | zero => intro c _ h; exact h
  | succ n ih => intro c h h0; exact ih (stp_lt h) (stp_ne h h0)
end Go.Proofs.YtegcomopcoapjaaGreatDoor

/- The contracts of crc.More and crc.Sum. -/
namespace Go.Proofs.YtegcomopcoapjaaGreatDoor
open Go.RowKit

theorem x_not {c : Nat} (h : c < 4294967296) : bits .xor .u32 IntKind.u32.max (c : Int) = ((4294967295 - c : Nat) : Int) := by
  have := u32_xor_nat 4294967295 c (by decide) h
  rw [← not32 h] at this
  exact this
theorem x_xor {c d : Nat} (h : c < 4294967296) (hd : d < 4294967296) : bits .xor .u32 (c : Int) (d : Int) = ((c ^^^ d : Nat) : Int) := u32_xor_nat c d h hd
theorem x_and {c : Nat} (h : c < 4294967296) : bits .and .u32 (c : Int) 1 = ((c % 2 : Nat) : Int) := by
  have := u32_and_nat c 1 h (by decide)
  rw [Nat.and_one_is_mod] at this
  exact this
theorem x_turn {c : Nat} (h : c < 4294967296) : bits .xor .u32 ((c : Int) / 2) 2197175160 = ((c / 2 ^^^ 2197175160 : Nat) : Int) := u32_xor_nat (c / 2) 2197175160 (by omega) (by decide)

set_option maxRecDepth 100000 in
set_option maxHeartbeats 1000000 in
theorem more_some (s : Nat) (hs : s < 4294967296) (b off cap : Nat) (l : List UInt8) (hl : l.length ≤ maxLen) (w : World)
    (hc : ∀ j (h : j < l.length), w.cell? ⟨b, off + j, none⟩ = some (bc l[j])) :
    Calls Tryz.prog 62 #[.int .u32 (s : Int), .slice (some ⟨b, off, none⟩) l.length cap] w fun e w' => e = .returned (.int .u32 (mor s l : Nat)) ∧ w' = w := by
  unfold maxLen at hl
  have x0 := x_not hs
  have HC : Hid (∀ j (h : j < l.length), w.cell? ⟨b, off + j, none⟩ = some (bc l[j])) := hc
  clear hc
  go_enter Tryz.func62, Tryz.ntmps62
  go_wp2_with fail
  go_loop [5, 13] (fun r i => ∃ k c : Nat, k ≤ l.length ∧ i = .int .i64 k ∧ c < 4294967296 ∧ r = .int .u32 (c : Int) ∧ Hid (c = reg (4294967295 - s) (l.take k))) (fun _ i => l.length - (intOf i).toNat)
  case atStart => exact ⟨0, _, Nat.zero_le _, rfl, by omega, rfl, rfl⟩
  case round =>
    obtain ⟨k, c, hk, rfl, hcl, rfl, HE⟩ := hrel
    by_cases hlt : k < l.length
    · have hcell := HC.out k hlt
      have hx := x_xor (c := c) (d := l[k].toNat) hcl (by have := l[k].toNat_lt; omega)
      have hxb : l[k].toNat < 256 := l[k].toNat_lt
      unfold bc at hcell
      go_wp2_with fail
      go_loop [5, 21] (fun r i => ∃ m d : Nat, m ≤ 8 ∧ i = .int .i64 m ∧ d < 4294967296 ∧ r = .int .u32 (d : Int) ∧ Hid (d = stps m (c ^^^ l[k].toNat))) (fun _ i => 8 - (intOf i).toNat)
      case atStart => exact ⟨0, _, by omega, rfl, xor_lt32 hcl (by have := l[k].toNat_lt; omega), rfl, rfl⟩
      case round =>
        obtain ⟨m, d, hm, rfl, hd, rfl, HD⟩ := hrel
        by_cases hm8 : m < 8
        · have y0 := x_and hd
          have y1 := x_turn hd
          rcases Nat.mod_two_eq_zero_or_one d with h2 | h2
          · rw [h2] at y0
            have hs2 : stp d = d / 2 := by unfold stp; rw [if_neg (by omega)]
            have HS : Hid (d / 2 = stps (m + 1) (c ^^^ l[k].toNat)) := by unfold Hid; rw [stps_snoc, ← HD.out, hs2]
            clear hs2 h2
            go_wp2_with fail
            go_round
            case rel => exact ⟨m + 1, d / 2, by omega, by go_num, by omega, by go_num, HS⟩
            case measure => simp [intOf]; omega
          · rw [h2] at y0
            have hs2 : stp d = d / 2 ^^^ 2197175160 := by unfold stp; rw [if_pos h2]
            have HS : Hid (d / 2 ^^^ 2197175160 = stps (m + 1) (c ^^^ l[k].toNat)) := by unfold Hid; rw [stps_snoc, ← HD.out, hs2]
            have hlt2 := xor_lt32 (a := d / 2) (b := 2197175160) (by omega) (by omega)
            clear hs2 h2
            go_wp2_with fail
            go_round
            case rel => exact ⟨m + 1, d / 2 ^^^ 2197175160, by omega, by go_num, hlt2, rfl, HS⟩
            case measure => simp [intOf]; omega
        · have HS : Hid (d = reg (4294967295 - s) (l.take (k + 1))) := by
            unfold Hid
            have e8 : m = 8 := by omega
            rw [List.take_succ_eq_append_getElem hlt, reg_snoc, ← HE.out, HD.out, e8]
            rfl
          go_wp2_with fail
          go_round
          case rel => exact ⟨k + 1, d, by omega, by go_num, hd, rfl, HS⟩
          case measure => simp [intOf]; omega
    · have hkl : k = l.length := by omega
      have x1 := x_not hcl
      have HS : Hid (4294967295 - c = mor s l) := by
        unfold Hid mor
        rw [HE.out, hkl, List.take_length]
      clear hkl
      go_wp2_with fail
      go_ret
      exact ⟨by rw [HS.out]; rfl, rfl⟩
theorem more_none (s : Nat) (hs : s < 4294967296) (a : Option Addr) (cap : Nat) (w : World) :
    Calls Tryz.prog 62 #[.int .u32 (s : Int), .slice a 0 cap] w fun e w' => e = .returned (.int .u32 (mor s [] : Nat)) ∧ w' = w := by
  have x0 := x_not hs
  have x1 := x_not (c := 4294967295 - s) (by omega)
  have HS : Hid (4294967295 - (4294967295 - s) = mor s []) := rfl
  go_enter Tryz.func62, Tryz.ntmps62
  go_wp2_with fail
  go_loop [5, 13] (fun r i => i = .int .i64 0 ∧ r = .int .u32 ((4294967295 - s : Nat) : Int)) (fun _ _ => 0)
  case atStart => exact ⟨rfl, rfl⟩
  case round =>
    obtain ⟨rfl, rfl⟩ := hrel
    go_wp2_with fail
    go_ret
    exact ⟨by rw [HS.out]; rfl, rfl⟩
theorem more_any (s : Nat) (hs : s < 4294967296) (v : Value) (l : List UInt8) (w : World) (h : Reads w v l) :
    Calls Tryz.prog 62 #[.int .u32 (s : Int), v] w fun e w' => e = .returned (.int .u32 (mor s l : Nat)) ∧ w' = w := by
  rcases h with ⟨rfl, a, cap, rfl, _⟩ | ⟨b, off, cap, rfl, h2, h3, h4, h5, h6⟩
  · exact more_none s hs a cap w
  · exact more_some s hs b off cap l (by omega) w h6
theorem sum_any (v : Value) (l : List UInt8) (w : World) (h : Reads w v l) :
    Calls Tryz.prog 46 #[v] w fun e w' => e = .returned (.int .u32 (mor 0 l : Nat)) ∧ w' = w := by
  obtain ⟨a, cap, rfl, _⟩ := h.form
  go_enter Tryz.func46, Tryz.ntmps46
  go_wp2_with fail
  refine (more_any 0 (by decide) _ l _ h).mono ?_
  rintro e w' ⟨rfl, hw⟩
  subst w'
  clear h
  go_wp2_with fail
  go_ret
  exact ⟨rfl, rfl⟩
end Go.Proofs.YtegcomopcoapjaaGreatDoor

/- The contracts of crc.number and crc.appendNumber. -/
namespace Go.Proofs.YtegcomopcoapjaaGreatDoor
open Go.RowKit

theorem vle_snoc (l : List UInt8) (x : UInt8) : vle (l ++ [x]) = vle l + x.toNat * 2 ^ (8 * l.length) := by
  induction l with
  | nil => simp [vle]
  | cons y l ih =>
    simp only [List.cons_append, vle, ih, List.length_cons]
    rw [show 8 * (l.length + 1) = 8 + 8 * l.length by omega, Nat.pow_add, Nat.mul_add, Nat.add_assoc]
    congr 1
    rw [← Nat.mul_assoc, ← Nat.mul_assoc, Nat.mul_comm (x.toNat) (2 ^ 8)]
theorem vle_lt (l : List UInt8) : vle l < 2 ^ (8 * l.length) := by
  induction l with
  | nil => simp [vle]
  | cons y l ih =>
    have := y.toNat_lt
    rw [vle, List.length_cons, show 8 * (l.length + 1) = 8 + 8 * l.length by omega, Nat.pow_add]
    omega
theorem x_or {l : List UInt8} {x : UInt8} (h : l.length < 4) : bits .or .u32 (vle l : Int) ((x.toNat * 2 ^ (8 * l.length) : Nat) : Int) = ((vle (l ++ [x]) : Nat) : Int) := by
  have hv := vle_lt l
  have hx := x.toNat_lt
  have hp : 2 ^ (8 * l.length) ≤ 2 ^ 24 := Nat.pow_le_pow_right (by decide) (by omega)
  have hm : x.toNat * 2 ^ (8 * l.length) ≤ 255 * 2 ^ 24 := Nat.mul_le_mul (by omega) hp
  rw [u32_or_nat _ _ (by omega) (by omega), vle_snoc, Nat.or_comm, Nat.mul_comm x.toNat, ← Nat.two_pow_add_eq_or_of_lt hv, Nat.add_comm]
set_option maxRecDepth 100000 in
set_option maxHeartbeats 1000000 in
theorem number_some (b off cap : Nat) (l : List UInt8) (hl : l.length ≤ 4) (w : World)
    (hc : ∀ j (h : j < l.length), w.cell? ⟨b, off + j, none⟩ = some (bc l[j])) :
    Calls Tryz.prog 74 #[.slice (some ⟨b, off, none⟩) l.length cap] w fun e w' => e = .returned (.int .u32 (vle l : Nat)) ∧ w' = w := by
  have HC : Hid (∀ j (h : j < l.length), w.cell? ⟨b, off + j, none⟩ = some (bc l[j])) := hc
  clear hc
  go_enter Tryz.func74, Tryz.ntmps74
  go_wp2_with fail
  go_loop [3, 8] (fun r i => ∃ k c : Nat, k ≤ l.length ∧ i = .int .i64 k ∧ r = .int .u32 (c : Int) ∧ Hid (c = vle (l.take k))) (fun _ i => l.length - (intOf i).toNat)
  case atStart => exact ⟨0, 0, Nat.zero_le _, rfl, rfl, rfl⟩
  case round =>
    obtain ⟨k, c, hk, rfl, rfl, HE⟩ := hrel
    by_cases hlt : k < l.length
    · have hcell := HC.out k hlt
      have hxb : l[k].toNat < 256 := l[k].toNat_lt
      have hkl : (l.take k).length = k := by simp; omega
      have hx := x_or (l := l.take k) (x := l[k]) (by omega)
      rw [← List.take_succ_eq_append_getElem hlt, ← HE.out, hkl] at hx
      unfold bc at hcell
      have h4 : (8 : Int) * (k : Int) ≤ 24 := by omega
      have HX : Hid (bits .or .u32 (c : Int) ((l[k].toNat : Int) * 2 ^ (8 * k) % 4294967296) = ((vle (l.take (k + 1)) : Nat) : Int)) := by
        have hp : 2 ^ (8 * k) ≤ 2 ^ 24 := Nat.pow_le_pow_right (by decide) (by omega)
        have hm : l[k].toNat * 2 ^ (8 * k) ≤ 255 * 2 ^ 24 := Nat.mul_le_mul (by omega) hp
        have e : ((l[k].toNat : Int) * 2 ^ (8 * k) % 4294967296) = ((l[k].toNat * 2 ^ (8 * k) : Nat) : Int) := by
          rw [show ((l[k].toNat : Int) * 2 ^ (8 * k)) = ((l[k].toNat * 2 ^ (8 * k) : Nat) : Int) by push_cast; rfl]
          generalize l[k].toNat * 2 ^ (8 * k) = q at *
          omega
        rw [Hid, e]; exact hx
      clear hkl hx
      go_wp2_with fail
      go_round
      case rel => exact ⟨k + 1, _, by omega, by go_num, by rw [HX.out], rfl⟩
      case measure => simp [intOf]; omega
    · have hkl : k = l.length := by omega
      have HS : Hid (c = vle l) := by
        unfold Hid
        rw [HE.out, hkl, List.take_length]
      clear hkl
      go_wp2_with fail
      go_ret
      exact ⟨by rw [HS.out]; rfl, rfl⟩
theorem number_none (a : Option Addr) (cap : Nat) (w : World) :
    Calls Tryz.prog 74 #[.slice a 0 cap] w fun e w' => e = .returned (.int .u32 (vle [] : Nat)) ∧ w' = w := by
  go_enter Tryz.func74, Tryz.ntmps74
  go_wp2_with fail
  go_loop [3, 8] (fun r i => i = .int .i64 0 ∧ r = .int .u32 0) (fun _ _ => 0)
  case atStart => exact ⟨rfl, rfl⟩
  case round =>
    obtain ⟨rfl, rfl⟩ := hrel
    go_wp2_with fail
    go_ret
    exact ⟨rfl, rfl⟩
theorem number_anyV (v : Value) (l : List UInt8) (hl : l.length ≤ 4) (w : World) (h : Reads w v l) :
    Calls Tryz.prog 74 #[v] w fun e w' => e = .returned (.int .u32 (vle l : Nat)) ∧ w' = w := by
  rcases h with ⟨rfl, a, cap, rfl, _⟩ | ⟨b, off, cap, rfl, h2, h3, h4, h5, h6⟩
  · exact number_none a cap w
  · exact number_some b off cap l hl w h6
/-- A number's bytes, so many, the least one first. -/
def frs (n : Nat) : Nat → List UInt8
  | 0 => []
  | k + 1 => frs n k ++ [UInt8.ofNat (n / 2 ^ (8 * k))]
theorem frs_len (n k : Nat) : (frs n k).length = k := by
  induction k with
  | zero => rfl
  | succ k ih => simp [frs, ih]
theorem frs_four (n : Nat) : frs n 4 = four n := by simp [frs, four]
set_option maxRecDepth 100000 in
set_option maxHeartbeats 1000000 in
theorem appendNumber_any (v : Value) (L : List UInt8) (n : Nat) (base : Nat) (w : World) (hown : Own w base v L) (hL : L.length ≤ 1000000) (hbase : base ≤ w.heap.size) :
    Calls Tryz.prog 45 #[v, .int .u32 (n : Int)] w fun e w' => ∃ v', e = .returned v' ∧ Own w' base v' (L ++ four n) ∧ Below base w w' := by
  go_enter Tryz.func45, Tryz.ntmps45
  go_wp2_with fail
  go_loopw [0, 6] (fun x i wr => ∃ (k : Nat) (M : List UInt8), k ≤ 4 ∧ i = .int .i64 (k : Int) ∧ Hid (M = L ++ frs n k) ∧ Own wr base x M ∧ Hid (Below base w wr)) (fun _ i _ => 4 - (intOf i).toNat)
  case atStart => exact ⟨0, L, by omega, rfl, by rw [frs, List.append_nil]; rfl, hown, Below.refl _ _⟩
  case round =>
    obtain ⟨k, M, hk, rfl, HM, HR, HB⟩ := hrel
    have hsz := HB.out.size
    have hml : M.length = L.length + k := by rw [HM.out, List.length_append, frs_len]
    by_cases hlt : k < 4
    · have h4 : (8 : Int) * (k : Int) ≤ 24 := by omega
      have HU : Hid (Value.int .u8 ((n : Int) / 2 ^ (8 * k) % 256) = bc (UInt8.ofNat (n / 2 ^ (8 * k)))) := by
        unfold Hid bc
        rw [UInt8.toNat_ofNat']
        push_cast; rfl
      have HN : Hid (M ++ [UInt8.ofNat (n / 2 ^ (8 * k))] = L ++ frs n (k + 1)) := by rw [HM.out, frs, List.append_assoc]; rfl
      generalize hM' : M ++ [UInt8.ofNat (n / 2 ^ (8 * k))] = M' at HN
      have HM' : Hid (M' = M ++ [UInt8.ofNat (n / 2 ^ (8 * k))]) := hM'.symm
      clear hM'
      go_wp2_with (at_builtin; refine wpList_app1 rfl _ _ rfl base _ M (UInt8.ofNat (n / 2 ^ (8 * k))) M' HM'.out HU.out rfl rfl HR (by omega) (by omega) ?_)
      intro v' w1 hown1 hb1
      have HB1 : Hid (Below base w w1) := HB.out.trans hb1.out
      clear hb1 HB HM'
      go_wp2_with fail
      go_roundw
      case rel => exact ⟨k + 1, M', by omega, by go_num, HN, hown1, HB1⟩
      case measure => simp [intOf]; omega
    · have HK : Hid (M = L ++ four n) := by
        have hk4 : k = 4 := by omega
        rw [HM.out, hk4, frs_four]; rfl
      clear hml
      go_wp2_with fail
      go_ret
      exact ⟨_, rfl, by rw [← HK.out]; exact HR, HB.out⟩
end Go.Proofs.YtegcomopcoapjaaGreatDoor
