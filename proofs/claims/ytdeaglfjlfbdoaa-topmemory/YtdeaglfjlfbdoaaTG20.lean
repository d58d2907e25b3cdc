/- K9 K11 TM2, joined. -/
import Derived.Test.YtdeaglfjlfbdoaaTG10
import Derived.Test.YtdeaglfjlfbdoaaTG11
import Derived.Test.YtdeaglfjlfbdoaaTG18
import Derived.Test.YtdeaglfjlfbdoaaTG19
import Derived.Deep.Slices
import Derived.ProofKit
import Derived.OpenShut
import Derived.Lib.SmallJoins
/- Keys' bytes stand as the keys do: no program in sight. -/
namespace Go.Proofs.Ytdeaglfjlfbdoaa

theorem less_irr (l : List UInt8) : Op.bytesLess l l = false := by
  induction l with
  | nil => rfl
  | cons x l ih => rw [less_same]; exact ih
theorem less_asym (l : List UInt8) : ∀ m, Op.bytesLess l m = true → Op.bytesLess m l = false := by
  induction l with
  | nil => intro m _; cases m <;> rfl
  | cons x l ih =>
    intro m h
    cases m with
    | nil => simp [Op.bytesLess] at h
    | cons y m =>
      rcases Nat.lt_trichotomy x.toNat y.toNat with h1 | h1 | h1
      · exact less_gt _ _ h1
      · obtain rfl := u8_eq h1
        rw [less_same] at h ⊢; exact ih m h
      · rw [less_gt _ _ h1] at h; simp at h
theorem less_tot (l : List UInt8) : ∀ m, l ≠ m → Op.bytesLess l m = false → Op.bytesLess m l = true := by
  induction l with
  | nil => intro m h1 h2; cases m with
    | nil => exact absurd rfl h1
    | cons y m => simp [Op.bytesLess] at h2
  | cons x l ih =>
    intro m h1 h2
    cases m with
    | nil => rfl
    | cons y m =>
      rcases Nat.lt_trichotomy x.toNat y.toNat with h3 | h3 | h3
      · rw [less_lt _ _ h3] at h2; simp at h2
      · obtain rfl := u8_eq h3
        rw [less_same] at h2 ⊢; exact ih m (fun e => h1 (by rw [e])) h2
      · exact less_lt _ _ h3
theorem ba_eq {s t : ByteArray} : s.data.toList = t.data.toList ↔ s = t := by
  constructor
  · intro h
    cases s; cases t
    simp at h
    rw [h]
  · intro h; rw [h]
theorem cmpS_zero {s t : ByteArray} : cmpS s t = 0 ↔ s = t := by
  unfold cmpS
  rw [ByteArray.toList_eq, ByteArray.toList_eq]
  constructor
  · intro h
    by_cases h1 : Op.bytesLess s.data.toList t.data.toList = true
    · rw [if_pos h1] at h; simp at h
    · rw [if_neg h1] at h
      by_cases h2 : s.data.toList = t.data.toList
      · exact ba_eq.1 h2
      · rw [if_neg h2] at h; simp at h
  · rintro rfl
    rw [if_neg (by rw [less_irr]; decide), if_pos rfl]
theorem cmpS_neg {s t : ByteArray} : cmpS s t < 0 ↔ Op.bytesLess s.data.toList t.data.toList = true := by
  unfold cmpS
  rw [ByteArray.toList_eq, ByteArray.toList_eq]
  by_cases h1 : Op.bytesLess s.data.toList t.data.toList = true
  · rw [if_pos h1]; simp [h1]
  · rw [if_neg h1]; split <;> simp [h1]
theorem cmpL_zero (L : List ByteArray) : ∀ M, cmpL L M = 0 ↔ L = M := by
  induction L with
  | nil => intro M; cases M <;> simp [cmpL]
  | cons x L ih =>
    intro M
    cases M with
    | nil => simp [cmpL]
    | cons y M =>
      rw [cmpL]
      by_cases h : cmpS x y = 0
      · rw [if_neg (by simpa using h), ih]
        have := cmpS_zero.1 h
        subst this; simp
      · rw [if_pos h]
        constructor
        · intro h'; exact absurd h' h
        · intro h'; simp at h'; exact absurd (cmpS_zero.2 h'.1) h
theorem jb_less (L : List ByteArray) : ∀ M A B, Op.bytesLess (jb L ++ 0 :: A) (jb M ++ 0 :: B) = if cmpL L M = 0 then Op.bytesLess A B else decide (cmpL L M < 0) := by
  induction L with
  | nil =>
    intro M A B
    cases M with
    | nil => show Op.bytesLess (0 :: A) (0 :: B) = _; rw [less_same]; rfl
    | cons y M => rw [jb_cons]; show Op.bytesLess (0 :: A) (1 :: _) = _; rw [less_lt _ _ (by decide)]; rfl
  | cons x L ih =>
    intro M A B
    cases M with
    | nil => rw [jb_cons]; show Op.bytesLess (1 :: _) (0 :: B) = _; rw [less_gt _ _ (by decide)]; rfl
    | cons y M =>
      rw [jb_cons, jb_cons, List.cons_append, List.cons_append, less_same]
      unfold tx
      simp only [List.append_assoc, List.cons_append, List.nil_append]
      rw [tx_less, ih, cmpL]
      by_cases h : x = y
      · subst h
        rw [if_pos rfl, cmpS_zero.2 rfl]; simp
      · have h0 : ¬ cmpS x y = 0 := fun e => h (cmpS_zero.1 e)
        rw [if_neg (fun e => h (ba_eq.1 e)), if_pos h0, if_neg h0]
        rw [Bool.eq_iff_iff, decide_eq_true_iff, cmpS_neg]
theorem jb_inj (L : List ByteArray) : ∀ M A B, jb L ++ 0 :: A = jb M ++ 0 :: B → L = M ∧ A = B := by
  induction L with
  | nil =>
    intro M A B h
    cases M with
    | nil => have h' : (0 : UInt8) :: A = 0 :: B := h; simp at h'; exact ⟨rfl, h'⟩
    | cons y M => rw [jb_cons] at h; have h' : (0 : UInt8) :: A = 1 :: _ := h; simp at h'
  | cons x L ih =>
    intro M A B h
    cases M with
    | nil => rw [jb_cons] at h; have h' : (1 : UInt8) :: _ = 0 :: B := h; simp at h'
    | cons y M =>
      rw [jb_cons, jb_cons, List.cons_append, List.cons_append] at h
      simp only [List.cons.injEq, true_and] at h
      unfold tx at h
      simp only [List.append_assoc, List.cons_append, List.nil_append] at h
      obtain ⟨h1, h2⟩ := tx_inj _ _ _ _ h
      obtain ⟨h3, h4⟩ := ih _ _ _ h2
      exact ⟨by rw [ba_eq.1 h1, h3], h4⟩
theorem bv_snoc (l : List UInt8) (x : UInt8) : bv (l ++ [x]) = bv l * 256 + x.toNat := by
  induction l with
  | nil => simp [bv]
  | cons y l ih =>
    simp only [List.cons_append, bv, ih, List.length_append, List.length_cons, List.length_nil, Nat.pow_succ, Nat.add_mul]
    rw [← Nat.mul_assoc, Nat.add_assoc]
theorem tail_less (f g f' g' : Int) (h : 0 ≤ f ∧ f ≤ 1099511627776 ∧ 0 ≤ g ∧ g ≤ 3) (h' : 0 ≤ f' ∧ f' ≤ 1099511627776 ∧ 0 ≤ g' ∧ g' ≤ 3) :
    Op.bytesLess (nb f ++ [UInt8.ofNat g.toNat]) (nb f' ++ [UInt8.ofNat g'.toNat]) = decide (f < f' ∨ f = f' ∧ g < g') := by
  rw [less_bv _ _ (by simp [nb_len]), bv_snoc, bv_snoc]
  have e1 := bv_nb f (by omega) (by omega)
  have e2 := bv_nb f' (by omega) (by omega)
  have e3 : (UInt8.ofNat g.toNat).toNat = g.toNat := by rw [UInt8.toNat_ofNat']; omega
  have e4 : (UInt8.ofNat g'.toNat).toNat = g'.toNat := by rw [UInt8.toNat_ofNat']; omega
  rw [e3, e4]
  apply decide_eq_decide.2
  omega
theorem right_facts {L : List ByteArray} {f g : Int} (h : rightBK L f g = true) : mayB L = true ∧ 0 ≤ f ∧ f ≤ 1099511627776 ∧ 0 ≤ g ∧ g ≤ 3 := by
  unfold rightBK at h
  obtain ⟨h1, h2⟩ := Bool.and_eq_true_iff.1 h
  exact ⟨h1, of_decide_eq_true h2⟩
theorem kb_form (L : List ByteArray) (f g : Int) : kb L f g = jb L ++ 0 :: (nb f ++ [UInt8.ofNat g.toNat]) := by
  unfold kb jn; simp
theorem or3_neg (c f g f' g' : Int) : (or3 c (cmpI f f') (cmpI g g') < 0) ↔ (c < 0 ∨ c = 0 ∧ (f < f' ∨ f = f' ∧ g < g')) := by
  unfold or3 cmpI
  repeat' split
  all_goals omega
/-- IN ORDER. -/
theorem kb_less (a b : Ky) (ha : rightBK a.L a.f a.g = true) (hb : rightBK b.L b.f b.g = true) : Op.bytesLess (kb a.L a.f a.g) (kb b.L b.f b.g) = lessK a b := by
  rw [kb_form, kb_form, jb_less, tail_less _ _ _ _ (right_facts ha).2 (right_facts hb).2]
  unfold lessK
  by_cases h : cmpL a.L b.L = 0
  · rw [if_pos h]
    apply decide_eq_decide.2
    rw [or3_neg]; omega
  · rw [if_neg h]
    apply decide_eq_decide.2
    rw [or3_neg]; omega
theorem kb_len (L : List ByteArray) (f g : Int) : (kb L f g).length = (jn L).length + 9 := by unfold kb; simp [nb_len]
/-- No one's are another one's front. -/
theorem kb_front (a b : Ky) (h : (kb b.L b.f b.g).take (kb a.L a.f a.g).length = kb a.L a.f a.g) : (kb b.L b.f b.g).length ≤ (kb a.L a.f a.g).length := by
  have h2 : kb a.L a.f a.g ++ (kb b.L b.f b.g).drop (kb a.L a.f a.g).length = kb b.L b.f b.g := by
    conv => lhs; lhs; rw [← h]
    rw [List.take_append_drop]
  generalize hC : (kb b.L b.f b.g).drop (kb a.L a.f a.g).length = C at h2
  rw [kb_form, kb_form, List.append_assoc, List.cons_append] at h2
  obtain ⟨h3, h4⟩ := jb_inj _ _ _ _ h2
  have := congrArg List.length h4
  simp [nb_len] at this
  have h5 := congrArg List.length hC
  rw [List.length_drop] at h5
  omega
end Go.Proofs.Ytdeaglfjlfbdoaa

/- The contract of key.Read. -/
namespace Go.Proofs.Ytdeaglfjlfbdoaa
open Go.RowKit

/-- What Read tells. -/
def rdF (l : List UInt8) : Option (List ByteArray × Int × Int) :=
  match pdF 5 l [] with
  | none => none
  | some (D, r) => if r.length = 9 then (if rightBK D (rnF r).1 ((r.getD 8 0).toNat : Int) = true then some (D, (rnF r).1, ((r.getD 8 0).toNat : Int)) else none) else none
theorem rdF_none {l : List UInt8} (h : pdF 5 l [] = none) : rdF l = none := by unfold rdF; rw [h]
theorem rdF_some {l r : List UInt8} {D : List ByteArray} (h : pdF 5 l [] = some (D, r)) : rdF l = if r.length = 9 then (if rightBK D (rnF r).1 ((r.getD 8 0).toNat : Int) = true then some (D, (rnF r).1, ((r.getD 8 0).toNat : Int)) else none) else none := by unfold rdF; rw [h]
theorem kfro {w w' : World} {x y z : Value} {t : TypeId} (h : Below (w.heap.size + 1) (w.alloc (.cells #[x, y, z] t)) w') : w'.frozen? ⟨w.heap.size, 0, none⟩ = false ∧ w'.frozen? ⟨w.heap.size, 1, none⟩ = false ∧ w'.frozen? ⟨w.heap.size, 2, none⟩ = false := by
  refine ⟨(h.frozen (p := ⟨w.heap.size, 0, none⟩) (by simp)).trans (by simp), (h.frozen (p := ⟨w.heap.size, 1, none⟩) (by simp)).trans (by simp), (h.frozen (p := ⟨w.heap.size, 2, none⟩) (by simp)).trans (by simp)⟩
theorem set3_below {B : Nat} {w w' : World} {b : Nat} {x y z : Value} (h : Below B w w') (hb : B ≤ b) : Below B w (((w'.setCell ⟨b, 0, none⟩ x).setCell ⟨b, 1, none⟩ y).setCell ⟨b, 2, none⟩ z) := ((h.setCell hb x).setCell hb y).setCell hb z
theorem SReads.set {w : World} {v : Value} {L : List ByteArray} {b o : Nat} {x : Value} (h : SReads w v L) (hb : ∀ k, v.ownBlock = some k → b < k) : SReads (w.setCell ⟨b, o, none⟩ x) v L := by
  rcases h with h | ⟨b', off, cap, h1, h2, h3, h4, h5, h6, h7⟩
  · exact .inl h
  · have hlt := hb b' (by rw [h1]; rfl)
    refine .inr ⟨b', off, cap, h1, h2, h3, h4, by simpa using h5, fun j hj => ?_, h7⟩
    exact (World.cell?_of_block (w := w) (w' := w.setCell ⟨b, o, none⟩ x) (a := ⟨b', off + j, none⟩) (Below.heap_setCell w ⟨b, o, none⟩ x b' (by simp; omega))).trans (h6 j hj)
theorem rnF9 {r : List UInt8} (h : r.length = 9) : (rnF r).2.1 = 8 ∧ (rnF r).2.2 = 0 ∧ -9223372036854775808 ≤ (rnF r).1 ∧ (rnF r).1 ≤ 9223372036854775807 := by
  unfold rnF
  rw [if_neg (by omega)]
  have hb := beval8 ((r.take 8).map fun x => (x.toNat : Int)) (by simp; omega) (by
    intro x hx
    obtain ⟨y, _, rfl⟩ := List.mem_map.1 hx
    have := y.toNat_lt
    omega)
  refine ⟨rfl, rfl, ?_, ?_⟩ <;> simp only <;> omega
set_option maxRecDepth 100000 in
set_option maxHeartbeats 2000000 in
theorem read_own (v : Value) (l : List UInt8) (hl : l.length ≤ 1000) (w : World) (h : Reads w v l) :
    Calls Try.prog 13 #[v] w fun e w' => (∃ D f g vd, rdF l = some (D, f, g) ∧ e = .returned (.tuple #[.agg #[vd, .int .i64 f, .int .i64 g], .int .i64 0]) ∧ KLies ⟨vd, D, f, g⟩ w' ∧ (∀ k, vd.ownBlock = some k → w.heap.size < k) ∧ Below w.heap.size w w') ∨ (rdF l = none ∧ e = .returned (.tuple #[.agg #[.slice none 0 0, .int .i64 0, .int .i64 0], .int .i64 40]) ∧ Below w.heap.size w w') := by
  obtain ⟨a, cap, rfl, _⟩ := h.form
  have HR0 := h.alloc (.cells #[.slice none 0 0, .int .i64 0, .int .i64 0] 38)
  have HX0 : Hid (Below (w.heap.size + 1) (w.alloc (.cells #[.slice none 0 0, .int .i64 0, .int .i64 0] 38)) (w.alloc (.cells #[.slice none 0 0, .int .i64 0, .int .i64 0] 38))) := Below.refl _ _
  clear h
  go_enter Try.func13, Try.ntmps13
  go_wp2_with fail
  refine (parted_some _ l hl _ HR0).mono ?_
  rintro e w1 (⟨D, r, vd, vr, hp, rfl, HO1, HR1, hb1⟩ | ⟨hp, rfl, hb1⟩)
  · have HX1 : Hid (Below (w.heap.size + 1) (w.alloc (.cells #[.slice none 0 0, .int .i64 0, .int .i64 0] 38)) w1) := hb1.mono (by simp)
    have HS1 : Hid (w.heap.size + 1 ≤ w1.heap.size) := by have := hb1.size; unfold Hid; simpa using this
    obtain ⟨ad, cd, rfl, _⟩ := HO1.reads.form
    obtain ⟨ar, cr, rfl, hrm⟩ := HR1.form
    unfold maxLen at hrm
    have HSR : Hid (SReads w1 (.slice ad D.length cd) D) := HO1.reads
    have HGB : Hid (∀ k, (Value.slice ad D.length cd).ownBlock = some k → w.heap.size < k) := fun k hk => by have := own_block HO1.1 k hk; simp at this; omega
    have HRR : Hid (Reads w1 (.slice ar r.length cr) r) := HR1
    have HF : Hid _ := rdF_some hp
    obtain ⟨k0, k1, k2⟩ := kbox HX1.out
    obtain ⟨z0, z1, z2⟩ := kfro HX1.out
    clear hb1 HX0 HR0 hp HO1 HR1
    by_cases h9 : r.length = 9
    · have j9 : ((r.length : Int) != 9) = false := by simp; omega
      have HF2 : Hid (rdF l = if rightBK D (rnF r).1 ((r.getD 8 0).toNat : Int) = true then some (D, (rnF r).1, ((r.getD 8 0).toNat : Int)) else none) := by rw [HF.out, if_pos h9]; rfl
      obtain ⟨q1, q2, q3, q4⟩ := rnF9 h9
      obtain ⟨b, off, rfl, hbw, hc8⟩ := HRR.out.at 8 (by omega)
      have HQ : Hid ((r.getD 8 0).toNat = (r[8]'(by omega)).toNat) := by simp [Hid, List.getD, h9]
      obtain ⟨y, HY⟩ := hid_ex (r[8]'(by omega))
      rw [← HY.out] at hc8 HQ
      rw [HQ.out] at HF2
      unfold bc at hc8
      have hyb : y.toNat < 256 := y.toNat_lt
      have i8 : (8 : Int) < (r.length : Int) := by omega
      clear HY HQ HF h9
      go_wp2_with fail
      refine (readNumber_any _ r _ HRR.out).mono ?_
      rw [q1, q2]
      rintro e w2 ⟨rfl, hb2⟩
      generalize (rnF r).1 = F at *
      have HX2 : Hid (Below (w.heap.size + 1) (w.alloc (.cells #[.slice none 0 0, .int .i64 0, .int .i64 0] 38)) w2) := HX1.out.trans (hb2.mono HS1.out)
      have HS2 : Hid (w.heap.size + 1 ≤ w2.heap.size) := Nat.le_trans HS1.out hb2.size
      have HSR2 : Hid (SReads w2 (.slice ad D.length cd) D) := HSR.out.below hb2
      have hc2 := (hb2.cell (p := ⟨b, off + 8, none⟩) hbw).trans hc8
      clear hb2 hc8 hbw HX1 HS1 HSR HRR k0 k1 k2 z0 z1 z2
      go_wp2_with fail
      have HK2 : KLies ⟨.slice ad D.length cd, D, F, (y.toNat : Int)⟩ (w2.alloc (.cells #[.slice ad D.length cd, .int .i64 F, .int .i64 (y.toNat : Int)] 38)) :=
        ⟨HSR2.out.below ((Below.refl _ _).alloc (Nat.le_refl _) _), q3, q4, by show (-9223372036854775808 : Int) ≤ (y.toNat : Int); omega, by show (y.toNat : Int) ≤ 9223372036854775807; omega⟩
      refine (right_anyK ⟨.slice ad D.length cd, D, F, (y.toNat : Int)⟩ _ HK2).mono ?_
      simp only
      rintro e w3 ⟨rfl, hb3⟩
      have HY3 : Hid (Below (w2.heap.size + 1) (w2.alloc (.cells #[.slice ad D.length cd, .int .i64 F, .int .i64 (y.toNat : Int)] 38)) w3) := hb3.mono (by simp)
      have HX3 : Hid (Below (w.heap.size + 1) (w.alloc (.cells #[.slice none 0 0, .int .i64 0, .int .i64 0] 38)) w3) := HX2.out.trans (((Below.refl _ _).alloc HS2.out _).trans (hb3.mono (by have := HS2.out; simp; omega)))
      have HK3 : Hid (KLies ⟨.slice ad D.length cd, D, F, (y.toNat : Int)⟩ w3) := HK2.below hb3
      obtain ⟨k0, k1, k2⟩ := kbox HX3.out
      obtain ⟨z0, z1, z2⟩ := kfro HX3.out
      obtain ⟨y0, y1, y2⟩ := kbox HY3.out
      have hne : ¬ w2.heap.size = w.heap.size := by have := HS2.out; omega
      clear hb3 HK2 HY3 hc2
      cases hrt : rightBK D F (y.toNat : Int) with
      | true =>
        have HN : Hid (rdF l = some (D, F, (y.toNat : Int))) := by rw [HF2.out, hrt]; rfl
        clear hrt HF2
        go_wp2_with fail
        refine bodyPost_ret (v := .tuple #[.agg #[.slice ad D.length cd, .int .i64 F, .int .i64 (y.toNat : Int)], .int .i64 0]) (by simp [results, Try.results13, go_sem, k0, k1, k2]) rfl (.inl ⟨D, F, (y.toNat : Int), _, HN.out, rfl, ?_, HGB.out, set3_below (box_below HX3.out) (Nat.le_refl _)⟩)
        exact ⟨((HK3.out.r.set HGB.out).set HGB.out).set HGB.out, HK3.out.f1, HK3.out.f2, HK3.out.g1, HK3.out.g2⟩
      | false =>
        have HN : Hid (rdF l = none) := by rw [HF2.out, hrt]; rfl
        clear hrt HF2 y0 y1 y2
        go_wp2_with fail
        refine bodyPost_ret (v := .tuple #[.agg #[.slice none 0 0, .int .i64 0, .int .i64 0], .int .i64 40]) (by simp [results, Try.results13, go_sem, k0, k1, k2]) rfl (.inr ⟨HN.out, rfl, set3_below (box_below HX3.out) (Nat.le_refl _)⟩)
    · have j9 : ((r.length : Int) != 9) = true := by simp; omega
      have HN : Hid (rdF l = none) := by rw [HF.out, if_neg h9]; rfl
      clear HF h9
      go_wp2_with fail
      refine bodyPost_ret (v := .tuple #[.agg #[.slice none 0 0, .int .i64 0, .int .i64 0], .int .i64 40]) (by simp [results, Try.results13, go_sem, k0, k1, k2]) rfl (.inr ⟨HN.out, rfl, set3_below (box_below HX1.out) (Nat.le_refl _)⟩)
  · have HN : Hid (rdF l = none) := rdF_none hp
    have HX1 : Hid (Below (w.heap.size + 1) (w.alloc (.cells #[.slice none 0 0, .int .i64 0, .int .i64 0] 38)) w1) := hb1.mono (by simp)
    obtain ⟨k0, k1, k2⟩ := kbox HX1.out
    obtain ⟨z0, z1, z2⟩ := kfro HX1.out
    clear hb1 HX0 HR0 hp
    go_wp2_with fail
    refine bodyPost_ret (v := .tuple #[.agg #[.slice none 0 0, .int .i64 0, .int .i64 0], .int .i64 40]) (by simp [results, Try.results13, go_sem, k0, k1, k2]) rfl (.inr ⟨HN.out, rfl, set3_below (box_below HX1.out) (Nat.le_refl _)⟩)
theorem read_any (v : Value) (l : List UInt8) (hl : l.length ≤ 1000) (w : World) (h : Reads w v l) :
    Calls Try.prog 13 #[v] w fun e w' => (∃ D f g vd, rdF l = some (D, f, g) ∧ e = .returned (.tuple #[.agg #[vd, .int .i64 f, .int .i64 g], .int .i64 0]) ∧ KLies ⟨vd, D, f, g⟩ w' ∧ Below w.heap.size w w') ∨ (rdF l = none ∧ e = .returned (.tuple #[.agg #[.slice none 0 0, .int .i64 0, .int .i64 0], .int .i64 40]) ∧ Below w.heap.size w w') := by
  refine (read_own v l hl w h).mono ?_
  rintro e w' (⟨D, f, g, vd, h1, h2, h3, _, h5⟩ | h)
  · exact .inl ⟨D, f, g, vd, h1, h2, h3, h5⟩
  · exact .inr h
end Go.Proofs.Ytdeaglfjlfbdoaa

/- Facts as an argument (out of FL14, FA0, FK1). -/
namespace Go.Proofs.Ytdeaglfjlfbdoaa
open Go.ChangeShapes Go.WideShapes Go.ChangeAt Go.RowKit Go.Joins

/-- A fact. -/
structure Fa where
  v : Value
  D : List ByteArray
  t : Int
  x : Int
def c3 (f : Fa) : List Value := [f.v, .int .i64 f.t, .int .i64 f.x]
structure FaB (f : Fa) : Prop where
  t1 : -9223372036854775808 ≤ f.t
  t2 : f.t ≤ 9223372036854775807
  x1 : -9223372036854775808 ≤ f.x
  x2 : f.x ≤ 9223372036854775807
/-- A slice reads these facts. -/
def FReads (w : World) (v : Value) (fs : List Fa) : Prop :=
  ∃ a cap, v = .slice a fs.length cap ∧ fs.length ≤ cap ∧ cap ≤ maxLen ∧ (fs = [] ∨ ∃ b off, a = some ⟨b, off, none⟩ ∧ b < w.heap.size ∧ ∀ j (hj : j < fs.length), (∀ i (hi : i < 3), w.cell? ⟨b, off + j * 3 + i, none⟩ = some ((c3 fs[j])[i]'hi)) ∧ SReads w fs[j].v fs[j].D ∧ FaB fs[j])
theorem FReads.below {w w' : World} {v : Value} {fs : List Fa} (h : FReads w v fs) (hb : Below w.heap.size w w') : FReads w' v fs := by
  obtain ⟨a, cap, rfl, h1, h2, h3⟩ := h
  refine ⟨a, cap, rfl, h1, h2, ?_⟩
  rcases h3 with h3 | ⟨b, off, h4, h5, h6⟩
  · exact .inl h3
  · refine .inr ⟨b, off, h4, Nat.lt_of_lt_of_le h5 hb.size, fun j hj => ?_⟩
    obtain ⟨g1, g2, g3⟩ := h6 j hj
    exact ⟨fun i hi => (hb.cell (p := ⟨b, off + j * 3 + i, none⟩) h5).trans (g1 i hi), g2.below hb, g3⟩
theorem FReads.form {w : World} {v : Value} {fs : List Fa} (h : FReads w v fs) : ∃ a cap, v = .slice a fs.length cap ∧ fs.length ≤ cap ∧ cap ≤ maxLen := by
  obtain ⟨a, cap, rfl, h1, h2, _⟩ := h
  exact ⟨a, cap, rfl, h1, h2⟩
theorem FReads.at {w : World} {a : Option Addr} {n cap : Nat} {fs : List Fa} (h : FReads w (.slice a n cap) fs) {j : Nat} (hj : j < fs.length) : ∃ b off, a = some ⟨b, off, none⟩ ∧ b < w.heap.size ∧ (∀ i (hi : i < 3), w.cell? ⟨b, off + j * 3 + i, none⟩ = some ((c3 fs[j])[i]'hi)) ∧ SReads w fs[j].v fs[j].D ∧ FaB fs[j] := by
  obtain ⟨a', cap', hv, _, _, h3⟩ := h
  simp at hv
  obtain ⟨rfl, rfl, rfl⟩ := hv
  rcases h3 with rfl | ⟨b, off, rfl, h5, h6⟩
  · simp at hj
  · exact ⟨b, off, rfl, h5, (h6 j hj).1, (h6 j hj).2.1, (h6 j hj).2.2⟩
theorem threeF {α : Type} : ∀ {l : List α}, l.length = 3 → ∃ c0 c1 c2, l = [c0, c1, c2]
  | [c0, c1, c2], _ => ⟨c0, c1, c2, rfl⟩
theorem cellsS : Try.prog.cellsOf 34 = 1 := by kernel_rfl
set_option maxRecDepth 100000 in
theorem openF' {H : Type} {enc : TypeId × Value → H} {W : World} {base : Nat} {spare : Nat → Bool} {held : Bool} {c0 c1 c2 : Value} {x : DataW H × List MemPlace} {fuel : Nat}
    (hf : DataW.trod enc Try.prog W base spare held fuel 36 [c0, c1, c2] = some x) : ∃ f : Fa, [c0, c1, c2] = c3 f ∧ SReads W f.v f.D ∧ FaB f := by
  obtain ⟨xs, n, _, _, _, hlen, hfs⟩ := DataW.trod_struct Try.underlying36 hf
  obtain ⟨y0, g0⟩ := some_of_len (i := 0) hlen (by decide)
  obtain ⟨y1, g1⟩ := some_of_len (i := 1) hlen (by decide)
  obtain ⟨y2, g2⟩ := some_of_len (i := 2) hlen (by decide)
  have e0 := (hfs 0 _ rfl).trans g0
  have e1 := (hfs 1 _ rfl).trans g1
  have e2 := (hfs 2 _ rfl).trans g2
  simp [cellsS] at e0
  simp [cells64] at e1
  simp [cells64] at e2
  obtain ⟨D, hD⟩ := openS' e0
  obtain ⟨t, q1, _, w1⟩ := DataW.trod_int Try.underlying2 e1
  obtain ⟨v, q2, _, w2⟩ := DataW.trod_int Try.underlying2 e2
  simp at q1 q2
  subst q1 q2
  have b1 := bounds_i64 w1
  have b2 := bounds_i64 w2
  exact ⟨⟨c0, D, t, v⟩, rfl, hD, b1.1, b1.2, b2.1, b2.2⟩
set_option maxRecDepth 100000 in
theorem openF {H : Type} {enc : TypeId × Value → H} {W : World} {r : Reach} {b0 base : Nat} {spare : Nat → Bool} {held : Bool} {v : Value} {d : DataW H} {p : List MemPlace}
    (hv : Value.okWide Try.prog W r b0 22 v) (h : DataW.Trod enc Try.prog W base spare held 22 v d p) : ∃ fs : List Fa, FReads W v fs := by
  obtain ⟨a, len, cap, rfl⟩ := okWide_slice Try.underlying22 hv
  obtain ⟨fuel, hf⟩ := h
  rcases Go.Deep.open_slice Try.underlying22 hf with ⟨hcs, _⟩ | ⟨x, len', cap', m, n, D, Pl, hcs, _, hl, hm, hz, _, hcell⟩
  · simp [Value.cells] at hcs
    obtain ⟨rfl, rfl, rfl⟩ := hcs
    exact ⟨[], none, 0, rfl, by simp, by simp, .inl rfl⟩
  · simp [Value.cells] at hcs
    obtain ⟨rfl, rfl, rfl⟩ := hcs
    have hzl : len ≤ m := by rw [hz]; split <;> omega
    have hce : Try.prog.cellsOf 36 = 3 := by kernel_rfl
    rw [hce] at hcell
    have hall : ∀ j, ∃ (y : Fa), j < len → (∀ i (hi : i < 3), W.cell? (x.add (j * 3 + i)) = some ((c3 y)[i]'hi)) ∧ SReads W y.v y.D ∧ FaB y := by
      intro j
      by_cases hj : j < len
      · obtain ⟨cs', hc1, hc2⟩ := hcell j (by omega)
        obtain ⟨_, hl7, hq⟩ := World.cells?_some hc1
        obtain ⟨c0, c1, c2, rfl⟩ := threeF hl7
        obtain ⟨f, e, hr, ha⟩ := openF' hc2
        refine ⟨f, fun _ => ⟨fun i hi => ?_, hr, ha⟩⟩
        have h1 := hq i hi
        rw [e, List.getElem?_eq_getElem (show i < (c3 f).length from hi)] at h1
        have ea : (x.add (j * 3)).add i = x.add (j * 3 + i) := by
          obtain ⟨xb, xo, xs⟩ := x
          by_cases h1 : j = 0
          · subst h1; simp [Addr.add]
          · have h2 : j * 3 ≠ 0 := by omega
            have h3 : j * 3 + i ≠ 0 := by omega
            by_cases h4 : i = 0
            · subst h4; simp [Addr.add]
            · have h5 : xo + j * 3 + i = xo + (j * 3 + i) := by omega
              unfold Addr.add
              rw [if_neg h2, if_neg h4, if_neg h3]
              simp only [h5]
        rw [ea] at h1
        exact h1
      · exact ⟨⟨.bool false, [], 0, 0⟩, fun h => absurd h hj⟩
    obtain ⟨ys, hys⟩ := Classical.axiomOfChoice hall
    rcases Nat.eq_zero_or_pos len with h0 | h0
    · subst h0
      exact ⟨[], _, cap, rfl, by simp, hm, .inl rfl⟩
    · have k0 := (hys 0 h0).1 0 (by decide)
      have e0 : x.add (0 * 3 + 0) = x := by simp [Addr.add]
      rw [e0] at k0
      obtain ⟨hb, hs⟩ := cell_block k0
      obtain ⟨b, off, spot⟩ := x
      simp only at hb hs
      subst hs
      refine ⟨(List.range len).map fun j => ys j, _, cap, by simp, by simpa using hl, hm, .inr ⟨b, off, rfl, hb, fun j hj => ?_⟩⟩
      simp at hj
      obtain ⟨g1, g2, g3⟩ := hys j hj
      have ej : ((List.range len).map fun j => ys j)[j]'(by simpa using hj) = ys j := by simp
      rw [ej]
      refine ⟨fun i hi => ?_, g2, g3⟩
      have ea : (⟨b, off, none⟩ : Addr).add (j * 3 + i) = ⟨b, off + j * 3 + i, none⟩ := by rw [Nat.add_assoc]; simp [Addr.add]
      have := g1 i hi
      rw [ea] at this
      exact this
def Mn15 (fs : List Fa) (w : World) (e : Ending) (w' : World) : Prop := ∃ g, e = .returned (.bool g) ∧ (g = false → fs.length ≤ 60) ∧ w' = w
set_option maxRecDepth 100000 in
set_option maxHeartbeats 2000000 in
theorem many15_any (v : Value) (fs : List Fa) (w : World) (hF : FReads w v fs) : Calls Try.prog 4 #[v] w (Mn15 fs w) := by
  have HF : Hid (FReads w v fs) := hF
  obtain ⟨a, cap, rfl, hm1, hm2⟩ := hF.form
  unfold maxLen at hm2
  clear hF
  by_cases h60 : fs.length ≤ 60
  · go_enter Try.func4, Try.ntmps4
    go_wp2_with fail
    go_loopw [3] (fun i wr => ∃ k : Nat, k ≤ fs.length ∧ i = .int .i64 (k : Int) ∧ Hid (wr = w)) (fun i _ => fs.length - (intOf i).toNat)
    case atStart => exact ⟨0, by omega, rfl, rfl⟩
    case round =>
      obtain ⟨k, hk, rfl, HW⟩ := hrel
      obtain rfl := HW.out
      clear HW
      by_cases hlt : k < fs.length
      · obtain ⟨b, off, rfl, hbw, hcw, hsr, _⟩ := HF.out.at hlt
        have c0 := hcw 0 (by decide)
        simp only [c3, List.getElem_cons_zero, Nat.add_zero] at c0
        obtain ⟨D, HD⟩ := hid_ex fs[k].D
        rw [← HD.out] at hsr
        obtain ⟨va, vc, hvd, hdm⟩ := hsr.form
        have HSR : Hid (SReads wr (.slice va D.length vc) D) := by rw [← hvd]; exact hsr
        rw [hvd] at c0
        unfold maxLen at hdm
        have HSZ : Hid _ := hsr.size
        clear hcw hsr hvd HD
        by_cases h20 : D.length ≤ 20
        · go_wp2_with fail
          go_loopw [4] (fun i wq => ∃ m : Nat, m ≤ D.length ∧ i = .int .i64 (m : Int) ∧ Hid (wq = wr)) (fun i _ => D.length - (intOf i).toNat)
          case atStart => exact ⟨0, by omega, rfl, rfl⟩
          case round =>
            obtain ⟨m, hm, rfl, HW⟩ := hrel
            obtain rfl := HW.out
            clear HW
            by_cases hmt : m < D.length
            · obtain ⟨db, doff, rfl, _, d0⟩ := HSR.out.at m hmt
              have hz := HSZ.out D[m] (List.getElem_mem hmt)
              unfold maxLen at hz
              obtain ⟨X, HX⟩ := hid_ex D[m]
              rw [← HX.out] at d0 hz
              by_cases h100 : X.size ≤ 100
              · clear HX
                go_wp2_with fail
                go_roundw
                case rel => exact ⟨m + 1, by omega, by go_num, trivial⟩
                case measure => simp [intOf]; omega
              · clear HX
                go_wp2_with fail
                go_ret
                exact ⟨true, rfl, fun h => (by cases h), rfl⟩
            · obtain rfl : m = D.length := by omega
              go_wp2_with fail
              go_roundw
              case rel => exact ⟨k + 1, by omega, by go_num, trivial⟩
              case measure => simp [intOf]; omega
        · go_wp2_with fail
          go_ret
          exact ⟨true, rfl, fun h => (by cases h), rfl⟩
      · obtain rfl : k = fs.length := by omega
        go_wp2_with fail
        go_ret
        exact ⟨false, rfl, fun _ => h60, rfl⟩
  · go_enter Try.func4, Try.ntmps4
    go_wp2_with fail
    go_ret
    exact ⟨true, rfl, fun h => (by cases h), rfl⟩
end Go.Proofs.Ytdeaglfjlfbdoaa
