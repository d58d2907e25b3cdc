/- K8 K9 C3r K12 C1r, joined. -/
import Derived.Test.YtahigmjpeicemaaDoorWG3
import Derived.Test.YtahigmjpeicemaaDoorWG7
/- What the fixed calls of layer 6's 'alive' come to: true. -/
namespace Go.Proofs.YtahigmjpeicemaaDoor
open Go.RowKit

end Go.Proofs.YtahigmjpeicemaaDoor

/- Keys' bytes stand as the keys do: no program in sight. -/
namespace Go.Proofs.YtahigmjpeicemaaDoor

theorem less_irr (l : List UInt8) : Op.bytesLess l l = false := by
  induction l with
  | nil => rfl
  | cons x l ih => rw [less_same]; exact ih
theorem less_asym (l : List UInt8) : ∀ m, Op.bytesLess l m = true → Op.bytesLess m l = false := by
  induction l with
  | nil => intro m _; cases m <;> rfl
  | cons x l ih =>
    intro m h
    cases m with
    | nil => simp [Op.bytesLess] at h
    | cons y m =>
      rcases Nat.lt_trichotomy x.toNat y.toNat with h1 | h1 | h1
      · exact less_gt _ _ h1
      · obtain rfl := u8_eq h1
        rw [less_same] at h ⊢; exact ih m h
      · rw [less_gt _ _ h1] at h; simp at h
theorem less_tot (l : List UInt8) : ∀ m, l ≠ m → Op.bytesLess l m = false → Op.bytesLess m l = true := by
  induction l with
  | nil => intro m h1 h2; cases m with
    | nil => exact absurd rfl h1
    | cons y m => simp [Op.bytesLess] at h2
  | cons x l ih =>
    intro m h1 h2
    cases m with
    | nil => rfl
    | cons y m =>
      rcases Nat.lt_trichotomy x.toNat y.toNat with h3 | h3 | h3
      · rw [less_lt _ _ h3] at h2; simp at h2
      · obtain rfl := u8_eq h3
        rw [less_same] at h2 ⊢; exact ih m (fun e => h1 (by rw [e])) h2
      · exact less_lt _ _ h3
theorem ba_eq {s t : ByteArray} : s.data.toList = t.data.toList ↔ s = t := by
  constructor
  · intro h
    cases s; cases t
    simp at h
    rw [h]
  · intro h; rw [h]
theorem cmpS_zero {s t : ByteArray} : cmpS s t = 0 ↔ s = t := by
  unfold cmpS
  rw [ByteArray.toList_eq, ByteArray.toList_eq]
  constructor
  · intro h
    by_cases h1 : Op.bytesLess s.data.toList t.data.toList = true
    · rw [if_pos h1] at h; simp at h
    · rw [if_neg h1] at h
      by_cases h2 : s.data.toList = t.data.toList
      · exact ba_eq.1 h2
      · rw [if_neg h2] at h; simp at h
  · rintro rfl
    rw [if_neg (by rw [less_irr]; decide), if_pos rfl]
theorem cmpS_neg {s t : ByteArray} : cmpS s t < 0 ↔ Op.bytesLess s.data.toList t.data.toList = true := by
  unfold cmpS
  rw [ByteArray.toList_eq, ByteArray.toList_eq]
  by_cases h1 : Op.bytesLess s.data.toList t.data.toList = true
  · rw [if_pos h1]; simp [h1]
  · rw [if_neg h1]; split <;> simp [h1]
theorem cmpL_zero (L : List ByteArray) : ∀ M, cmpL L M = 0 ↔ L = M := by
  induction L with
  | nil => intro M; cases M <;> simp [cmpL]
  | cons x L ih =>
    intro M
    cases M with
    | nil => simp [cmpL]
    | cons y M =>
      rw [cmpL]
      by_cases h : cmpS x y = 0
      · rw [if_neg (by simpa using h), ih]
        have := cmpS_zero.1 h
        subst this; simp
      · rw [if_pos h]
        constructor
        · intro h'; exact absurd h' h
        · intro h'; simp at h'; exact absurd (cmpS_zero.2 h'.1) h
theorem jb_less (L : List ByteArray) : ∀ M A B, Op.bytesLess (jb L ++ 0 :: A) (jb M ++ 0 :: B) = if cmpL L M = 0 then Op.bytesLess A B else decide (cmpL L M < 0) := by
  induction L with
  | nil =>
    intro M A B
    cases M with
    | nil => show Op.bytesLess (0 :: A) (0 :: B) = _; rw [less_same]; rfl
    | cons y M => rw [jb_cons]; show Op.bytesLess (0 :: A) (1 :: _) = _; rw [less_lt _ _ (by decide)]; rfl
  | cons x L ih =>
    intro M A B
    cases M with
    | nil => rw [jb_cons]; show Op.bytesLess (1 :: _) (0 :: B) = _; rw [less_gt _ _ (by decide)]; rfl
    | cons y M =>
      rw [jb_cons, jb_cons, List.cons_append, List.cons_append, less_same]
      unfold tx
      simp only [List.append_assoc, List.cons_append, List.nil_append]
      rw [tx_less, ih, cmpL]
      by_cases h : x = y
      · subst h
        rw [if_pos rfl, cmpS_zero.2 rfl]; simp
      · have h0 : ¬ cmpS x y = 0 := fun e => h (cmpS_zero.1 e)
        rw [if_neg (fun e => h (ba_eq.1 e)), if_pos h0, if_neg h0]
        rw [Bool.eq_iff_iff, decide_eq_true_iff, cmpS_neg]
theorem jb_inj (L : List ByteArray) : ∀ M A B, jb L ++ 0 :: A = jb M ++ 0 :: B → L = M ∧ A = B := by
  induction L with
  | nil =>
    intro M A B h
    cases M with
    | nil => have h' : (0 : UInt8) :: A = 0 :: B := h; simp at h'; exact ⟨rfl, h'⟩
    | cons y M => rw [jb_cons] at h; have h' : (0 : UInt8) :: A = 1 :: _ := h; simp at h'
  | cons x L ih =>
    intro M A B h
    cases M with
    | nil => rw [jb_cons] at h; have h' : (1 : UInt8) :: _ = 0 :: B := h; simp at h'
    | cons y M =>
      rw [jb_cons, jb_cons, List.cons_append, List.cons_append] at h
      simp only [List.cons.injEq, true_and] at h
      unfold tx at h
      simp only [List.append_assoc, List.cons_append, List.nil_append] at h
      obtain ⟨h1, h2⟩ := tx_inj _ _ _ _ h
      obtain ⟨h3, h4⟩ := ih _ _ _ h2
      exact ⟨by rw [ba_eq.1 h1, h3], h4⟩
theorem bv_snoc (l : List UInt8) (x : UInt8) : bv (l ++ [x]) = bv l * 256 + x.toNat := by
  induction l with
  | nil => simp [bv]
  | cons y l ih =>
    simp only [List.cons_append, bv, ih, List.length_append, List.length_cons, List.length_nil, Nat.pow_succ, Nat.add_mul]
    rw [← Nat.mul_assoc, Nat.add_assoc]
theorem tail_less (f g f' g' : Int) (h : 0 ≤ f ∧ f ≤ 1099511627776 ∧ 0 ≤ g ∧ g ≤ 3) (h' : 0 ≤ f' ∧ f' ≤ 1099511627776 ∧ 0 ≤ g' ∧ g' ≤ 3) :
    Op.bytesLess (nb f ++ [UInt8.ofNat g.toNat]) (nb f' ++ [UInt8.ofNat g'.toNat]) = decide (f < f' ∨ f = f' ∧ g < g') := by
  rw [less_bv _ _ (by simp [nb_len]), bv_snoc, bv_snoc]
  have e1 := bv_nb f (by omega) (by omega)
  have e2 := bv_nb f' (by omega) (by omega)
  have e3 : (UInt8.ofNat g.toNat).toNat = g.toNat := by rw [UInt8.toNat_ofNat']; omega
  have e4 : (UInt8.ofNat g'.toNat).toNat = g'.toNat := by rw [UInt8.toNat_ofNat']; omega
  rw [e3, e4]
  apply decide_eq_decide.2
  omega
theorem right_facts {L : List ByteArray} {f g : Int} (h : rightB L f g = true) : mayB L = true ∧ 0 ≤ f ∧ f ≤ 1099511627776 ∧ 0 ≤ g ∧ g ≤ 3 := by
  unfold rightB at h
  obtain ⟨h1, h2⟩ := Bool.and_eq_true_iff.1 h
  exact ⟨h1, of_decide_eq_true h2⟩
theorem kb_form (L : List ByteArray) (f g : Int) : kb L f g = jb L ++ 0 :: (nb f ++ [UInt8.ofNat g.toNat]) := by
  unfold kb jn; simp
theorem or3_neg (c f g f' g' : Int) : (or3 c (cmpI f f') (cmpI g g') < 0) ↔ (c < 0 ∨ c = 0 ∧ (f < f' ∨ f = f' ∧ g < g')) := by
  unfold or3 cmpI
  repeat' split
  all_goals omega
/-- IN ORDER. -/
theorem kb_less (a b : Ky) (ha : rightB a.L a.f a.g = true) (hb : rightB b.L b.f b.g = true) : Op.bytesLess (kb a.L a.f a.g) (kb b.L b.f b.g) = lessK a b := by
  rw [kb_form, kb_form, jb_less, tail_less _ _ _ _ (right_facts ha).2 (right_facts hb).2]
  unfold lessK
  by_cases h : cmpL a.L b.L = 0
  · rw [if_pos h]
    apply decide_eq_decide.2
    rw [or3_neg]; omega
  · rw [if_neg h]
    apply decide_eq_decide.2
    rw [or3_neg]; omega
theorem kb_len (L : List ByteArray) (f g : Int) : (kb L f g).length = (jn L).length + 9 := by unfold kb; simp [nb_len]
/-- No one's are another one's front. -/
theorem kb_front (a b : Ky) (h : (kb b.L b.f b.g).take (kb a.L a.f a.g).length = kb a.L a.f a.g) : (kb b.L b.f b.g).length ≤ (kb a.L a.f a.g).length := by
  have h2 : kb a.L a.f a.g ++ (kb b.L b.f b.g).drop (kb a.L a.f a.g).length = kb b.L b.f b.g := by
    conv => lhs; lhs; rw [← h]
    rw [List.take_append_drop]
  generalize hC : (kb b.L b.f b.g).drop (kb a.L a.f a.g).length = C at h2
  rw [kb_form, kb_form, List.append_assoc, List.cons_append] at h2
  obtain ⟨h3, h4⟩ := jb_inj _ _ _ _ h2
  have := congrArg List.length h4
  simp [nb_len] at this
  have h5 := congrArg List.length hC
  rw [List.length_drop] at h5
  omega
end Go.Proofs.YtahigmjpeicemaaDoor

/- The contracts of the reference's Text and ReadText. -/
namespace Go.Proofs.YtahigmjpeicemaaDoor
open Go.RowKit

set_option maxRecDepth 100000 in
set_option maxHeartbeats 1000000 in
theorem refText_any (s : ByteArray) (hs : s.size ≤ 10000) (w : World) :
    Calls Tryd.prog 30 #[.string s] w fun e w' => ∃ v, e = .returned v ∧ w'.ownsRow w.heap.size 5 1 v (tx s.data.toList).length ((tx s.data.toList).map bc) ∧ Below w.heap.size w w' := by
  obtain ⟨i0, hi, hz0, hz1, hz2⟩ := info_parts info5
  have hsl : s.data.toList.length = s.size := Array.length_toList
  have HO0 : Hid (w.ownsRow w.heap.size 5 1 (.slice none 0 0) (txb (s.data.toList.take 0)).length ((txb (s.data.toList.take 0)).map bc)) := World.ownsRow_nil _ _ _ _
  have HB0 : Hid (Below w.heap.size w w) := Below.refl _ _
  go_enter Tryd.func30, Tryd.ntmps30
  go_wp2_with fail
  go_loopw [3, 4] (fun v i wr => ∃ k : Nat, k ≤ s.size ∧ i = .int .i64 (k : Int) ∧ wr.ownsRow w.heap.size 5 1 v (txb (s.data.toList.take k)).length ((txb (s.data.toList.take k)).map bc) ∧ Below w.heap.size w wr) (fun _ i _ => s.size - (intOf i).toNat)
  case atStart => exact ⟨0, by omega, rfl, HO0.out, HB0.out⟩
  case round =>
    obtain ⟨k, hk, rfl, hown, hbr⟩ := hrel
    have hlen := txb_len (s.data.toList.take k)
    have htk : (s.data.toList.take k).length ≤ k := List.length_take_le _ _
    have hsz := hbr.size
    by_cases hlt : k < s.size
    · have hsn := txb_snoc s.data.toList k (by omega)
      have hxe : s[k] = s.data.toList[k]'(by omega) := rfl
      rw [← hxe] at hsn
      have HSN : Hid _ := hsn
      have HHL : Hid (s.data.toList.length = s.size) := hsl
      clear hsn hxe hsl
      generalize hx : s[k] = x at *
      generalize s.data.toList.take k = L at *
      by_cases hx0 : x.toNat = 0
      · have HX : Hid (x.toNat = 0) := hx0
        have i5 : ((x.toNat : Int) == 0) = true := by simp [hx0]
        have i6 : bc x = .int .u8 0 := by unfold bc; rw [hx0]; rfl
        have HBC : Hid (bc x = .int .u8 0) := i6
        clear hx0 i6
        go_wp2_with (at_builtin; refine wpList_append_own _ rfl _ _ 28 rfl w.heap.size 5 i0 (.int .u8 0) 1 1 Tryd.underlying28 hi hz0 hz1 hz2 rfl (by decide) _ _ _ rfl (hown.alloc _) ⟨wr.heap.size, 0, none⟩ 1 1 [.int .u8 (x.toNat : Int)] rfl rfl news1 one1 (len_ok (by omega)).1 (len_ok (by omega)).2 (al_ok hsz) ?_)
        intro v' w1 hown' hgrow _
        have HO1 : Hid (w1.ownsRow w.heap.size 5 1 v' ((txb L).length + 1) ((txb L).map bc ++ [bc x])) := hown'
        have HB1 : Hid (Below w.heap.size w w1) := (hbr.alloc hbr.size _).grown hgrow (al_ok hsz) (own_block hown)
        have hown1 : w1.ownsRow w.heap.size 5 1 v' ((txb L).length + 1) ((txb L).map bc ++ [bc x]) := HO1.out
        have hsz1 := HB1.out.size
        clear hown hown' hgrow hbr hsz
        go_wp2_with (at_builtin; refine wpList_append_own _ rfl _ _ 28 rfl w.heap.size 5 i0 (.int .u8 0) 1 1 Tryd.underlying28 hi hz0 hz1 hz2 rfl (by decide) _ _ _ rfl (hown1.alloc _) ⟨w1.heap.size, 0, none⟩ 1 1 [.int .u8 255] rfl rfl news1 one1 (len_ok (by omega)).1 (len_ok (by omega)).2 (al_ok hsz1) ?_)
        intro v2 w2 hown2 hgrow2 _
        have HO2 : Hid (w2.ownsRow w.heap.size 5 1 v2 (txb (s.data.toList.take (k + 1))).length ((txb (s.data.toList.take (k + 1))).map bc)) := by
          rw [HSN.out, if_pos HX.out, List.map_append, List.length_append]
          have e : ((txb L).map bc ++ [x, 255].map bc) = (txb L).map bc ++ [bc x, .int .u8 255] := rfl
          have e2 : (txb L).length + [x, 255].length = (txb L).length + 1 + 1 := rfl
          rw [e, e2]
          exact hown2
        have HB2 : Hid (Below w.heap.size w w2) := (HB1.out.alloc HB1.out.size _).grown hgrow2 (al_ok hsz1) (own_block hown1)
        clear hown1 hown2 hgrow2 hsz1 HO1 HB1
        go_wp2_with fail
        go_roundw
        case rel => exact ⟨k + 1, by omega, by go_num, HO2.out, HB2.out⟩
        case measure => simp [intOf]; omega
      · have HX : Hid (¬ x.toNat = 0) := hx0
        have i5 : ((x.toNat : Int) == 0) = false := by simp; omega
        clear hx0
        go_wp2_with (at_builtin; refine wpList_append_own _ rfl _ _ 28 rfl w.heap.size 5 i0 (.int .u8 0) 1 1 Tryd.underlying28 hi hz0 hz1 hz2 rfl (by decide) _ _ _ rfl (hown.alloc _) ⟨wr.heap.size, 0, none⟩ 1 1 [.int .u8 (x.toNat : Int)] rfl rfl news1 one1 (len_ok (by omega)).1 (len_ok (by omega)).2 (al_ok hsz) ?_)
        intro v' w1 hown' hgrow _
        have HO2 : Hid (w1.ownsRow w.heap.size 5 1 v' (txb (s.data.toList.take (k + 1))).length ((txb (s.data.toList.take (k + 1))).map bc)) := by
          rw [HSN.out, if_neg HX.out, List.map_append, List.length_append]
          exact hown'
        have HB2 : Hid (Below w.heap.size w w1) := (hbr.alloc hbr.size _).grown hgrow (al_ok hsz) (own_block hown)
        clear hown hown' hgrow hbr hsz
        go_wp2_with fail
        go_roundw
        case rel => exact ⟨k + 1, by omega, by go_num, HO2.out, HB2.out⟩
        case measure => simp [intOf]; omega
    · have hke : k = s.size := by omega
      subst hke
      have HTK : Hid (s.data.toList.take s.size = s.data.toList) := List.take_of_length_le (by omega)
      clear hsl
      generalize s.data.toList.take s.size = L at *
      go_wp2_with (at_builtin; refine wpList_append_own _ rfl _ _ 28 rfl w.heap.size 5 i0 (.int .u8 0) 1 1 Tryd.underlying28 hi hz0 hz1 hz2 rfl (by decide) _ _ _ rfl (hown.alloc _) ⟨wr.heap.size, 0, none⟩ 2 2 [.int .u8 0, .int .u8 1] rfl rfl news2 one2 (len_ok (by omega)).1 (len_ok (by omega)).2 (al_ok hsz) ?_)
      intro v' w1 hown' hgrow _
      have HO2 : Hid (w1.ownsRow w.heap.size 5 1 v' (tx s.data.toList).length ((tx s.data.toList).map bc)) := by
        unfold tx
        rw [← HTK.out, List.map_append, List.length_append]
        exact hown'
      have HB2 : Hid (Below w.heap.size w w1) := (hbr.alloc hbr.size _).grown hgrow (al_ok hsz) (own_block hown)
      clear hown hown' hgrow hbr hsz
      go_wp2_with fail
      go_ret
      exact ⟨_, rfl, HO2.out, HB2.out⟩
set_option maxRecDepth 100000 in
set_option maxHeartbeats 1000000 in
theorem refReadText_some (b off cap : Nat) (l : List UInt8) (h0 : 0 < l.length) (hl : l.length ≤ 10000) (w : World) (hbw : b < w.heap.size) (hc : ∀ j (h : j < l.length), w.cell? ⟨b, off + j, none⟩ = some (bc l[j])) :
    Calls Tryd.prog 61 #[.slice (some ⟨b, off, none⟩) l.length cap] w fun e w' => e = .returned (.tuple #[.string ⟨(rtF l [] 0).1.toArray⟩, .int .i64 (rtF l [] 0).2.1, .int .i64 (rtF l [] 0).2.2]) ∧ Below w.heap.size w w' := by
  obtain ⟨i0, hi, hz0, hz1, hz2⟩ := info_parts info5
  go_enter Tryd.func61, Tryd.ntmps61
  go_wp2_with fail
  go_loopw [5, 6] (fun v i wr => ∃ (k : Nat) (acc : List UInt8), k ≤ l.length ∧ i = .int .i64 (k : Int) ∧ acc.length ≤ k ∧ rtF (l.drop k) acc k = rtF l [] 0 ∧ wr.ownsRow w.heap.size 5 1 v acc.length (acc.map bc) ∧ Below w.heap.size w wr) (fun _ i _ => l.length - (intOf i).toNat)
  case atStart => exact ⟨0, [], by omega, rfl, by simp, rfl, World.ownsRow_nil _ _ _ _, Below.refl _ _⟩
  case round =>
    obtain ⟨k, acc, hk, rfl, hacc, hF, hown, hbr⟩ := hrel
    have hsz := hbr.size
    by_cases hlt : k < l.length
    · have hcell : wr.cell? ⟨b, off + k, none⟩ = some (bc l[k]) := (hbr.cell (p := ⟨b, off + k, none⟩) hbw).trans (hc k hlt)
      have hki : (k : Int) < (l.length : Int) := by omega
      by_cases hl1 : k + 1 < l.length
      · have hcell1 : wr.cell? ⟨b, off + (k + 1), none⟩ = some (bc l[k + 1]) := (hbr.cell (p := ⟨b, off + (k + 1), none⟩) hbw).trans (hc (k + 1) hl1)
        rw [drop2 l k hl1, rtF_cons2] at hF
        have HD1 : Hid (l[k + 1] :: l.drop (k + 2) = l.drop (k + 1)) := (List.drop_eq_getElem_cons hl1).symm
        generalize l[k] = x at *
        generalize l[k + 1] = y at *
        unfold bc at hcell hcell1
        have hki1 : (k : Int) + 1 < (l.length : Int) := by omega
        clear hc
        by_cases hx0 : x.toNat = 0
        · rw [if_pos hx0] at hF
          have g0 : ((x.toNat : Int) == 0) = true := by simp [hx0]
          have g1 : ((x.toNat : Int) != 0) = false := by simp [hx0]
          have HX : Hid (bc x = .int .u8 0) := by unfold Hid bc; rw [hx0]; rfl
          clear hx0
          by_cases hy : y.toNat = 255
          · rw [if_pos hy] at hF
            have HF : Hid _ := hF
            have g2 : ((y.toNat : Int) != 255) = false := by simp [hy]
            have g3 : ((y.toNat : Int) == 1) = false := by simp [hy]
            clear hy hF
            go_wp2_with (at_builtin; refine wpList_append_own _ rfl _ _ 28 rfl w.heap.size 5 i0 (.int .u8 0) 1 1 Tryd.underlying28 hi hz0 hz1 hz2 rfl (by decide) _ _ _ rfl (hown.alloc _) ⟨wr.heap.size, 0, none⟩ 1 1 [.int .u8 0] rfl rfl news1 one1 (len_ok (by omega)).1 (len_ok (by omega)).2 (al_ok hsz) ?_)
            intro v' w1 hown' hgrow _
            have HO2 : Hid (w1.ownsRow w.heap.size 5 1 v' (acc ++ [x]).length ((acc ++ [x]).map bc)) := by
              rw [List.map_append, List.length_append]
              simp only [List.map_cons, List.map_nil]
              rw [HX.out]
              exact hown'
            have HB2 : Hid (Below w.heap.size w w1) := (hbr.alloc hbr.size _).grown hgrow (al_ok hsz) (own_block hown)
            clear hown hown' hgrow hbr hsz hcell hcell1
            go_wp2_with fail
            go_roundw
            case rel => exact ⟨k + 2, acc ++ [x], by omega, by go_num, by simp; omega, HF.out, HO2.out, HB2.out⟩
            case measure => simp [intOf]; omega
          · rw [if_neg hy] at hF
            have g2 : ((y.toNat : Int) != 255) = true := by simp; omega
            clear hy
            by_cases hy1 : y.toNat = 1
            · rw [if_pos hy1] at hF
              have HF : Hid _ := hF.symm
              have g3 : ((y.toNat : Int) == 1) = true := by simp [hy1]
              have hcv := reads_text (reads_own hown)
              have HB : Hid (Below w.heap.size w wr) := hbr
              clear hy1 hF hown hbr
              go_wp2_with fail
              go_ret3
              exact ⟨by rw [HF.out]; rfl, HB.out⟩
            · rw [if_neg hy1] at hF
              have HF : Hid _ := hF.symm
              have g3 : ((y.toNat : Int) == 1) = false := by simp; omega
              have HB : Hid (Below w.heap.size w wr) := hbr
              clear hy1 hF hown hbr
              go_wp2_with fail
              go_ret3
              exact ⟨by rw [HF.out]; rfl, HB.out⟩
        · rw [if_neg hx0, HD1.out] at hF
          have HF : Hid _ := hF
          have g0 : ((x.toNat : Int) == 0) = false := by simp; omega
          have g1 : ((x.toNat : Int) != 0) = true := by simp; omega
          clear hx0 hF
          go_wp2_with (at_builtin; refine wpList_append_own _ rfl _ _ 28 rfl w.heap.size 5 i0 (.int .u8 0) 1 1 Tryd.underlying28 hi hz0 hz1 hz2 rfl (by decide) _ _ _ rfl (hown.alloc _) ⟨wr.heap.size, 0, none⟩ 1 1 [.int .u8 (x.toNat : Int)] rfl rfl news1 one1 (len_ok (by omega)).1 (len_ok (by omega)).2 (al_ok hsz) ?_)
          intro v' w1 hown' hgrow _
          have HO2 : Hid (w1.ownsRow w.heap.size 5 1 v' (acc ++ [x]).length ((acc ++ [x]).map bc)) := by
            rw [List.map_append, List.length_append]
            exact hown'
          have HB2 : Hid (Below w.heap.size w w1) := (hbr.alloc hbr.size _).grown hgrow (al_ok hsz) (own_block hown)
          clear hown hown' hgrow hbr hsz hcell hcell1
          go_wp2_with fail
          go_roundw
          case rel => exact ⟨k + 1, acc ++ [x], by omega, by go_num, by simp; omega, HF.out, HO2.out, HB2.out⟩
          case measure => simp [intOf]; omega
      · have hl2 : k + 1 = l.length := by omega
        rw [drop1 l k hl2, rtF_one] at hF
        have HF : Hid _ := hF.symm
        have HDN : Hid (l.drop (k + 1) = []) := List.drop_eq_nil_of_le (by omega)
        generalize l[k] = x at *
        unfold bc at hcell
        clear hc hF
        have g5 : (l.length : Int) ≤ (k : Int) + 1 := by omega
        by_cases hx0 : x.toNat = 0
        · have g0 : ((x.toNat : Int) == 0) = true := by simp [hx0]
          have g1 : ((x.toNat : Int) != 0) = false := by simp [hx0]
          have HB : Hid (Below w.heap.size w wr) := hbr
          clear hx0 hown hbr hl2
          go_wp2_with fail
          go_ret3
          exact ⟨by rw [HF.out]; rfl, HB.out⟩
        · have g0 : ((x.toNat : Int) == 0) = false := by simp; omega
          have g1 : ((x.toNat : Int) != 0) = true := by simp; omega
          have HE : Hid (k + 1 = l.length) := hl2
          clear hx0 g5 hl2 hl1
          go_wp2_with (at_builtin; refine wpList_append_own _ rfl _ _ 28 rfl w.heap.size 5 i0 (.int .u8 0) 1 1 Tryd.underlying28 hi hz0 hz1 hz2 rfl (by decide) _ _ _ rfl (hown.alloc _) ⟨wr.heap.size, 0, none⟩ 1 1 [.int .u8 (x.toNat : Int)] rfl rfl news1 one1 (len_ok (by omega)).1 (len_ok (by omega)).2 (al_ok hsz) ?_)
          intro v' w1 hown' hgrow _
          have HO2 : Hid (w1.ownsRow w.heap.size 5 1 v' (acc ++ [x]).length ((acc ++ [x]).map bc)) := by
            rw [List.map_append, List.length_append]
            exact hown'
          have HB2 : Hid (Below w.heap.size w w1) := (hbr.alloc hbr.size _).grown hgrow (al_ok hsz) (own_block hown)
          clear hown hown' hgrow hbr hsz hcell
          go_wp2_with fail
          go_roundw
          case rel => exact ⟨k + 1, acc ++ [x], by omega, by go_num, by simp; omega, by rw [HDN.out, HF.out]; rfl, HO2.out, HB2.out⟩
          case measure => simp [intOf]; omega
    · have hke : k = l.length := by omega
      subst hke
      rw [List.drop_length] at hF
      have HF : Hid (rtF l [] 0 = ([], 0, 10)) := by unfold Hid; rw [← hF]; rfl
      have HB : Hid (Below w.heap.size w wr) := hbr
      clear hc hF hown hbr
      go_wp2_with fail
      go_ret3
      exact ⟨by rw [HF.out]; rfl, HB.out⟩
set_option maxRecDepth 100000 in
set_option maxHeartbeats 1000000 in
theorem refReadText_none (a : Option Addr) (cap : Nat) (w : World) :
    Calls Tryd.prog 61 #[.slice a 0 cap] w fun e w' => e = .returned (.tuple #[.string ⟨#[]⟩, .int .i64 0, .int .i64 10]) ∧ Below w.heap.size w w' := by
  go_enter Tryd.func61, Tryd.ntmps61
  go_wp2_with fail
  go_loop [6] (fun i => i = .int .i64 0) (fun _ => 0)
  case atStart => rfl
  case round =>
    obtain rfl := hrel
    go_wp2_with fail
    go_ret3
    exact ⟨rfl, Below.refl _ _⟩
theorem refReadText_any (v : Value) (l : List UInt8) (hl : l.length ≤ 10000) (w : World) (h : Reads w v l) :
    Calls Tryd.prog 61 #[v] w fun e w' => e = .returned (.tuple #[.string ⟨(rtF l [] 0).1.toArray⟩, .int .i64 (rtF l [] 0).2.1, .int .i64 (rtF l [] 0).2.2]) ∧ Below w.heap.size w w' := by
  rcases h with ⟨rfl, a, cap, rfl, _⟩ | ⟨b, off, cap, rfl, h2, h3, h4, h5, h6⟩
  · exact refReadText_none a cap w
  · exact refReadText_some b off cap l h2 hl w h5 h6
end Go.Proofs.YtahigmjpeicemaaDoor

/- The contracts of the reference's Fits, Right, Group, Part and Less. -/
namespace Go.Proofs.YtahigmjpeicemaaDoor
open Go.RowKit

set_option maxRecDepth 100000 in
set_option maxHeartbeats 1000000 in
theorem fits_any (v : Value) (L : List ByteArray) (w : World) (h : SReads w v L) :
    Calls Tryd.prog 38 #[v] w fun e w' => e = .returned (.bool (mayB L)) ∧ w' = w := by
  obtain ⟨a, cap, rfl, hl⟩ := h.form
  unfold maxLen at hl
  have HR : Hid (SReads w (.slice a L.length cap) L) := h
  clear h
  by_cases h4 : 4 < L.length
  · have HM : Hid (mayB L = false) := mayB_no (by omega)
    have i1 : (4 : Int) < (L.length : Int) := by omega
    clear h4
    go_enter Tryd.func38, Tryd.ntmps38
    go_wp2_with fail
    go_ret
    exact ⟨by rw [HM.out]; rfl, rfl⟩
  · have i1 : ¬ (4 : Int) < (L.length : Int) := by omega
    go_enter Tryd.func38, Tryd.ntmps38
    go_wp2_with fail
    go_loop [3] (fun i => ∃ k : Nat, k ≤ L.length ∧ i = .int .i64 k ∧ Hid (∀ s ∈ L.take k, s.size ≤ 16)) (fun i => L.length - (intOf i).toNat)
    case atStart => exact ⟨0, Nat.zero_le _, rfl, by intro s hs; simp at hs⟩
    case round =>
      obtain ⟨k, hk, rfl, HK⟩ := hrel
      by_cases hlt : k < L.length
      · obtain ⟨b, off, rfl, _, hcell⟩ := HR.out.at k hlt
        have hsz : L[k].size ≤ maxLen := HR.out.size _ (List.getElem_mem hlt)
        unfold maxLen at hsz
        by_cases h16 : 16 < L[k].size
        · have HM : Hid (mayB L = false) := mayB_no (by intro h; have := h.2 _ (List.getElem_mem hlt); omega)
          have i2 : (16 : Int) < (L[k].size : Int) := by omega
          go_wp2_with fail
          go_ret
          exact ⟨by rw [HM.out]; rfl, rfl⟩
        · have i2 : ¬ (16 : Int) < (L[k].size : Int) := by omega
          have HK1 : Hid (∀ s ∈ L.take (k + 1), s.size ≤ 16) := by
            intro s hs
            rw [List.take_succ_eq_append_getElem hlt] at hs
            rcases List.mem_append.1 hs with hs | hs
            · exact HK.out s hs
            · simp at hs; subst hs; omega
          go_wp2_with fail
          go_round
          case rel => exact ⟨k + 1, by omega, by go_num, HK1⟩
          case measure => simp [intOf]; omega
      · have HM : Hid (mayB L = true) := by
          refine mayB_iff.2 ⟨by omega, ?_⟩
          have := HK.out
          rwa [List.take_of_length_le (by omega)] at this
        go_wp2_with fail
        go_ret
        exact ⟨by rw [HM.out]; rfl, rfl⟩
end Go.Proofs.YtahigmjpeicemaaDoor

/- The contracts of the reference's Short and ReadShort. -/
namespace Go.Proofs.YtahigmjpeicemaaDoor
open Go.RowKit

theorem own_below {w w' : World} {base : Nat} {e : TypeId} {v : Value} {n : Nat} {xs : List Value} (h : w.ownsRow base e 1 v n xs) (hb : Below w.heap.size w w') : w'.ownsRow base e 1 v n xs := by
  refine ⟨h.1, ?_⟩
  rcases h.2 with h2 | ⟨g, cap, cur, hv, hg, hw, r⟩
  · exact .inl h2
  · refine .inr ⟨g, cap, cur, hv, hg, ?_, r⟩
    rw [hb.block g (Array.getElem?_eq_some_iff.1 hw).1]; exact hw
set_option maxRecDepth 100000 in
set_option maxHeartbeats 1000000 in
theorem refShort_lo (n : Nat) (hn : n < 128) (w : World) :
    Calls Tryd.prog 29 #[.int .u64 (n : Int)] w fun e w' => ∃ v, e = .returned v ∧ w'.ownsRow w.heap.size 5 1 v (sh n).length ((sh n).map bc) ∧ Below w.heap.size w w' := by
  obtain ⟨i0, hi, hz0, hz1, hz2⟩ := info_parts info5
  have hlti : (n : Int) < 128 := by omega
  have hown : w.ownsRow w.heap.size 5 1 (.slice none 0 0) 0 [] := World.ownsRow_nil _ _ _ _
  have hsz : w.heap.size ≤ w.heap.size := Nat.le_refl _
  go_enter Tryd.func29, Tryd.ntmps29
  go_wp2_with (at_builtin; refine wpList_append_own _ rfl _ _ 28 rfl w.heap.size 5 i0 (.int .u8 0) 1 1 Tryd.underlying28 hi hz0 hz1 hz2 rfl (by decide) _ _ _ rfl (hown.alloc _) ⟨w.heap.size, 0, none⟩ 1 1 [.int .u8 (n : Int)] rfl rfl news1 one1 (len_ok (by omega)).1 (len_ok (by omega)).2 (al_ok hsz) ?_)
  intro v' w1 hown' hgrow _
  have HO2 : Hid (w1.ownsRow w.heap.size 5 1 v' (sh n).length ((sh n).map bc)) := by
    rw [sh_lo hn]
    simp only [List.map_cons, List.map_nil]
    rw [bc_of (by omega)]
    exact hown'
  have HB2 : Hid (Below w.heap.size w w1) := ((Below.refl _ _).alloc hsz _).grown hgrow (al_ok hsz) (own_block hown)
  clear hown hown' hgrow
  go_wp2_with fail
  go_ret
  exact ⟨_, rfl, HO2.out, HB2.out⟩
set_option maxRecDepth 100000 in
set_option maxHeartbeats 1000000 in
theorem refShort_hi (n : Nat) (hn : ¬ n < 128) (hn2 : n < 18446744073709551616) (w : World)
    (ih : ∀ w, Calls Tryd.prog 29 #[.int .u64 ((n / 128 : Nat) : Int)] w fun e w' => ∃ v, e = .returned v ∧ w'.ownsRow w.heap.size 5 1 v (sh (n / 128)).length ((sh (n / 128)).map bc) ∧ Below w.heap.size w w') :
    Calls Tryd.prog 29 #[.int .u64 (n : Int)] w fun e w' => ∃ v, e = .returned v ∧ w'.ownsRow w.heap.size 5 1 v (sh n).length ((sh n).map bc) ∧ Below w.heap.size w w' := by
  obtain ⟨i0, hi, hz0, hz1, hz2⟩ := info_parts info5
  have hlti : ¬ (n : Int) < 128 := by omega
  have HIH : Hid _ := ih
  obtain ⟨X, HXX⟩ : ∃ X, Hid (X = UInt8.ofNat (n % 128 + 128)) := ⟨_, rfl⟩
  have hl10 := sh_len10 (show n / 128 < 18446744073709551616 by omega)
  have hown : w.ownsRow w.heap.size 5 1 (.slice none 0 0) 0 [] := World.ownsRow_nil _ _ _ _
  have hsz : w.heap.size ≤ w.heap.size := Nat.le_refl _
  clear ih
  go_enter Tryd.func29, Tryd.ntmps29
  go_wp2_with (at_builtin; refine wpList_append_own _ rfl _ _ 28 rfl w.heap.size 5 i0 (.int .u8 0) 1 1 Tryd.underlying28 hi hz0 hz1 hz2 rfl (by decide) _ _ _ rfl (hown.alloc _) ⟨w.heap.size, 0, none⟩ 1 1 [.int .u8 ((n : Int) % 128 + 128)] rfl rfl news1 one1 (len_ok (by omega)).1 (len_ok (by omega)).2 (al_ok hsz) ?_)
  intro v' w1 hown' hgrow _
  have HO1 : Hid (w1.ownsRow w.heap.size 5 1 v' 1 [bc X]) := by
    rw [HXX.out, bc_of (by omega)]
    have e : ((n % 128 + 128 : Nat) : Int) = (n : Int) % 128 + 128 := by omega
    rw [e]
    exact hown'
  have HB1 : Hid (Below w.heap.size w w1) := ((Below.refl _ _).alloc hsz _).grown hgrow (al_ok hsz) (own_block hown)
  clear hown hown' hgrow hsz
  have ed : ((n / 128 : Nat) : Int) = (n : Int) / 128 := by omega
  rw [ed] at HIH
  go_wp2_with fail
  refine (Hid.out HIH _).mono ?_
  rintro e w2 ⟨v2, rfl, o2, b2⟩
  have hown2 : w2.ownsRow w.heap.size 5 1 v' 1 [bc X] := own_below HO1.out b2
  have HB2 : Hid (Below w.heap.size w w2) := HB1.out.trans (b2.mono HB1.out.size)
  have hsz2 := HB2.out.size
  obtain ⟨h00, _⟩ | ⟨sb, so, sc, rfl, _, _, _, _, g6⟩ := reads_own o2
  · have := sh_pos (n / 128); rw [h00] at this; simp at this
  have hps := sh_pos (n / 128)
  clear o2 b2 HO1 HB1
  go_wp2_with (at_builtin; refine wpList_append_own _ rfl _ _ 28 rfl w.heap.size 5 i0 (.int .u8 0) 1 1 Tryd.underlying28 hi hz0 hz1 hz2 rfl (by decide) _ _ _ rfl hown2 ⟨sb, so, none⟩ (sh (n / 128)).length sc ((sh (n / 128)).map bc) rfl (by simp) (newsR g6) one_bc (len_ok (by omega)).1 (len_ok (by omega)).2 hsz2 ?_)
  intro v3 w3 hown3 hgrow3 _
  have HO3 : Hid (w3.ownsRow w.heap.size 5 1 v3 (sh n).length ((sh n).map bc)) := by
    rw [sh_hi hn]
    simp only [List.map_cons, List.length_cons]
    rw [Nat.add_comm, ← HXX.out]
    exact hown3
  have HB3 : Hid (Below w.heap.size w w3) := HB2.out.grown hgrow3 hsz2 (own_block hown2)
  clear hown2 hown3 hgrow3 hsz2 g6
  go_wp2_with fail
  go_ret
  exact ⟨_, rfl, HO3.out, HB3.out⟩
theorem refShort_any (n : Nat) : n < 18446744073709551616 → ∀ w : World,
    Calls Tryd.prog 29 #[.int .u64 (n : Int)] w fun e w' => ∃ v, e = .returned v ∧ w'.ownsRow w.heap.size 5 1 v (sh n).length ((sh n).map bc) ∧ Below w.heap.size w w' := by
  induction n using Nat.strongRecOn with
  | _ n ih =>
    intro hn w
    by_cases h : n < 128
    · exact refShort_lo n h w
    · exact refShort_hi n h hn w (fun w => ih (n / 128) (by omega) (by omega) w)

set_option maxRecDepth 100000 in
set_option maxHeartbeats 1000000 in
theorem refReadShort_some (b off cap : Nat) (l : List UInt8) (h0 : 0 < l.length) (w : World) (hc : ∀ j (h : j < l.length), w.cell? ⟨b, off + j, none⟩ = some (bc l[j])) :
    Calls Tryd.prog 34 #[.slice (some ⟨b, off, none⟩) l.length cap] w fun e w' => e = .returned (.tuple #[.int .u64 (rsF l 0 0).1, .int .i64 (rsF l 0 0).2.1, .int .i64 (rsF l 0 0).2.2]) ∧ Below w.heap.size w w' := by
  go_enter Tryd.func34, Tryd.ntmps34
  go_wp2_with fail
  go_loop [5, 6, 7] (fun x wo i => ∃ k v : Nat, k ≤ l.length ∧ wo = .int .u64 ((128 ^ k : Nat) : Int) ∧ k ≤ 9 ∧ v < 128 ^ k ∧ i = .int .i64 (k : Int) ∧ x = .int .u64 (v : Int) ∧ rsF (l.drop k) k v = rsF l 0 0) (fun _ _ i => l.length - (intOf i).toNat)
  case atStart => exact ⟨0, 0, by omega, rfl, by omega, by decide, rfl, rfl, rfl⟩
  case round =>
    obtain ⟨k, v, hk, rfl, hk9, hv, rfl, rfl, hF⟩ := hrel
    by_cases hlt : k < l.length
    · have hcell := hc k hlt
      have hki : (k : Int) < (l.length : Int) := by omega
      rw [List.drop_eq_getElem_cons hlt, rsF_cons] at hF
      generalize l[k] = x at *
      have hx : x.toNat < 256 := UInt8.toNat_lt x
      unfold bc at hcell
      generalize x.toNat = y at *
      clear hc
      by_cases h9 : k = 9 ∧ 1 < y
      · rw [if_pos h9] at hF
        have HF : Hid _ := hF.symm
        have i1 : ((k : Int) == 9) = true := by simp; omega
        have i2 : ((y : Int) != 0) = true := by simp; omega
        have i3 : ((y : Int) != 1) = true := by simp; omega
        generalize 128 ^ k = q at *
        clear hF h9
        go_wp2_with fail
        go_ret3
        exact ⟨by rw [HF.out]; rfl, Below.refl _ _⟩
      · rw [if_neg h9] at hF
        have hfit := short_fit (y % 128) k hk9 (by omega) (fun h => by omega)
        have hp := pow128 k hk9
        have hw0 : ((y % 128 : Nat) : Int) = (y : Int) % 128 := by omega
        obtain ⟨Z, hZ⟩ : ∃ Z, Z = y % 128 * 128 ^ k := ⟨_, rfl⟩
        have hw1 : IntKind.u64.wrap ((y : Int) % 128 * ((128 ^ k : Nat) : Int)) = (Z : Int) := by
          rw [← hw0, ← Int.natCast_mul, IntKind.wrap_u64, hZ]; omega
        have hw2 : IntKind.u64.wrap ((v : Int) + (Z : Int)) = ((v + Z : Nat) : Int) := by
          rw [IntKind.wrap_u64]; omega
        rw [← hZ] at hF hfit
        by_cases h128 : 128 ≤ y
        · rw [if_pos h128] at hF
          have HF : Hid _ := hF
          have hk8 : k ≤ 8 := by omega
          have i1 : ¬ (y : Int) < 128 := by omega
          have i3 : ((k : Int) == 9) = false := by simp; omega
          have hp1 := pow128 (k + 1) (by omega)
          have hpe : 128 ^ (k + 1) = 128 ^ k * 128 := Nat.pow_succ ..
          have HV2 : Hid (v + Z < 128 ^ (k + 1)) := by
            have h2 : y % 128 * 128 ^ k ≤ 127 * 128 ^ k := Nat.mul_le_mul_right _ (by omega)
            unfold Hid; rw [hZ, hpe]; generalize 128 ^ k = q at *; omega
          have hw3 : IntKind.u64.wrap (((128 ^ k : Nat) : Int) * 128) = ((128 ^ (k + 1) : Nat) : Int) := by
            rw [IntKind.wrap_u64, hpe]; generalize 128 ^ k = q at *; omega
          generalize hq : 128 ^ k = q at *
          generalize hq1 : 128 ^ (k + 1) = q1 at *
          clear hF h9 h128 hpe hp hp1 hZ hfit hw0
          go_wp2_with fail
          go_round
          case rel => exact ⟨k + 1, v + Z, by omega, by rw [hq1], by omega, by rw [hq1]; exact HV2.out, by go_num, by go_num, HF.out⟩
          case measure => simp [intOf]; omega
        · rw [if_neg h128] at hF
          have i1 : (y : Int) < 128 := by omega
          generalize 128 ^ k = q at *
          clear hp hfit hw0 hZ
          by_cases h00 : y = 0 ∧ 0 < k
          · rw [if_pos h00] at hF
            have HF : Hid _ := hF.symm
            have i2 : ((y : Int) == 0) = true := by simp; omega
            have i4 : (0 : Int) < (k : Int) := by omega
            have i7 : ((y : Int) != 0) = false := by simp; omega
            by_cases i5 : k = 9
            · have i3 : ((k : Int) == 9) = true := by simp; omega
              clear hF h9 h128 h00 i5
              go_wp2_with fail
              go_ret3
              exact ⟨by rw [HF.out]; rfl, Below.refl _ _⟩
            · have i3 : ((k : Int) == 9) = false := by simp; omega
              clear hF h9 h128 h00 i5
              go_wp2_with fail
              go_ret3
              exact ⟨by rw [HF.out]; rfl, Below.refl _ _⟩
          · rw [if_neg h00] at hF
            have HF : Hid _ := hF.symm
            by_cases h9b : k = 9
            · have i3 : ((k : Int) == 9) = true := by simp; omega
              have i7 : ((y : Int) != 0) = true := by simp; omega
              have i8 : ((y : Int) != 1) = false := by simp; omega
              have i9 : ((y : Int) == 0) = false := by simp; omega
              clear hF h9 h128 h00 h9b
              go_wp2_with fail
              go_ret3
              exact ⟨by rw [HF.out]; rfl, Below.refl _ _⟩
            · have i3 : ((k : Int) == 9) = false := by simp; omega
              by_cases hy0 : y = 0
              · have i9 : ((y : Int) == 0) = true := by simp; omega
                have i4 : ¬ (0 : Int) < (k : Int) := by omega
                clear hF h9 h128 h00 h9b hy0
                go_wp2_with fail
                go_ret3
                exact ⟨by rw [HF.out]; rfl, Below.refl _ _⟩
              · have i9 : ((y : Int) == 0) = false := by simp; omega
                clear hF h9 h128 h00 h9b hy0
                go_wp2_with fail
                go_ret3
                exact ⟨by rw [HF.out]; rfl, Below.refl _ _⟩
    · have hke : k = l.length := by omega
      subst hke
      rw [List.drop_length] at hF
      have HF : Hid _ := hF.symm
      clear hc hF
      generalize 128 ^ l.length = q at *
      go_wp2_with fail
      go_ret3
      exact ⟨by rw [HF.out]; rfl, Below.refl _ _⟩
set_option maxRecDepth 100000 in
set_option maxHeartbeats 1000000 in
theorem refReadShort_none (a : Option Addr) (cap : Nat) (w : World) :
    Calls Tryd.prog 34 #[.slice a 0 cap] w fun e w' => e = .returned (.tuple #[.int .u64 0, .int .i64 0, .int .i64 10]) ∧ Below w.heap.size w w' := by
  go_enter Tryd.func34, Tryd.ntmps34
  go_wp2_with fail
  go_loop [7] (fun i => i = .int .i64 0) (fun _ => 0)
  case atStart => rfl
  case round =>
    obtain rfl := hrel
    go_wp2_with fail
    go_ret3
    exact ⟨rfl, Below.refl _ _⟩
theorem refReadShort_any (v : Value) (l : List UInt8) (w : World) (h : Reads w v l) :
    Calls Tryd.prog 34 #[v] w fun e w' => e = .returned (.tuple #[.int .u64 (rsF l 0 0).1, .int .i64 (rsF l 0 0).2.1, .int .i64 (rsF l 0 0).2.2]) ∧ Below w.heap.size w w' := by
  rcases h with ⟨rfl, a, cap, rfl, _⟩ | ⟨b, off, cap, rfl, h2, h3, h4, h5, h6⟩
  · exact refReadShort_none a cap w
  · exact refReadShort_some b off cap l h2 w h6
end Go.Proofs.YtahigmjpeicemaaDoor
