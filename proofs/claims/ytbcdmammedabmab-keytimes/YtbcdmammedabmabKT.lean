/- The walk of KeyTimes. -/
import Derived.Test.YtbcdmammedabmabK8
import Derived.Test.YtbcdmammedabmabK9
namespace Go.Proofs.Ytbcdmammedabmab
open Go.RowKit Go.ChangeShapes Go.WideShapes Go.ChangeAt Go.Joins

/-- What Write tells is wrong. -/
def wE (k : Ky) : Int := if rightB k.L k.f k.g = true then 0 else 40
def wB (k : Ky) : List UInt8 := if rightB k.L k.f k.g = true then kb k.L k.f k.g else []
theorem write_any (k : Ky) (w : World) (h : KLies k w) :
    Calls Try.prog 9 #[k.val] w fun e w' => ∃ v, e = .returned (.tuple #[v, .int .i64 (wE k)]) ∧ Reads w' v (wB k) ∧ Below w.heap.size w w' := by
  cases hr : rightB k.L k.f k.g with
  | true =>
    refine (write_yes k hr w h).mono ?_
    rintro e w' ⟨v, rfl, ho, hb⟩
    refine ⟨v, ?_, ?_, hb⟩
    · unfold wE; rw [hr]; rfl
    · unfold wB; rw [hr]; exact ho.reads
  | false =>
    refine (write_no k hr w h).mono ?_
    rintro e w' ⟨rfl, hb⟩
    refine ⟨.slice none 0 0, ?_, ?_, hb⟩
    · unfold wE; rw [hr]; rfl
    · unfold wB; rw [hr]; exact (Own.nil w' 0).reads
theorem wE_cases (k : Ky) : (wE k = 0 ∧ rightB k.L k.f k.g = true ∧ wB k = kb k.L k.f k.g) ∨ (wE k = 40 ∧ rightB k.L k.f k.g = false) := by
  unfold wE wB
  cases h : rightB k.L k.f k.g with
  | true => left; simp
  | false => right; simp
set_option maxRecDepth 100000 in
set_option maxHeartbeats 2000000 in
theorem times_walk (vd : Value) (D : List ByteArray) (vo : Value) (O : List ByteArray) (f t g s : Int) (w : World) (hd : SReads w vd D) (ho : SReads w vo O)
    (hf : (Lit.int .i64 f).wf = true) (ht : (Lit.int .i64 t).wf = true) (hg : (Lit.int .i64 g).wf = true) (hs : (Lit.int .i64 s).wf = true) :
    Calls Try.prog 4 #[vd, vo, .int .i64 f, .int .i64 t, .int .i64 g, .int .i64 s] w fun e w' => e = .returned (.bool true) ∧ Below w.heap.size w w' := by
  have bf := bounds_i64 hf
  have bt := bounds_i64 ht
  have bg := bounds_i64 hg
  have bs := bounds_i64 hs
  clear hf ht hg hs
  obtain ⟨ad, cd, rfl, _⟩ := hd.form
  obtain ⟨ao, co, rfl, _⟩ := ho.form
  have HD : Hid (SReads w (.slice ad D.length cd) D) := hd
  have HO : Hid (SReads w (.slice ao O.length co) O) := ho
  have HK1 : Hid (∀ w', Below w.heap.size w w' → KLies ⟨.slice ad D.length cd, D, f, g⟩ w') := fun w' h => ⟨HD.out.below h, bf.1, bf.2, bg.1, bg.2⟩
  have HK2 : Hid (∀ w', Below w.heap.size w w' → KLies ⟨.slice ad D.length cd, D, t, s⟩ w') := fun w' h => ⟨HD.out.below h, bt.1, bt.2, bs.1, bs.2⟩
  have HK3 : Hid (∀ w', Below w.heap.size w w' → KLies ⟨.slice ao O.length co, O, t, s⟩ w') := fun w' h => ⟨HO.out.below h, bt.1, bt.2, bs.1, bs.2⟩
  clear hd ho bf bt bg bs
  go_enter Try.func4, Try.ntmps4
  go_wp2_with fail
  refine (long_any _ D _ HD.out).mono ?_
  rintro e w1 ⟨rfl, hw⟩
  subst w1
  cases hl1 : longB D with
  | true =>
    clear hl1
    go_wp2_with fail
    refine (alive_any _).mono ?_
    rintro e w2 ⟨rfl, hb2⟩
    have HB2 : Hid (Below w.heap.size w w2) := hb2
    clear hb2
    go_wp2_with fail
    go_ret
    exact ⟨rfl, HB2.out⟩
  | false =>
    clear hl1
    go_wp2_with fail
    refine (long_any _ O _ HO.out).mono ?_
    rintro e w1 ⟨rfl, hw⟩
    subst w1
    cases hl1 : longB O with
    | true =>
      clear hl1
      go_wp2_with fail
      refine (alive_any _).mono ?_
      rintro e w2 ⟨rfl, hb2⟩
      have HB2 : Hid (Below w.heap.size w w2) := hb2
      clear hb2
      go_wp2_with fail
      go_ret
      exact ⟨rfl, HB2.out⟩
    | false =>
      clear hl1
      go_wp2_with fail
      refine (write_any ⟨.slice ad D.length cd, D, f, g⟩ _ (HK1.out _ (Below.refl _ _))).mono ?_
      rintro e w1 ⟨x, rfl, r1, hb1⟩
      have HB1 : Hid (Below w.heap.size w w1) := hb1
      have HR1 : Hid (Reads w1 x (wB ⟨.slice ad D.length cd, D, f, g⟩)) := r1
      clear hb1 r1
      go_wp2_with fail
      refine (write_any ⟨.slice ad D.length cd, D, t, s⟩ _ (HK2.out _ HB1.out)).mono ?_
      rintro e w2 ⟨y, rfl, r2, hb2⟩
      have HB2 : Hid (Below w.heap.size w w2) := HB1.out.trans (hb2.mono HB1.out.size)
      have HX2 : Hid (Reads w2 x (wB ⟨.slice ad D.length cd, D, f, g⟩)) := HR1.out.below hb2
      have HY2 : Hid (Reads w2 y (wB ⟨.slice ad D.length cd, D, t, s⟩)) := r2
      clear hb2 r2 HR1 HB1
      go_wp2_with fail
      refine (write_any ⟨.slice ao O.length co, O, t, s⟩ _ (HK3.out _ HB2.out)).mono ?_
      rintro e w3 ⟨z, rfl, r3, hb3⟩
      have HB3 : Hid (Below w.heap.size w w3) := HB2.out.trans (hb3.mono HB2.out.size)
      have HX3 : Hid (Reads w3 x (wB ⟨.slice ad D.length cd, D, f, g⟩)) := HX2.out.below hb3
      have HY3 : Hid (Reads w3 y (wB ⟨.slice ad D.length cd, D, t, s⟩)) := HY2.out.below hb3
      have HZ3 : Hid (Reads w3 z (wB ⟨.slice ao O.length co, O, t, s⟩)) := r3
      clear hb3 r3 HX2 HY2 HB2
      have C1 := wE_cases ⟨.slice ad D.length cd, D, f, g⟩
      have C2 := wE_cases ⟨.slice ad D.length cd, D, t, s⟩
      have C3 := wE_cases ⟨.slice ao O.length co, O, t, s⟩
      simp only at C1 C2 C3
      have HC1 : Hid _ := C1
      have HC2 : Hid _ := C2
      have HC3 : Hid _ := C3
      clear C1 C2 C3
      generalize wE ⟨.slice ad D.length cd, D, f, g⟩ = e1 at *
      generalize wE ⟨.slice ad D.length cd, D, t, s⟩ = e2 at *
      generalize wE ⟨.slice ao O.length co, O, t, s⟩ = e3 at *
      rcases HC1.out with ⟨rfl, R1, B1⟩ | ⟨rfl, _⟩
      · rcases HC2.out with ⟨rfl, R2, B2⟩ | ⟨rfl, _⟩
        · have hcx := reads_text HX3.out
          have hcy := reads_text HY3.out
          rw [B1] at hcx
          rw [B2] at hcy
          have hXY : Op.bytesLess (kb D f g) (kb D t s) = decide (f < t ∨ f = t ∧ g < s) := by
            rw [kb_form, kb_form, jb_less, if_pos ((cmpL_zero _ _).2 rfl), tail_less _ _ _ _ (right_facts R1).2 (right_facts R2).2]
          have HCX : Hid _ := hcx
          have HR1 : Hid _ := R1
          clear B2 HC1 HC2 R1 R2
          have HREST : Hid (wB ⟨.slice ad D.length cd, D, f, g⟩ = kb D f g) := B1
          clear B1
          by_cases q1 : f < t
          · rw [decide_eq_true (by omega)] at hXY
            go_wp2_with fail
            refine (order_any _ _ D O _ (HD.out.below HB3.out) (HO.out.below HB3.out)).mono ?_
            rintro e w4 ⟨rfl, hb4⟩
            have HB4 : Hid (Below w.heap.size w w4) := HB3.out.trans (hb4.mono HB3.out.size)
            have HX4 : Hid (Reads w4 x (wB ⟨.slice ad D.length cd, D, f, g⟩)) := HX3.out.below hb4
            have HZ4 : Hid (Reads w4 z (wB ⟨.slice ao O.length co, O, t, s⟩)) := HZ3.out.below hb4
            clear hb4 hcx hcy hXY
            go_wp2_with fail
            refine (alive_any _).mono ?_
            rintro e w5 ⟨rfl, hb5⟩
            have HB5 : Hid (Below w.heap.size w w5) := HB4.out.trans (hb5.mono HB4.out.size)
            have hcx := reads_text (HX4.out.below hb5)
            have hcz := reads_text (HZ4.out.below hb5)
            rw [HREST.out] at hcx
            clear hb5
            rcases HC3.out with ⟨rfl, R3, B3⟩ | ⟨rfl, _⟩
            · rw [B3] at hcz
              by_cases n0 : cmpL D O = 0
              · have i0 : (cmpL D O == 0) = true := by simpa using n0
                clear n0 HC3 B3 R3
                go_wp2_with fail
                go_ret
                exact ⟨by first | rfl | (exact ret_bool (by simp [*])), HB5.out⟩
              · have i0 : (cmpL D O == 0) = false := by simpa using n0
                have hXZ : Op.bytesLess (kb D f g) (kb O t s) = decide (cmpL D O < 0) := by rw [kb_form, kb_form, jb_less, if_neg n0]
                clear n0 HC3 B3 R3
                by_cases n1 : cmpL D O < 0
                · rw [decide_eq_true n1] at hXZ
                  go_wp2_with fail
                  go_ret
                  exact ⟨by first | rfl | (exact ret_bool (by simp [*])), HB5.out⟩
                · have d1 : decide (cmpL D O < 0) = false := decide_eq_false n1; rw [d1] at hXZ
                  go_wp2_with fail
                  go_ret
                  exact ⟨by first | rfl | (exact ret_bool (by simp [*])), HB5.out⟩
            · clear HC3 hcz hcx
              go_wp2_with fail
              go_ret
              exact ⟨by first | rfl | (exact ret_bool (by simp [*])), HB5.out⟩
          · by_cases q2 : f = t
            · have i2 : (f == t) = true := by simpa using q2
              by_cases q3 : g < s
              · rw [decide_eq_true (by omega)] at hXY
                clear q2
                go_wp2_with fail
                refine (order_any _ _ D O _ (HD.out.below HB3.out) (HO.out.below HB3.out)).mono ?_
                rintro e w4 ⟨rfl, hb4⟩
                have HB4 : Hid (Below w.heap.size w w4) := HB3.out.trans (hb4.mono HB3.out.size)
                have HX4 : Hid (Reads w4 x (wB ⟨.slice ad D.length cd, D, f, g⟩)) := HX3.out.below hb4
                have HZ4 : Hid (Reads w4 z (wB ⟨.slice ao O.length co, O, t, s⟩)) := HZ3.out.below hb4
                clear hb4 hcx hcy hXY
                go_wp2_with fail
                refine (alive_any _).mono ?_
                rintro e w5 ⟨rfl, hb5⟩
                have HB5 : Hid (Below w.heap.size w w5) := HB4.out.trans (hb5.mono HB4.out.size)
                have hcx := reads_text (HX4.out.below hb5)
                have hcz := reads_text (HZ4.out.below hb5)
                rw [HREST.out] at hcx
                clear hb5
                rcases HC3.out with ⟨rfl, R3, B3⟩ | ⟨rfl, _⟩
                · rw [B3] at hcz
                  by_cases n0 : cmpL D O = 0
                  · have i0 : (cmpL D O == 0) = true := by simpa using n0
                    clear n0 HC3 B3 R3
                    go_wp2_with fail
                    go_ret
                    exact ⟨by first | rfl | (exact ret_bool (by simp [*])), HB5.out⟩
                  · have i0 : (cmpL D O == 0) = false := by simpa using n0
                    have hXZ : Op.bytesLess (kb D f g) (kb O t s) = decide (cmpL D O < 0) := by rw [kb_form, kb_form, jb_less, if_neg n0]
                    clear n0 HC3 B3 R3
                    by_cases n1 : cmpL D O < 0
                    · rw [decide_eq_true n1] at hXZ
                      go_wp2_with fail
                      go_ret
                      exact ⟨by first | rfl | (exact ret_bool (by simp [*])), HB5.out⟩
                    · have d1 : decide (cmpL D O < 0) = false := decide_eq_false n1; rw [d1] at hXZ
                      go_wp2_with fail
                      go_ret
                      exact ⟨by first | rfl | (exact ret_bool (by simp [*])), HB5.out⟩
                · clear HC3 hcz hcx
                  go_wp2_with fail
                  go_ret
                  exact ⟨by first | rfl | (exact ret_bool (by simp [*])), HB5.out⟩
              · rw [decide_eq_false (by omega)] at hXY
                clear q2
                go_wp2_with fail
                refine (order_any _ _ D O _ (HD.out.below HB3.out) (HO.out.below HB3.out)).mono ?_
                rintro e w4 ⟨rfl, hb4⟩
                have HB4 : Hid (Below w.heap.size w w4) := HB3.out.trans (hb4.mono HB3.out.size)
                have HX4 : Hid (Reads w4 x (wB ⟨.slice ad D.length cd, D, f, g⟩)) := HX3.out.below hb4
                have HZ4 : Hid (Reads w4 z (wB ⟨.slice ao O.length co, O, t, s⟩)) := HZ3.out.below hb4
                clear hb4 hcx hcy hXY
                go_wp2_with fail
                refine (alive_any _).mono ?_
                rintro e w5 ⟨rfl, hb5⟩
                have HB5 : Hid (Below w.heap.size w w5) := HB4.out.trans (hb5.mono HB4.out.size)
                have hcx := reads_text (HX4.out.below hb5)
                have hcz := reads_text (HZ4.out.below hb5)
                rw [HREST.out] at hcx
                clear hb5
                rcases HC3.out with ⟨rfl, R3, B3⟩ | ⟨rfl, _⟩
                · rw [B3] at hcz
                  by_cases n0 : cmpL D O = 0
                  · have i0 : (cmpL D O == 0) = true := by simpa using n0
                    clear n0 HC3 B3 R3
                    go_wp2_with fail
                    go_ret
                    exact ⟨by first | rfl | (exact ret_bool (by simp [*])), HB5.out⟩
                  · have i0 : (cmpL D O == 0) = false := by simpa using n0
                    have hXZ : Op.bytesLess (kb D f g) (kb O t s) = decide (cmpL D O < 0) := by rw [kb_form, kb_form, jb_less, if_neg n0]
                    clear n0 HC3 B3 R3
                    by_cases n1 : cmpL D O < 0
                    · rw [decide_eq_true n1] at hXZ
                      go_wp2_with fail
                      go_ret
                      exact ⟨by first | rfl | (exact ret_bool (by simp [*])), HB5.out⟩
                    · have d1 : decide (cmpL D O < 0) = false := decide_eq_false n1; rw [d1] at hXZ
                      go_wp2_with fail
                      go_ret
                      exact ⟨by first | rfl | (exact ret_bool (by simp [*])), HB5.out⟩
                · clear HC3 hcz hcx
                  go_wp2_with fail
                  go_ret
                  exact ⟨by first | rfl | (exact ret_bool (by simp [*])), HB5.out⟩
            · have i2 : (f == t) = false := by simpa using q2
              rw [decide_eq_false (by omega)] at hXY
              clear q2
              go_wp2_with fail
              refine (order_any _ _ D O _ (HD.out.below HB3.out) (HO.out.below HB3.out)).mono ?_
              rintro e w4 ⟨rfl, hb4⟩
              have HB4 : Hid (Below w.heap.size w w4) := HB3.out.trans (hb4.mono HB3.out.size)
              have HX4 : Hid (Reads w4 x (wB ⟨.slice ad D.length cd, D, f, g⟩)) := HX3.out.below hb4
              have HZ4 : Hid (Reads w4 z (wB ⟨.slice ao O.length co, O, t, s⟩)) := HZ3.out.below hb4
              clear hb4 hcx hcy hXY
              go_wp2_with fail
              refine (alive_any _).mono ?_
              rintro e w5 ⟨rfl, hb5⟩
              have HB5 : Hid (Below w.heap.size w w5) := HB4.out.trans (hb5.mono HB4.out.size)
              have hcx := reads_text (HX4.out.below hb5)
              have hcz := reads_text (HZ4.out.below hb5)
              rw [HREST.out] at hcx
              clear hb5
              rcases HC3.out with ⟨rfl, R3, B3⟩ | ⟨rfl, _⟩
              · rw [B3] at hcz
                by_cases n0 : cmpL D O = 0
                · have i0 : (cmpL D O == 0) = true := by simpa using n0
                  clear n0 HC3 B3 R3
                  go_wp2_with fail
                  go_ret
                  exact ⟨by first | rfl | (exact ret_bool (by simp [*])), HB5.out⟩
                · have i0 : (cmpL D O == 0) = false := by simpa using n0
                  have hXZ : Op.bytesLess (kb D f g) (kb O t s) = decide (cmpL D O < 0) := by rw [kb_form, kb_form, jb_less, if_neg n0]
                  clear n0 HC3 B3 R3
                  by_cases n1 : cmpL D O < 0
                  · rw [decide_eq_true n1] at hXZ
                    go_wp2_with fail
                    go_ret
                    exact ⟨by first | rfl | (exact ret_bool (by simp [*])), HB5.out⟩
                  · have d1 : decide (cmpL D O < 0) = false := decide_eq_false n1; rw [d1] at hXZ
                    go_wp2_with fail
                    go_ret
                    exact ⟨by first | rfl | (exact ret_bool (by simp [*])), HB5.out⟩
              · clear HC3 hcz hcx
                go_wp2_with fail
                go_ret
                exact ⟨by first | rfl | (exact ret_bool (by simp [*])), HB5.out⟩
        · clear HC1 HC2 HC3
          go_wp2_with fail
          refine (alive_any _).mono ?_
          rintro e w4 ⟨rfl, hb4⟩
          have HB4 : Hid (Below w.heap.size w w4) := HB3.out.trans (hb4.mono HB3.out.size)
          clear hb4
          go_wp2_with fail
          go_ret
          exact ⟨rfl, HB4.out⟩
      · clear HC1 HC2 HC3
        go_wp2_with fail
        refine (alive_any _).mono ?_
        rintro e w4 ⟨rfl, hb4⟩
        have HB4 : Hid (Below w.heap.size w w4) := HB3.out.trans (hb4.mono HB3.out.size)
        clear hb4
        go_wp2_with fail
        go_ret
        exact ⟨rfl, HB4.out⟩
end Go.Proofs.Ytbcdmammedabmab
