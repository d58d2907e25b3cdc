/- K13 K14 MG20 MG22 MG23, joined. -/
import Derived.Test.YtoenijflijfogaaGreatRC8
import Derived.Test.YtoenijflijfogaaGreatRC17
import Derived.Test.YtoenijflijfogaaGreatRC18
import Derived.Test.YtoenijflijfogaaGreatRC40
/- The contract of the reference's Write. -/
namespace Go.Proofs.YtoenijflijfogaaGreat
open Go.RowKit

set_option maxRecDepth 100000 in
set_option maxHeartbeats 1000000 in
theorem refWrite_no (k : Ky) (hn : rightBK k.L k.f k.g = false) (w : World) (h : KLies k w) :
    Calls Tryz.prog 42 #[k.val] w fun e w' => e = .returned (.tuple #[.slice none 0 0, .int .i64 40]) ∧ Below w.heap.size w w' := by
  obtain ⟨a, cap, hv, _⟩ := h.r.form
  obtain ⟨v, L, f, g⟩ := k
  simp only at hv
  subst hv
  have HX : Hid (Below (w.heap.size + 1) (w.alloc (.cells #[.slice a L.length cap, .int .i64 f, .int .i64 g] 70)) (w.alloc (.cells #[.slice a L.length cap, .int .i64 f, .int .i64 g] 70))) := Below.refl _ _
  have HK0 := h.below (box_below HX.out)
  unfold Ky.val
  simp only at HK0 hn ⊢
  clear h
  go_enter Tryz.func42, Tryz.ntmps42
  go_wp2_with fail
  refine (refRight_anyK ⟨.slice a L.length cap, L, f, g⟩ _ HK0).mono ?_
  rw [hn]
  rintro e w1 ⟨rfl, hb1⟩
  have HB1 : Hid (Below w.heap.size w w1) := box_below (HX.out.trans (hb1.mono (by simp)))
  clear hb1 HK0 hn
  go_wp2_with fail
  go_ret2
  exact ⟨rfl, HB1.out⟩
set_option maxRecDepth 100000 in
set_option maxHeartbeats 1000000 in
theorem refWrite_yes (k : Ky) (hn : rightBK k.L k.f k.g = true) (w : World) (h : KLies k w) :
    Calls Tryz.prog 42 #[k.val] w fun e w' => ∃ v, e = .returned (.tuple #[v, .int .i64 0]) ∧ Own w' w.heap.size v (kb k.L k.f k.g) ∧ Below w.heap.size w w' := by
  obtain ⟨a, cap, hv, _⟩ := h.r.form
  obtain ⟨v, L, f, g⟩ := k
  simp only at hv
  subst hv
  have HX : Hid (Below (w.heap.size + 1) (w.alloc (.cells #[.slice a L.length cap, .int .i64 f, .int .i64 g] 70)) (w.alloc (.cells #[.slice a L.length cap, .int .i64 f, .int .i64 g] 70))) := Below.refl _ _
  have HK0 := h.below (box_below HX.out)
  have HKA : Hid (KLies ⟨.slice a L.length cap, L, f, g⟩ w) := h
  obtain ⟨_, f1, f2, g1, g2⟩ := h
  unfold Ky.val
  simp only at HK0 hn f1 f2 g1 g2 ⊢
  have HRT : Hid (rightBK L f g = true) := hn
  obtain ⟨hmb, q1, q2, q3, q4⟩ := right_facts hn
  have HM : Hid (mayB L = true) := hmb
  have hjl : (jn L).length ≤ 141 := by
    obtain ⟨m1, m2⟩ := mayB_iff.1 HM.out
    have := jb_len L m2
    unfold jn; simp; omega
  clear hmb
  go_enter Tryz.func42, Tryz.ntmps42
  go_wp2_with fail
  refine (refRight_anyK ⟨.slice a L.length cap, L, f, g⟩ _ HK0).mono ?_
  rw [hn]
  rintro e w1 ⟨rfl, hb1⟩
  have HX1 : Hid (Below (w.heap.size + 1) (w.alloc (.cells #[.slice a L.length cap, .int .i64 f, .int .i64 g] 70)) w1) := HX.out.trans (hb1.mono (by simp))
  have HS1 : Hid (w.heap.size + 1 ≤ w1.heap.size) := by have := HX1.out.size; unfold Hid; simpa using this
  obtain ⟨k0, k1, k2⟩ := kbox HX1.out
  clear hb1 HK0 hn HX
  go_wp2_with fail
  refine (refGroup_yes _ L HM.out _ (HKA.out.below (box_below HX1.out)).r).mono ?_
  rintro e w2 ⟨v2, rfl, HO2, hb2⟩
  have HX2 : Hid (Below (w.heap.size + 1) (w.alloc (.cells #[.slice a L.length cap, .int .i64 f, .int .i64 g] 70)) w2) := HX1.out.trans (hb2.mono HS1.out)
  have HS2 : Hid (w.heap.size + 1 ≤ w2.heap.size) := Nat.le_trans HS1.out hb2.size
  have HO2' : Own w2 (w.heap.size + 1) v2 (jn L) := HO2.mono HS1.out
  clear hb2 HO2 HX1 HS1 k0 k1 k2
  obtain ⟨k0, k1, k2⟩ := kbox HX2.out
  go_wp2_with fail
  refine (refNumber_any f f1 f2 _).mono ?_
  rintro e w3 ⟨v3, rfl, o3, b3⟩
  have HX3 : Hid (Below (w.heap.size + 1) (w.alloc (.cells #[.slice a L.length cap, .int .i64 f, .int .i64 g] 70)) w3) := HX2.out.trans (b3.mono HS2.out)
  have hs3 : w.heap.size + 1 ≤ w3.heap.size := Nat.le_trans HS2.out b3.size
  have HO3 : Own w3 (w.heap.size + 1) v2 (jn L) := HO2'.below b3
  have HR3 : Reads w3 v3 (nb f) := reads_own o3
  obtain ⟨M1, HM1⟩ := hid_ex (jn L ++ nb f)
  clear b3 o3 HO2' HX2 HS2 k0 k1 k2
  have hnl : (nb f).length = 8 := nb_len f
  go_wp2_with (at_builtin; refine wpList_app rfl _ _ rfl (w.heap.size + 1) _ _ (jn L) (nb f) M1 HM1.out rfl rfl HO3 HR3 (by omega) hs3 ?_)
  intro v4 w4 HO4 hb4
  have HX4 : Hid (Below (w.heap.size + 1) (w.alloc (.cells #[.slice a L.length cap, .int .i64 f, .int .i64 g] 70)) w4) := HX3.out.trans hb4.out
  have hs4 : w.heap.size + 1 ≤ w4.heap.size := Nat.le_trans hs3 hb4.out.size
  obtain ⟨k0, k1, k2⟩ := kbox HX4.out
  have HU : Hid (Value.int .u8 g = bc (UInt8.ofNat g.toNat)) := by
    unfold Hid bc
    rw [UInt8.toNat_ofNat', show ((g.toNat % 2 ^ 8 : Nat) : Int) = g by omega]
  obtain ⟨M2, HM2⟩ := hid_ex (M1 ++ [UInt8.ofNat g.toNat])
  have HE : Hid (M2 = kb L f g) := by rw [HM2.out, HM1.out]; rfl
  have hm1 : M1.length ≤ 149 := by rw [HM1.out, List.length_append, nb_len]; omega
  clear hb4 HO3 HR3 HX3 hs3 hnl
  go_wp2_with (at_builtin; refine wpList_app1 rfl _ _ rfl (w.heap.size + 1) _ M1 (UInt8.ofNat g.toNat) M2 HM2.out HU.out rfl rfl HO4 (by omega) hs4 ?_)
  intro v5 w5 HO5 hb5
  have HB5 : Hid (Below w.heap.size w w5) := box_below (HX4.out.trans hb5.out)
  clear hb5 HO4 k0 k1 k2 HX4 HU
  go_wp2_with fail
  go_ret2
  exact ⟨_, rfl, by rw [← HE.out]; exact HO5.mono (by omega), HB5.out⟩
end Go.Proofs.YtoenijflijfogaaGreat

/- The contract of the reference's Read. -/
namespace Go.Proofs.YtoenijflijfogaaGreat
open Go.RowKit

/-- What the reference parts: the dimensions, and what stands behind them. -/
def rpF : Nat → List UInt8 → List ByteArray → Option (List ByteArray × List UInt8)
  | 0, r, A => some (A, r)
  | _ + 1, [], A => some (A, [])
  | n + 1, x :: r, A => if x.toNat = 1 then (if (rtF r [] 0).2.2 = 0 then rpF n (r.drop (rtF r [] 0).2.1) (A ++ [⟨(rtF r [] 0).1.toArray⟩]) else none) else some (A, x :: r)
theorem rpF_jb (L : List ByteArray) : ∀ (n : Nat) (T : List UInt8) (A : List ByteArray), L.length < n → rpF n (jb L ++ 0 :: T) A = some (A ++ L, 0 :: T) := by
  induction L with
  | nil =>
    intro n T A h
    cases n with
    | zero => simp at h
    | succ n => show rpF (n + 1) (0 :: T) A = _; rw [rpF, if_neg (by decide)]; simp
  | cons s L ih =>
    intro n T A h
    cases n with
    | zero => simp at h
    | succ n =>
      have e : rtF (tx s.data.toList ++ (jb L ++ 0 :: T)) [] 0 = (s.data.toList, (tx s.data.toList).length, 0) := by
        unfold tx
        simp only [List.append_assoc, List.cons_append, List.nil_append]
        rw [rtF_tx]
        simp [tx]
      rw [jb_cons, List.cons_append, List.append_assoc, rpF, if_pos (by decide), e]
      simp only [if_true, List.drop_left]
      rw [ih n T _ (by simpa using h)]
      have e2 : (⟨s.data.toList.toArray⟩ : ByteArray) = s := by cases s; simp
      rw [e2]; simp
theorem jb_ge (L : List ByteArray) : L.length ≤ (jb L).length := by
  induction L with
  | nil => simp [jb]
  | cons s L ih => rw [jb_cons]; simp; omega
theorem rdF_rp {l : List UInt8} {D : List ByteArray} {f g : Int} (h : rdF l = some (D, f, g)) : rpF (l.length + 1) l [] = some (D, 0 :: (nb f ++ [UInt8.ofNat g.toNat])) := by
  obtain ⟨_, hk⟩ := rdF_taken h
  rw [← hk, kb_form, rpF_jb D _ _ [] (by have := jb_ge D; simp; omega)]
  simp
/-- Three cells of one's own. -/
def KBx (b : Nat) (w : World) (x y z : Value) : Prop := (w.cell? ⟨b, 0, none⟩ = some x ∧ w.cell? ⟨b, 1, none⟩ = some y ∧ w.cell? ⟨b, 2, none⟩ = some z) ∧ w.frozen? ⟨b, 0, none⟩ = false ∧ w.frozen? ⟨b, 1, none⟩ = false ∧ w.frozen? ⟨b, 2, none⟩ = false
theorem KBx.below {b n : Nat} {w w' : World} {x y z : Value} (h : KBx b w x y z) (hb : Below n w w') (hn : b < n) : KBx b w' x y z := by
  obtain ⟨⟨h1, h2, h3⟩, h4, h5, h6⟩ := h
  exact ⟨⟨(hb.cell (p := ⟨b, 0, none⟩) hn).trans h1, (hb.cell (p := ⟨b, 1, none⟩) hn).trans h2, (hb.cell (p := ⟨b, 2, none⟩) hn).trans h3⟩, (hb.frozen (p := ⟨b, 0, none⟩) hn).trans h4, (hb.frozen (p := ⟨b, 1, none⟩) hn).trans h5, (hb.frozen (p := ⟨b, 2, none⟩) hn).trans h6⟩
theorem KBx.set0 {b : Nat} {w : World} {x y z u : Value} (h : KBx b w x y z) : KBx b (w.setCell ⟨b, 0, none⟩ u) u y z := by
  obtain ⟨⟨h1, h2, h3⟩, h4, h5, h6⟩ := h
  exact ⟨⟨World.cell?_setCell_same' _ _ _ (by rw [h1]; rfl), (World.cell?_setCell_other w ⟨b, 0, none⟩ ⟨b, 1, none⟩ u (by simp)).trans h2, (World.cell?_setCell_other w ⟨b, 0, none⟩ ⟨b, 2, none⟩ u (by simp)).trans h3⟩, by rw [World.frozen?_setCell]; exact h4, by rw [World.frozen?_setCell]; exact h5, by rw [World.frozen?_setCell]; exact h6⟩
theorem KBx.set1 {b : Nat} {w : World} {x y z u : Value} (h : KBx b w x y z) : KBx b (w.setCell ⟨b, 1, none⟩ u) x u z := by
  obtain ⟨⟨h1, h2, h3⟩, h4, h5, h6⟩ := h
  exact ⟨⟨(World.cell?_setCell_other w ⟨b, 1, none⟩ ⟨b, 0, none⟩ u (by simp)).trans h1, World.cell?_setCell_same' _ _ _ (by rw [h2]; rfl), (World.cell?_setCell_other w ⟨b, 1, none⟩ ⟨b, 2, none⟩ u (by simp)).trans h3⟩, by rw [World.frozen?_setCell]; exact h4, by rw [World.frozen?_setCell]; exact h5, by rw [World.frozen?_setCell]; exact h6⟩
theorem KBx.set2 {b : Nat} {w : World} {x y z u : Value} (h : KBx b w x y z) : KBx b (w.setCell ⟨b, 2, none⟩ u) x y u := by
  obtain ⟨⟨h1, h2, h3⟩, h4, h5, h6⟩ := h
  exact ⟨⟨(World.cell?_setCell_other w ⟨b, 2, none⟩ ⟨b, 0, none⟩ u (by simp)).trans h1, (World.cell?_setCell_other w ⟨b, 2, none⟩ ⟨b, 1, none⟩ u (by simp)).trans h2, World.cell?_setCell_same' _ _ _ (by rw [h3]; rfl)⟩, by rw [World.frozen?_setCell]; exact h4, by rw [World.frozen?_setCell]; exact h5, by rw [World.frozen?_setCell]; exact h6⟩
theorem KBx.new (w : World) (x y z : Value) (t : TypeId) : KBx w.heap.size (w.alloc (.cells #[x, y, z] t)) x y z := by
  refine ⟨⟨?_, ?_, ?_⟩, ?_, ?_, ?_⟩ <;> simp
theorem SOwn.set {w : World} {base : Nat} {v : Value} {L : List ByteArray} {b o : Nat} {x : Value} (h : SOwn w base v L) (hb : b < base) : SOwn (w.setCell ⟨b, o, none⟩ x) base v L := by
  obtain ⟨⟨h1, h2⟩, h3⟩ := h
  refine ⟨⟨h1, ?_⟩, h3⟩
  rcases h2 with h2 | ⟨g, cap, cur, hv, hg, hw, r⟩
  · exact .inl h2
  · exact .inr ⟨g, cap, cur, hv, hg, (Below.heap_setCell w ⟨b, o, none⟩ x g (by simp; omega)).trans hw, r⟩
theorem rp_end10 {l r : List UInt8} {A : List ByteArray} (h : rpF (l.length + 1) l [] = some (A, r)) (hr : r.length ≠ 10) : rdF l = none := by
  cases hd : rdF l with
  | none => rfl
  | some q =>
    obtain ⟨D, f, g⟩ := q
    rw [rdF_rp hd] at h
    simp only [Option.some.injEq, Prod.mk.injEq] at h
    rw [← h.2] at hr
    simp [nb_len] at hr
theorem rp_none {l : List UInt8} (h : rpF (l.length + 1) l [] = none) : rdF l = none := by
  cases hd : rdF l with
  | none => rfl
  | some q =>
    obtain ⟨D, f, g⟩ := q
    rw [rdF_rp hd] at h
    simp at h
theorem rp_end {l t : List UInt8} {x : UInt8} {A : List ByteArray} (h : rpF (l.length + 1) l [] = some (A, x :: t)) : rdF l = if rightBK A (rnF t).1 ((t.getD 8 0).toNat : Int) = true ∧ kb A (rnF t).1 ((t.getD 8 0).toNat : Int) = l then some (A, (rnF t).1, ((t.getD 8 0).toNat : Int)) else none := by
  cases hd : rdF l with
  | none =>
    rw [if_neg]
    rintro ⟨h1, h2⟩
    have := rdF_kb _ _ _ h1
    rw [h2, hd] at this
    simp at this
  | some q =>
    obtain ⟨D, f, g⟩ := q
    obtain ⟨h1, h2⟩ := rdF_taken hd
    rw [rdF_rp hd] at h
    simp only [Option.some.injEq, Prod.mk.injEq, List.cons.injEq] at h
    obtain ⟨rfl, rfl, rfl⟩ := h
    obtain ⟨_, q1, q2, q3, q4⟩ := right_facts h1
    have e8 : ((nb f ++ [UInt8.ofNat g.toNat]).getD 8 0) = UInt8.ofNat g.toNat := by
      rw [List.getD_eq_getElem?_getD, List.getElem?_append_right (by rw [nb_len]; omega), nb_len]; rfl
    have e9 : ((UInt8.ofNat g.toNat).toNat : Int) = g := by rw [UInt8.toNat_ofNat']; omega
    rw [e8, e9, rnF_nb f (by omega) (by omega)]
    simp only
    rw [if_pos ⟨h1, h2⟩]
set_option maxRecDepth 100000 in
set_option maxHeartbeats 2000000 in
theorem refRead_any (v : Value) (l : List UInt8) (hl : l.length ≤ 1000) (w : World) (h : Reads w v l) :
    Calls Tryz.prog 54 #[v] w fun e w' => (∃ D f g vd, rdF l = some (D, f, g) ∧ e = .returned (.tuple #[.agg #[vd, .int .i64 f, .int .i64 g], .int .i64 0]) ∧ KLies ⟨vd, D, f, g⟩ w' ∧ Below w.heap.size w w') ∨ (rdF l = none ∧ e = .returned (.tuple #[.agg #[.slice none 0 0, .int .i64 0, .int .i64 0], .int .i64 40]) ∧ Below w.heap.size w w') := by
  obtain ⟨a, cap, rfl, _⟩ := h.form
  have HRL : Hid (Reads w (.slice a l.length cap) l) := h
  clear h
  obtain ⟨W, HW⟩ := hid_ex ((w.alloc (.cells #[.slice none 0 0, .int .i64 0, .int .i64 0] 70)).alloc (.cells #[.slice none 0 0, .int .i64 0, .int .i64 0] 70))
  have HB0 : Hid (Below w.heap.size w W) := by rw [HW.out]; exact box2_below (Below.refl _ _)
  have HZ0 : Hid (w.heap.size + 2 ≤ W.heap.size) := by rw [HW.out]; unfold Hid; simp
  have HT0 : Hid (KBx w.heap.size W (.slice none 0 0) (.int .i64 0) (.int .i64 0)) := by
    rw [HW.out]; exact (KBx.new w _ _ _ _).below ((Below.refl _ _).alloc (Nat.le_refl _) _) (by simp)
  have HK0 : Hid (KBx (w.heap.size + 1) W (.slice none 0 0) (.int .i64 0) (.int .i64 0)) := by
    rw [HW.out]; have := KBx.new (w.alloc (.cells #[.slice none 0 0, .int .i64 0, .int .i64 0] 70)) (.slice none 0 0) (.int .i64 0) (.int .i64 0) 70; unfold Hid; simpa using this
  go_enter Tryz.func54, Tryz.ntmps54
  go_wp2_with fail
  rw [← HW.out]
  clear HW
  go_loopw [5] (fun i wr => ∃ (p n : Nat) (r : List UInt8) (A : List ByteArray) (va : Value), i = .int .i64 (p : Int) ∧ p + r.length = l.length ∧ r.length < n ∧ Hid (l.drop p = r) ∧ Hid (rpF (l.length + 1) l [] = rpF n r A) ∧ A.length ≤ p ∧ Hid (Below w.heap.size w wr) ∧ Hid (w.heap.size + 2 ≤ wr.heap.size) ∧ Hid (KBx w.heap.size wr (.slice none 0 0) (.int .i64 0) (.int .i64 0)) ∧ Hid (KBx (w.heap.size + 1) wr va (.int .i64 0) (.int .i64 0)) ∧ SOwn wr (w.heap.size + 2) va A) (fun i _ => l.length - (intOf i).toNat)
  case atStart => exact ⟨0, l.length + 1, l, [], _, rfl, by omega, by omega, rfl, rfl, by simp, HB0, HZ0, HT0, HK0, SOwn.nil _ _⟩
  case round =>
    obtain ⟨p, n, r, A, va, rfl, hpl, hrn, HD, HP, hAp, HB, HZ, HT, HKb, HO⟩ := hrel
    obtain ⟨m, rfl⟩ : ∃ m, n = m + 1 := ⟨n - 1, by omega⟩
    obtain ⟨⟨t0, t1, t2⟩, t3, t4, t5⟩ := HT.out
    obtain ⟨⟨k0, k1, k2⟩, k3, k4, k5⟩ := HKb.out
    obtain ⟨av, cv, rfl, _⟩ := HO.reads.form
    cases r with
    | nil =>
      have HPE : Hid (rpF (l.length + 1) l [] = some (A, [])) := HP.out
      have h10 : ([] : List UInt8).length ≠ 10 := by simp
      have j0 : ¬ (p : Int) < (l.length : Int) := by simp at hpl; omega
      simp at hpl
      have HN : Hid (rdF l = none) := rp_end10 HPE.out h10
      have j1 : ((l.length : Int) - (p : Int) != 10) = true := by simp; omega
      clear HP HPE h10
      go_wp2_with fail
      refine bodyPost_ret (v := .tuple #[.agg #[.slice none 0 0, .int .i64 0, .int .i64 0], .int .i64 40]) (by simp [results, Tryz.results54, go_sem, t0, t1, t2]) rfl (.inr ⟨HN.out, rfl, set3_below HB.out (Nat.le_refl _)⟩)
    | cons x t =>
      have hpl2 : p + (t.length + 1) = l.length := hpl
      have j0 : (p : Int) < (l.length : Int) := by omega
      obtain ⟨b, off, rfl, hbw, hcp⟩ := HRL.out.at p (by omega)
      have HCL : Hid (∀ j (hj : j < l.length), w.cell? ⟨b, off + j, none⟩ = some (bc l[j])) := by
        intro j hj
        obtain ⟨b', off', hv, _, hc⟩ := HRL.out.at j hj
        simp at hv
        obtain ⟨rfl, rfl⟩ := hv
        exact hc
      have hlx : l[p]'(by omega) = x := by
        have h1 := HD.out
        have h2 : (l.drop p)[0]? = (x :: t)[0]? := by rw [h1]
        rw [List.getElem?_drop, List.getElem?_eq_getElem (by omega)] at h2
        simpa using h2
      have hcell := (HB.out.cell (p := ⟨b, off + p, none⟩) hbw).trans hcp
      rw [hlx] at hcell
      unfold bc at hcell
      have hxb : x.toNat < 256 := x.toNat_lt
      have hcap := HRL.out.cap (by omega)
      clear hlx hcp
      by_cases hx1 : x.toNat = 1
      · have j6 : ((x.toNat : Int) == 1) = true := by simp; omega
        have HP3 : Hid (rpF (l.length + 1) l [] = if (rtF t [] 0).2.2 = 0 then rpF m (t.drop (rtF t [] 0).2.1) (A ++ [⟨(rtF t [] 0).1.toArray⟩]) else none) := by
          rw [HP.out, rpF, if_pos hx1]; rfl
        have j2 : (p : Int) + 1 ≤ (l.length : Int) := by omega
        have j3 : (p : Int) + 1 ≤ (cap : Int) := by omega
        have hdt : l.drop (p + 1) = t := by
          have := congrArg (List.drop 1) HD.out
          rw [List.drop_drop] at this
          simpa using this
        have HDT : Hid (l.drop (p + 1) = t) := hdt
        clear hdt hx1 HP
        by_cases hc1 : (cap : Int) = (p : Int) + 1
        · have HZt : Hid (t = []) := by unfold Hid; exact List.length_eq_zero_iff.1 (by omega)
          have HN : Hid (rdF l = none) := rp_none (by rw [HP3.out, HZt.out]; rfl)
          have hl0 : l.length - (p + 1) = 0 := by omega
          go_wp2_with fail
          refine (refReadText_any _ t (by omega) _ (by rw [HZt.out]; (try rw [hl0]); exact reads_nil (fun h => by cases h))).mono ?_
          rw [HZt.out, show rtF [] [] 0 = ([], 0, 10) from rfl]
          rintro e w1 ⟨rfl, hb1⟩
          have HB1 : Hid (Below w.heap.size w w1) := HB.out.trans (hb1.mono HB.out.size)
          have HT1 : Hid (KBx w.heap.size w1 (.slice none 0 0) (.int .i64 0) (.int .i64 0)) := HT.out.below hb1 (by have := HZ.out; omega)
          clear hb1 hcell HT HKb t0 t1 t2 t3 t4 t5 k0 k1 k2 k3 k4 k5
          obtain ⟨⟨t0, t1, t2⟩, t3, t4, t5⟩ := HT1.out
          go_wp2_with fail
          refine bodyPost_ret (v := .tuple #[.agg #[.slice none 0 0, .int .i64 0, .int .i64 0], .int .i64 40]) (by simp [results, Tryz.results54, go_sem, t0, t1, t2]) rfl (.inr ⟨HN.out, rfl, set3_below HB1.out (Nat.le_refl _)⟩)
        · have HRT : Hid (Reads w (.slice (some ⟨b, off + (p + 1), none⟩) (l.length - (p + 1)) (cap - (p + 1))) t) := by
            have h1 := (HRL.out.drop (c := p + 1) (by omega) b off rfl).1 (by omega)
            rw [HDT.out] at h1
            exact h1
          go_wp2_with fail
          refine (refReadText_any _ t (by omega) _ (HRT.out.below HB.out)).mono ?_
          obtain ⟨q, hq⟩ := hid_ex (rtF t [] 0)
          rw [← hq.out] at HP3 ⊢
          have HF : Hid (q.2.2 = 0 → 2 ≤ q.2.1 ∧ q.2.1 ≤ t.length ∧ q.1.length ≤ q.2.1) := by
            intro h
            have := rt_facts (l := t) (S := q.1) (N := q.2.1) (by rw [← hq.out, ← h])
            exact ⟨this.1, this.2.1, this.2.2.1⟩
          obtain ⟨S, N, E⟩ := q
          simp only at HP3 HF ⊢
          rintro e w1 ⟨rfl, hb1⟩
          have HB1 : Hid (Below w.heap.size w w1) := HB.out.trans (hb1.mono HB.out.size)
          have HZ1 : Hid (w.heap.size + 2 ≤ w1.heap.size) := Nat.le_trans HZ.out hb1.size
          have HT1 : Hid (KBx w.heap.size w1 (.slice none 0 0) (.int .i64 0) (.int .i64 0)) := HT.out.below hb1 (by have := HZ.out; omega)
          have HK1 : Hid (KBx (w.heap.size + 1) w1 (.slice av A.length cv) (.int .i64 0) (.int .i64 0)) := HKb.out.below hb1 (by have := HZ.out; omega)
          have HO1 : SOwn w1 (w.heap.size + 2) (.slice av A.length cv) A := HO.below hb1
          clear hb1 hcell HT HKb HO t0 t1 t2 t3 t4 t5 k0 k1 k2 k3 k4 k5 hq HRT
          obtain ⟨⟨t0, t1, t2⟩, t3, t4, t5⟩ := HT1.out
          obtain ⟨⟨k0, k1, k2⟩, k3, k4, k5⟩ := HK1.out
          by_cases hE : E = 0
          · subst hE
            obtain ⟨f1, f2, f3⟩ := HF.out rfl
            have HP4 : Hid (rpF (l.length + 1) l [] = rpF m (t.drop N) (A ++ [⟨S.toArray⟩])) := by rw [HP3.out, if_pos rfl]; rfl
            obtain ⟨A1, HA1⟩ := hid_ex (A ++ [(⟨S.toArray⟩ : ByteArray)])
            have hys : (⟨S.toArray⟩ : ByteArray).size ≤ maxLen := by unfold maxLen; show S.toArray.size ≤ _; simp; omega
            have hs1 := HZ1.out
            rw [← HA1.out] at HP4
            have HA1l : Hid (A1.length = A.length + 1) := by rw [HA1.out]; simp [Hid]
            clear HP3 HF t0 t1 t2 t3 t4 t5
            go_wp2_with (at_builtin; refine wpList_sapp1 rfl _ _ rfl (w.heap.size + 2) _ A A1 HA1.out hys rfl rfl HO1 (by omega) hs1 ?_)
            intro v2 w2 HO2 hb2
            obtain ⟨a2, c2, rfl, _⟩ := HO2.reads.form
            have HB2 : Hid (Below w.heap.size w w2) := HB1.out.trans (hb2.out.mono (by omega))
            have HZ2 : Hid (w.heap.size + 2 ≤ w2.heap.size) := Nat.le_trans HZ1.out hb2.out.size
            have HT2 : Hid (KBx w.heap.size w2 (.slice none 0 0) (.int .i64 0) (.int .i64 0)) := HT1.out.below hb2.out (by omega)
            have HK2 : Hid (KBx (w.heap.size + 1) w2 (.slice av A.length cv) (.int .i64 0) (.int .i64 0)) := HK1.out.below hb2.out (by omega)
            clear hb2 HO1 HT1 HK1 k0 k1 k2 k3 k4 k5 hs1
            obtain ⟨⟨k0, k1, k2⟩, k3, k4, k5⟩ := HK2.out
            have HB3 : Hid (Below w.heap.size w (w2.setCell ⟨w.heap.size + 1, 0, none⟩ (.slice a2 A1.length c2))) := HB2.out.setCell (Nat.le_succ _) _
            have HZ3 : Hid (w.heap.size + 2 ≤ (w2.setCell ⟨w.heap.size + 1, 0, none⟩ (.slice a2 A1.length c2)).heap.size) := by have := HZ2.out; unfold Hid; simpa using this
            have HT3 : Hid (KBx w.heap.size (w2.setCell ⟨w.heap.size + 1, 0, none⟩ (.slice a2 A1.length c2)) (.slice none 0 0) (.int .i64 0) (.int .i64 0)) := HT2.out.below ((Below.refl (w.heap.size + 1) w2).setCell (p := ⟨w.heap.size + 1, 0, none⟩) (Nat.le_refl _) _) (by omega)
            have HK3 : Hid (KBx (w.heap.size + 1) (w2.setCell ⟨w.heap.size + 1, 0, none⟩ (.slice a2 A1.length c2)) (.slice a2 A1.length c2) (.int .i64 0) (.int .i64 0)) := HK2.out.set0
            have HO3 : SOwn (w2.setCell ⟨w.heap.size + 1, 0, none⟩ (.slice a2 A1.length c2)) (w.heap.size + 2) (.slice a2 A1.length c2) A1 := HO2.set (by omega)
            have HDN : Hid (l.drop (p + 1 + N) = t.drop N) := by rw [← HDT.out, List.drop_drop]; rfl
            have hA1 : A1.length ≤ p + 1 + N := by rw [HA1l.out]; omega
            have htn : (t.drop N).length = t.length - N := by simp
            clear HO2 HA1
            go_wp2_with fail
            go_roundw
            case rel => exact ⟨p + 1 + N, m, t.drop N, A1, _, by go_num, by rw [htn]; omega, by rw [htn]; simp at hrn; omega, HDN, HP4, hA1, HB3, HZ3, HT3, HK3, HO3⟩
            case measure => simp [intOf]; omega
          · have HN : Hid (rdF l = none) := rp_none (by rw [HP3.out, if_neg hE])
            have jE : (E == 0) = false := by simpa using hE
            clear HP3 HF hE
            go_wp2_with fail
            refine bodyPost_ret (v := .tuple #[.agg #[.slice none 0 0, .int .i64 0, .int .i64 0], .int .i64 40]) (by simp [results, Tryz.results54, go_sem, t0, t1, t2]) rfl (.inr ⟨HN.out, rfl, set3_below HB1.out (Nat.le_refl _)⟩)
      · have j6 : ((x.toNat : Int) == 1) = false := by simp; omega
        have HPE : Hid (rpF (l.length + 1) l [] = some (A, x :: t)) := by rw [HP.out, rpF, if_neg hx1]; rfl
        clear hx1
        by_cases h10 : (x :: t).length = 10
        · have hr9 : t.length = 9 := by simp at h10; omega
          obtain ⟨q1, q2, q3, q4⟩ := rnF9 hr9
          have HE : Hid _ := rp_end HPE.out
          have HG : Hid ((t.getD 8 0).toNat = (t[8]'(by omega)).toNat) := by simp [Hid, List.getD, hr9]
          obtain ⟨y, HY⟩ := hid_ex (t[8]'(by omega))
          rw [HG.out, ← HY.out] at HE
          have hyb : y.toNat < 256 := y.toNat_lt
          have hc9 := (HB.out.cell (p := ⟨b, off + (p + 9), none⟩) hbw).trans (HCL.out (p + 9) (by omega))
          have hg9 : l[p + 9]'(by omega) = y := by
            rw [HY.out]
            have h1 := HD.out
            have h2 : (l.drop p)[9]? = (x :: t)[9]? := by rw [h1]
            rw [List.getElem?_drop, List.getElem?_eq_getElem (by omega)] at h2
            simp at h2
            rw [List.getElem?_eq_getElem (by omega)] at h2
            exact Option.some.inj h2
          rw [hg9] at hc9
          unfold bc at hc9
          have HRT : Hid (Reads w (.slice (some ⟨b, off + (p + 1), none⟩) (l.length - (p + 1)) (cap - (p + 1))) t) := by
            have h1 := (HRL.out.drop (c := p + 1) (by omega) b off rfl).1 (by omega)
            have h2 : l.drop (p + 1) = t := by
              have := congrArg (List.drop 1) HD.out
              rw [List.drop_drop] at this
              simpa using this
            rw [h2] at h1
            exact h1
          have j1 : ((l.length : Int) - (p : Int) != 10) = false := by simp; omega
          have j2 : (p : Int) + 1 ≤ (l.length : Int) := by omega
          have j3 : (p : Int) + 1 ≤ (cap : Int) := by omega
          have j4 : ¬ (cap : Int) = (p : Int) + 1 := by omega
          have j5 : (p : Int) + 9 < (l.length : Int) := by omega
          clear HG HY hg9 HP HPE h10 hr9
          go_wp2_with fail
          refine (refReadNumber_any _ t _ (HRT.out.below HB.out)).mono ?_
          rw [q1, q2]
          generalize (rnF t).1 = F at *
          rintro e w2 ⟨rfl, hb2⟩
          have HB2 : Hid (Below w.heap.size w w2) := HB.out.trans (hb2.mono HB.out.size)
          have HT2 : Hid (KBx w.heap.size w2 (.slice none 0 0) (.int .i64 0) (.int .i64 0)) := HT.out.below hb2 (by have := HZ.out; omega)
          have HK2 : Hid (KBx (w.heap.size + 1) w2 (.slice av A.length cv) (.int .i64 0) (.int .i64 0)) := HKb.out.below hb2 (by have := HZ.out; omega)
          have hc92 := (hb2.cell (p := ⟨b, off + (p + 9), none⟩) (show b < wr.heap.size by have := HZ.out; omega)).trans hc9
          have HO2 := HO.below hb2
          have HZS : Hid (wr.heap.size ≤ w2.heap.size) := hb2.size
          clear hb2 HO HT HKb hc9 t0 t1 t2 t3 t4 t5 k0 k1 k2 k3 k4 k5 HRT
          obtain ⟨⟨t0, t1, t2⟩, t3, t4, t5⟩ := HT2.out
          obtain ⟨⟨k0, k1, k2⟩, k3, k4, k5⟩ := HK2.out
          have hbn : ¬ w.heap.size + 1 = b := by omega
          have HKF : Hid (KLies ⟨.slice av A.length cv, A, F, (y.toNat : Int)⟩ w2) := ⟨HO2.reads, q3, q4, by show (-9223372036854775808 : Int) ≤ (y.toNat : Int); omega, by show (y.toNat : Int) ≤ 9223372036854775807; omega⟩
          have HGB : Hid (∀ k, (Value.slice av A.length cv).ownBlock = some k → w.heap.size + 1 < k) := fun k hk => by have := own_block HO2.1 k hk; omega
          have HZ2 : Hid (w.heap.size + 2 ≤ w2.heap.size) := Nat.le_trans HZ.out HZS.out
          obtain ⟨W3, HW3⟩ := hid_ex ((w2.setCell ⟨w.heap.size + 1, 1, none⟩ (.int .i64 F)).setCell ⟨w.heap.size + 1, 2, none⟩ (.int .i64 (y.toNat : Int)))
          have HB3 : Hid (Below w.heap.size w W3) := by rw [HW3.out]; exact (HB2.out.setCell (Nat.le_succ _) _).setCell (Nat.le_succ _) _
          have HZ3 : Hid (w.heap.size + 2 ≤ W3.heap.size) := by rw [HW3.out]; have := HZ2.out; unfold Hid; simpa using this
          have HT3 : Hid (KBx w.heap.size W3 (.slice none 0 0) (.int .i64 0) (.int .i64 0)) := by
            rw [HW3.out]
            exact (HT2.out.below ((Below.refl (w.heap.size + 1) w2).setCell (p := ⟨w.heap.size + 1, 1, none⟩) (Nat.le_refl _) _) (by omega)).below ((Below.refl (w.heap.size + 1) _).setCell (p := ⟨w.heap.size + 1, 2, none⟩) (Nat.le_refl _) _) (by omega)
          have HK3 : Hid (KBx (w.heap.size + 1) W3 (.slice av A.length cv) (.int .i64 F) (.int .i64 (y.toNat : Int))) := by
            rw [HW3.out]; exact HK2.out.set1.set2
          have HL3 : KLies ⟨.slice av A.length cv, A, F, (y.toNat : Int)⟩ W3 := by
            rw [HW3.out]; exact ⟨(HKF.out.r.set HGB.out).set HGB.out, HKF.out.f1, HKF.out.f2, HKF.out.g1, HKF.out.g2⟩
          go_wp2_with fail
          rw [← HW3.out]
          clear HW3 HKF HO2 hc92 HT2 HK2 t0 t1 t2 t3 t4 t5 k0 k1 k2 k3 k4 k5
          cases hrt : rightBK A F (y.toNat : Int) with
          | true =>
            refine (refWrite_yes ⟨.slice av A.length cv, A, F, (y.toNat : Int)⟩ hrt _ HL3).mono ?_
            simp only
            rintro e w4 ⟨z, rfl, HO4, hb4⟩
            have HB4 : Hid (Below w.heap.size w w4) := HB3.out.trans (hb4.mono HB3.out.size)
            have HT4 : Hid (KBx w.heap.size w4 (.slice none 0 0) (.int .i64 0) (.int .i64 0)) := HT3.out.below hb4 (by have := HZ3.out; omega)
            have HK4 : Hid (KBx (w.heap.size + 1) w4 (.slice av A.length cv) (.int .i64 F) (.int .i64 (y.toNat : Int))) := HK3.out.below hb4 (by have := HZ3.out; omega)
            have HL4 : Hid (KLies ⟨.slice av A.length cv, A, F, (y.toNat : Int)⟩ w4) := HL3.below hb4
            have hcz := reads_text HO4.reads
            have hcb := reads_text (HRL.out.below HB4.out)
            obtain ⟨⟨t0, t1, t2⟩, t3, t4, t5⟩ := HT4.out
            obtain ⟨⟨k0, k1, k2⟩, k3, k4, k5⟩ := HK4.out
            have hne : ¬ w.heap.size + 1 = w.heap.size := by omega
            by_cases hkl : kb A F (y.toNat : Int) = l
            · have HN : Hid (rdF l = some (A, F, (y.toNat : Int))) := by rw [HE.out, if_pos ⟨hrt, hkl⟩]; rfl
              rw [hkl] at hcz
              clear HE hrt hb4 HO4 hkl HL3
              go_wp2_with fail
              refine bodyPost_ret (v := .tuple #[.agg #[.slice av A.length cv, .int .i64 F, .int .i64 (y.toNat : Int)], .int .i64 0]) (by simp [results, Tryz.results54, go_sem, t0, t1, t2]) rfl (.inl ⟨A, F, (y.toNat : Int), _, HN.out, rfl, ?_, set3_below HB4.out (Nat.le_refl _)⟩)
              have hgb : ∀ k, (Value.slice av A.length cv).ownBlock = some k → w.heap.size < k := fun k hk => by have := HGB.out k hk; omega
              exact ⟨((HL4.out.r.set hgb).set hgb).set hgb, HL4.out.f1, HL4.out.f2, HL4.out.g1, HL4.out.g2⟩
            · have HN : Hid (rdF l = none) := by rw [HE.out, if_neg (fun h => hkl h.2)]; rfl
              have hkb : (kb A F (y.toNat : Int) == l) = false := by simpa using hkl
              clear HE hrt hb4 HO4 hkl HL3
              go_wp2_with fail
              refine bodyPost_ret (v := .tuple #[.agg #[.slice none 0 0, .int .i64 0, .int .i64 0], .int .i64 40]) (by simp [results, Tryz.results54, go_sem, t0, t1, t2]) rfl (.inr ⟨HN.out, rfl, set3_below HB4.out (Nat.le_refl _)⟩)
          | false =>
            refine (refWrite_no ⟨.slice av A.length cv, A, F, (y.toNat : Int)⟩ hrt _ HL3).mono ?_
            rintro e w4 ⟨rfl, hb4⟩
            have HB4 : Hid (Below w.heap.size w w4) := HB3.out.trans (hb4.mono HB3.out.size)
            have HT4 : Hid (KBx w.heap.size w4 (.slice none 0 0) (.int .i64 0) (.int .i64 0)) := HT3.out.below hb4 (by have := HZ3.out; omega)
            obtain ⟨⟨t0, t1, t2⟩, t3, t4, t5⟩ := HT4.out
            have HN : Hid (rdF l = none) := by rw [HE.out, if_neg (fun h => by rw [hrt] at h; simp at h)]; rfl
            clear HE hrt hb4 HL3
            go_wp2_with fail
            refine bodyPost_ret (v := .tuple #[.agg #[.slice none 0 0, .int .i64 0, .int .i64 0], .int .i64 40]) (by simp [results, Tryz.results54, go_sem, t0, t1, t2]) rfl (.inr ⟨HN.out, rfl, set3_below HB4.out (Nat.le_refl _)⟩)
        · have HN : Hid (rdF l = none) := rp_end10 HPE.out h10
          have j1 : ((l.length : Int) - (p : Int) != 10) = true := by simp; omega
          clear HP HPE h10
          go_wp2_with fail
          refine bodyPost_ret (v := .tuple #[.agg #[.slice none 0 0, .int .i64 0, .int .i64 0], .int .i64 40]) (by simp [results, Tryz.results54, go_sem, t0, t1, t2]) rfl (.inr ⟨HN.out, rfl, set3_below HB.out (Nat.le_refl _)⟩)
end Go.Proofs.YtoenijflijfogaaGreat

/- Each entry is told once, row by row. -/
namespace Go.Proofs.YtoenijflijfogaaGreat

end Go.Proofs.YtoenijflijfogaaGreat

/- How many of each row have been told, in memory; and what was told last. -/
namespace Go.Proofs.YtoenijflijfogaaGreat
open Go.RowKit Go.Joins

/-- A row of numbers. -/
def AtM (W : World) (g n : Nat) (c : Nat → Nat) : Prop := ∃ cur, W.heap[g]? = some (.cells cur 3) ∧ ∀ i, i < n → cur[i]? = some (.int .i64 (c i : Int))
theorem AtM.lt {W : World} {g n : Nat} {c : Nat → Nat} (h : AtM W g n c) : g < W.heap.size := by obtain ⟨cur, h1, _⟩ := h; exact (Array.getElem?_eq_some_iff.1 h1).1
theorem AtM.keep {W W' : World} {g n : Nat} {c : Nat → Nat} (h : AtM W g n c) (hk : W'.heap[g]? = W.heap[g]?) : AtM W' g n c := by
  obtain ⟨cur, h1, h2⟩ := h
  exact ⟨cur, hk.trans h1, h2⟩
theorem AtM.cell {W : World} {g n : Nat} {c : Nat → Nat} (h : AtM W g n c) {i : Nat} (hi : i < n) : W.cell? ⟨g, i, none⟩ = some (.int .i64 (c i : Int)) ∧ W.frozen? ⟨g, i, none⟩ = false := by
  obtain ⟨cur, h1, h2⟩ := h
  have h3 := Array.getElem?_eq_some_iff.1 (h2 i hi)
  obtain ⟨q1, q2⟩ := cell_row h1 i h3.1
  exact ⟨by rw [q1, h3.2], q2⟩
theorem AtM.made {w w0 : World} {base n : Nat} (h : w0.ownsRow base 3 1 (.slice (some ⟨w.heap.size, 0, none⟩) n n) n (madeCells (Value.int .i64 0).cells (n * 1)).toList) : AtM w0 w.heap.size n (fun _ => 0) := by
  rcases h.2 with ⟨q, _⟩ | ⟨g, cap, cur, hv, _, hw, _, _, hs, ht⟩
  · simp at q
  · simp at hv
    obtain ⟨rfl, rfl⟩ := hv
    refine ⟨cur, hw, fun i hi => ?_⟩
    have h1 : (cur.toList.take (n * 1))[i]? = (madeCells (Value.int .i64 0).cells (n * 1)).toList[i]? := by rw [ht]
    rw [List.getElem?_take, if_pos (by omega)] at h1
    rw [← Array.getElem?_toList, h1]
    simp [madeCells, Value.cells, hi, Nat.mod_one]
theorem AtM.set {W : World} {g n : Nat} {c c' : Nat → Nat} (h : AtM W g n c) {i : Nat} (hi : i < n) (hc : ∀ j, j < n → c' j = if i = j then c j + 1 else c j) : AtM (W.setCell ⟨g, i, none⟩ (.int .i64 ((c i : Int) + 1))) g n c' := by
  obtain ⟨cur, h1, h2⟩ := h
  refine ⟨_, heap_setCell_same W g i cur _ _ h1, fun j hj => ?_⟩
  rw [hc j hj]
  have hs := (Array.getElem?_eq_some_iff.1 (h2 i hi)).1
  by_cases e : i = j
  · subst e
    rw [if_pos rfl]
    simp [hs]
  · rw [if_neg e, Array.getElem?_setIfInBounds_ne e]
    exact h2 j hj
/-- What was told last. -/
def LastO (W : World) (lo : Nat) (D : List Tg) (lv fv : Value) : Prop := match D.getLast? with
  | none => lv = .slice none 0 0 ∧ fv = .int .i64 (-1)
  | some t => Own W lo lv t.1.1 ∧ fv = .int .i64 (t.1.2 : Int)
theorem LastO.keep {A B : World} {lo : Nat} {D : List Tg} {lv fv : Value} (h : LastO A lo D lv fv) (hk : ∀ (k : Nat) (cs : Array Value) (fr : Nat × Nat), A.heap[k]? = some (Obj.cells cs 5 fr) → B.heap[k]? = some (Obj.cells cs 5 fr)) : LastO B lo D lv fv := by
  unfold LastO at *
  split at h
  · exact h
  · exact ⟨own_kp h.1 hk, h.2⟩
theorem LastO.snoc {W : World} {lo : Nat} {D : List Tg} {t : Tg} {lv : Value} (h : Own W lo lv t.1.1) : LastO W lo (D ++ [t]) lv (.int .i64 (t.1.2 : Int)) := by
  unfold LastO
  rw [List.getLast?_append]
  exact ⟨h, rfl⟩
end Go.Proofs.YtoenijflijfogaaGreat

/- A number is stored: the world behind it, by name; texts are compared. -/
namespace Go.Proofs.YtoenijflijfogaaGreat
open Go.RowKit

theorem less_iff : ∀ a b : Ks, Op.bytesLess a b = true ↔ Lib.compareBytes a b = -1
  | [], [] => by simp [Op.bytesLess, Lib.compareBytes]
  | [], _ :: _ => by simp [Op.bytesLess, Lib.compareBytes]
  | _ :: _, [] => by simp [Op.bytesLess, Lib.compareBytes]
  | x :: a, y :: b => by
    have ih := less_iff a b
    simp only [Op.bytesLess, Lib.compareBytes]
    by_cases h1 : x < y
    · simp [h1]
    · rw [if_neg h1]
      by_cases h2 : y < x
      · have : x ≠ y := fun e => by subst e; exact h1 h2
        simp [h1, h2, this]
      · have : x = y := u8_tri h1 h2
        subst this
        simp [ih]
theorem less_no {a b : Ks} (h : ¬ ltK a b) : Op.bytesLess a b = false := by
  rw [Bool.eq_false_iff]
  exact fun e => h ((less_iff a b).1 e)
end Go.Proofs.YtoenijflijfogaaGreat
