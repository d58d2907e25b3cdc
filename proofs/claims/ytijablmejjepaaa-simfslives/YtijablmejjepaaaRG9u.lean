/- The document's file system: how many bytes are used. -/
import Derived.Test.YtijablmejjepaaaRG9
namespace Go.Proofs.Ytijablmejjepaaa
open Go.RowKit Go.Maps Go.Sort

set_option maxRecDepth 100000 in
set_option maxHeartbeats 2000000 in
theorem refUsed_any {w : World} {O : Nat → Prop} {g : Nat} {vf vd vo vp : Value} {af ee : Int} {fb : Nat → Nat} {va vb : Nat → Value} {s : SfS} (h : RfAt w O g vf vd vo vp af ee fb va vb s) (hw : SfWf s) :
    Calls Try.prog 31 #[.pointer (some ⟨g, 0, none⟩)] w fun e w' => e = .returned (.int .i64 (sfUsed s : Int)) ∧ Below w.heap.size w w' := by
  have HR : Hid (RfAt w O g vf vd vo vp af ee fb va vb s) := h
  have HW : Hid (SfWf s) := hw
  have hDl := dir_len hw
  have HU : Hid (∀ j, ((s.dir.take j).map fun p => (s.fl p.2).1.length).sum ≤ 268435456) := fun j => by
    have h1 := sum_bd (l := s.dir.take j) (fun p => (s.fl p.2).1.length) 1048576 (fun p _ => fl_bd hw p.2)
    have h2 : (s.dir.take j).length ≤ 256 := by rw [List.length_take]; omega
    have := Nat.mul_le_mul_right 1048576 h2
    omega
  obtain ⟨U, HUe⟩ := hid_ex (sfUsed s)
  rw [← HUe.out]
  obtain ⟨ad, cd, hvd, hx1, hx2, hx3, hx4⟩ := GOwn.form h.hd
  obtain ⟨DL, HDL⟩ : ∃ n, Hid (s.dir.length = n) := ⟨_, rfl⟩
  rw [HDL.out] at hvd hDl
  subst hvd
  have HCd : Hid (w.cell? ⟨g, 2, none⟩ = some (.slice ad DL cd) ∧ g < w.heap.size) := ⟨h.c1.2.1, h.lt g h.og⟩
  clear h hw hx1 hx2 hx3 hx4
  go_enter Try.func31, Try.ntmps31
  go_wp2_with fail
  go_loopw [3, 4] (fun n i wr => ∃ j : Nat, n = .int .i64 ((((s.dir.take j).map fun p => (s.fl p.2).1.length).sum : Nat) : Int) ∧ i = .int .i64 (j : Int) ∧ j ≤ DL ∧ Hid (Below w.heap.size w wr)) (fun _ i _ => DL - (intOf i).toNat)
  case atStart => exact ⟨0, rfl, rfl, by omega, Below.refl _ _⟩
  case round =>
    obtain ⟨j, rfl, rfl, hj, HB⟩ := hrel
    have d2 := (HB.out.cell (p := ⟨g, 2, none⟩) HCd.out.2).trans HCd.out.1
    have HRr : Hid (RfAt wr O g vf (.slice ad DL cd) vo vp af ee fb va vb s) := HR.out.below HB.out
    have hU1 := HU.out j
    have hU2 := HU.out (j + 1)
    by_cases hlt : j < DL
    · have hlt' : (j : Int) < (DL : Int) := by omega
      have hjd : j < s.dir.length := by rw [HDL.out]; exact hlt
      have hd := HRr.out.hd
      have HST : Hid (((s.dir.take (j + 1)).map fun p => (s.fl p.2).1.length).sum = ((s.dir.take j).map fun p => (s.fl p.2).1.length).sum + (s.fl s.dir[j].2).1.length) := sum_take_succ (fun p => (s.fl p.2).1.length) hjd
      cases ad with
      | none =>
        obtain ⟨a', cap', e, _, _, _, h4⟩ := GOwn.form hd
        simp only [Value.slice.injEq] at e
        have := (h4 e.1.symm).1
        omega
      | some q =>
        obtain ⟨q, rfl⟩ : ∃ b : Nat, q = ⟨b, 0, none⟩ := by
          obtain ⟨a', cap', e, _, _, h3, _⟩ := GOwn.form hd
          simp only [Value.slice.injEq] at e
          exact ⟨_, h3 q e.1.symm⟩
        obtain ⟨x0, x1⟩ := NOwn.at hd j hjd
        have HFi : Hid ((s.dir[j]).2 < s.fls.length) := (HW.out.di _ (List.getElem_mem hjd)).1
        obtain ⟨N, HNn⟩ := hid_ex (s.dir[j]).2
        rw [← HNn.out] at x1 HFi HST
        obtain ⟨S0, HS0⟩ := hid_ex ((s.dir.take j).map fun p => (s.fl p.2).1.length).sum
        obtain ⟨S1, HS1⟩ := hid_ex ((s.dir.take (j + 1)).map fun p => (s.fl p.2).1.length).sum
        rw [← HS0.out] at HST hU1 ⊢
        rw [← HS1.out] at HST hU2
        have HBy : Hid (Calls Try.prog 32 #[.pointer (some ⟨g, 0, none⟩), .int .i64 (N : Int)] wr _) := refBytes_any HRr.out HW.out HFi.out
        clear hd x0 HS0 hU1 HNn hjd
        go_wp2_with fail
        refine HBy.out.mono ?_
        clear HBy
        rintro e w2 ⟨v2, rfl, ho2, hb2⟩
        have HB2 : Hid (Below w.heap.size w w2) := HB.out.trans (hb2.mono HB.out.size)
        obtain ⟨a2, c2, hv2, _⟩ := ho2.form
        obtain ⟨FLn, HFLn⟩ : ∃ n, Hid ((s.fl N).1.length = n) := ⟨_, rfl⟩
        rw [HFLn.out] at hv2 HST
        subst hv2
        have hst := HST.out
        have hsI : (S0 : Int) + (FLn : Int) = (S1 : Int) := by omega
        have hS1b : S1 ≤ 268435456 := hU2
        have hwr : IntKind.i64.wrap (S1 : Int) = (S1 : Int) := by simp [IntKind.wrap, IntKind.bits, IntKind.signed]; omega
        have HS1' : Hid (S1 = ((s.dir.take (j + 1)).map fun p => (s.fl p.2).1.length).sum) := HS1.out
        clear ho2 hb2 HS1 HST hst
        go_wp2_with fail
        go_roundw
        case rel => exact ⟨j + 1, by rw [← HS1'.out], by go_num, by omega, HB2⟩
        case measure => simp [intOf]; omega
    · have hlt' : ¬ (j : Int) < (DL : Int) := by omega
      have HE : Hid (((s.dir.take j).map fun p => (s.fl p.2).1.length).sum = U) := by
        unfold Hid
        rw [List.take_of_length_le (by rw [HDL.out]; omega), HUe.out]
        rfl
      rw [HE.out]
      clear HE
      go_wp2_with fail
      go_ret
      exact ⟨rfl, HB.out⟩
end Go.Proofs.Ytijablmejjepaaa
