/- The document's file system: Remove and Rename. -/
import Derived.Test.YtijablmejjepaaaRG10
import Derived.Test.YtijablmejjepaaaRG5
import Derived.Test.YtijablmejjepaaaSFW
namespace Go.Proofs.Ytijablmejjepaaa
open Go.RowKit Go.Maps Go.Sort

/-- The file system stands, and is this now. -/
def RfTo (w w' : World) (O : Nat → Prop) (g : Nat) (s : SfS) : Prop := (∃ vf vd vo vp af ee fb va vb, RfAt w' (Grw O w w') g vf vd vo vp af ee fb va vb s) ∧ Onl O w w'
theorem RfAt.to {w : World} {O : Nat → Prop} {g : Nat} {vf vd vo vp : Value} {af ee : Int} {fb : Nat → Nat} {va vb : Nat → Value} {s : SfS} (h : RfAt w O g vf vd vo vp af ee fb va vb s) : RfTo w w O g s :=
  ⟨⟨_, _, _, _, _, _, _, _, _, h.wider (fun _ q => .inl q) (Grw.lt h.lt (Nat.le_refl _))⟩, Onl.refl _ _⟩
set_option maxRecDepth 100000 in
set_option maxHeartbeats 4000000 in
theorem refRemove_any {w : World} {O : Nat → Prop} {g : Nat} {vf vd vo vp : Value} {af ee : Int} {fb : Nat → Nat} {va vb : Nat → Value} {s : SfS} (h : RfAt w O g vf vd vo vp af ee fb va vb s) (hw : SfWf s) (n : List UInt8) (hpn : s.pend.length < 1000000) :
    Calls Try.prog 25 #[.pointer (some ⟨g, 0, none⟩), .string ⟨n.toArray⟩] w fun e w' => e = .returned (.int .i64 (sfRemove s n).1) ∧ RfTo w w' O g (sfRemove s n).2 := by
  have hdl := dir_len hw
  have HFn : Hid (Calls Try.prog 42 #[.pointer (some ⟨g, 0, none⟩), .string ⟨n.toArray⟩] w _) := refFind_any h.hd h.c1.2.1 n (by omega)
  have HR : Hid (RfAt w O g vf vd vo vp af ee fb va vb s) := h
  have HAct : Hid (Calls Try.prog 43 #[.pointer (some ⟨g, 0, none⟩), .agg #[.string ⟨n.toArray⟩, .string ⟨#[]⟩, .int .i64 (-1)]] w _) := refAct_any h hw ⟨n, [], none⟩ hpn
  have HRm : Hid (sfRemove s n = match sfLook n s.dir with | none => (4, s) | some _ => sfChange s ⟨n, [], none⟩) := rfl
  obtain ⟨R, HRe⟩ := hid_ex (sfRemove s n)
  rw [← HRe.out] at HRm ⊢
  clear h hw hdl HRe
  cases hl : sfLook n s.dir with
  | none =>
    rw [hl] at HFn HRm
    simp only [rfN] at HFn HRm
    have hneg : (-1 : Int) < 0 := by omega
    clear hl HAct
    go_enter Try.func25, Try.ntmps25
    go_wp2_with fail
    refine HFn.out.mono ?_
    rintro e w1 ⟨rfl, hw1⟩
    subst w1
    go_wp2_with fail
    go_ret
    rw [HRm.out]
    exact ⟨rfl, HR.out.to⟩
  | some i =>
    rw [hl] at HFn HRm
    simp only [rfN] at HFn HRm
    have hnn : ¬ (i : Int) < 0 := by omega
    clear hl
    go_enter Try.func25, Try.ntmps25
    go_wp2_with fail
    refine HFn.out.mono ?_
    rintro e w1 ⟨rfl, hw1⟩
    subst w1
    go_wp2_with fail
    refine HAct.out.mono ?_
    clear HAct
    rintro e w' ⟨rfl, ⟨vd', vp', af', ee', hr⟩, ho⟩
    have HR' : Hid (RfTo w w' O g (sfChange s ⟨n, [], none⟩).2) := ⟨⟨_, _, _, _, _, _, _, _, _, hr⟩, ho⟩
    obtain ⟨Rc, HRc⟩ := hid_ex (sfChange s ⟨n, [], none⟩)
    rw [← HRc.out] at HR' HRm ⊢
    clear hr ho HRc
    go_wp2_with fail
    go_ret
    rw [HRm.out]
    exact ⟨rfl, HR'.out⟩
set_option maxRecDepth 100000 in
set_option maxHeartbeats 4000000 in
theorem refRename_any {w : World} {O : Nat → Prop} {g : Nat} {vf vd vo vp : Value} {af ee : Int} {fb : Nat → Nat} {va vb : Nat → Value} {s : SfS} (h : RfAt w O g vf vd vo vp af ee fb va vb s) (hw : SfWf s) (n m : List UInt8) (hm : m.length ≤ 100000) (hpn : s.pend.length < 1000000) :
    Calls Try.prog 24 #[.pointer (some ⟨g, 0, none⟩), .string ⟨n.toArray⟩, .string ⟨m.toArray⟩] w fun e w' => e = .returned (.int .i64 (sfRename s n m).1) ∧ RfTo w w' O g (sfRename s n m).2 := by
  have hdl := dir_len hw
  have HNm : Hid (Calls Try.prog 41 #[.string ⟨m.toArray⟩] w _) := refIsName_any m (by omega) w
  have HFn : Hid (Calls Try.prog 42 #[.pointer (some ⟨g, 0, none⟩), .string ⟨n.toArray⟩] w _) := refFind_any h.hd h.c1.2.1 n (by omega)
  have HR : Hid (RfAt w O g vf vd vo vp af ee fb va vb s) := h
  have HAct : Hid (∀ i : Nat, Calls Try.prog 43 #[.pointer (some ⟨g, 0, none⟩), .agg #[.string ⟨n.toArray⟩, .string ⟨m.toArray⟩, .int .i64 (i : Int)]] w _) := fun i => refAct_any h hw ⟨n, m, some i⟩ hpn
  have HRm : Hid (sfRename s n m = if sfName m = false then (1, s) else match sfLook n s.dir with | none => (4, s) | some i => sfChange s ⟨n, m, some i⟩) := rfl
  obtain ⟨R, HRe⟩ := hid_ex (sfRename s n m)
  rw [← HRe.out] at HRm ⊢
  obtain ⟨b, Hb⟩ := hid_ex (sfName m)
  rw [← Hb.out] at HRm HNm
  clear h hw hdl HRe Hb
  cases b with
  | false =>
    have HRq : Hid (R = (1, s)) := by unfold Hid; rw [HRm.out, if_pos rfl]
    clear HRm HAct HFn
    go_enter Try.func24, Try.ntmps24
    go_wp2_with fail
    refine HNm.out.mono ?_
    rintro e w1 ⟨rfl, hw1⟩
    subst w1
    go_wp2_with fail
    go_ret
    rw [HRq.out]
    exact ⟨rfl, HR.out.to⟩
  | true =>
    have HRq : Hid (R = match sfLook n s.dir with | none => (4, s) | some i => sfChange s ⟨n, m, some i⟩) := by unfold Hid; rw [HRm.out, if_neg (by decide)]
    clear HRm
    cases hl : sfLook n s.dir with
    | none =>
      rw [hl] at HFn HRq
      simp only [rfN] at HFn HRq
      have hneg : (-1 : Int) < 0 := by omega
      clear hl HAct
      go_enter Try.func24, Try.ntmps24
      go_wp2_with fail
      refine HNm.out.mono ?_
      rintro e w1 ⟨rfl, hw1⟩
      subst w1
      go_wp2_with fail
      refine HFn.out.mono ?_
      rintro e w1 ⟨rfl, hw1⟩
      subst w1
      go_wp2_with fail
      go_ret
      rw [HRq.out]
      exact ⟨rfl, HR.out.to⟩
    | some i =>
      rw [hl] at HFn HRq
      simp only [rfN] at HFn HRq
      have hnn : ¬ (i : Int) < 0 := by omega
      have HAc : Hid (Calls Try.prog 43 #[.pointer (some ⟨g, 0, none⟩), .agg #[.string ⟨n.toArray⟩, .string ⟨m.toArray⟩, .int .i64 (i : Int)]] w _) := HAct.out i
      clear hl HAct
      go_enter Try.func24, Try.ntmps24
      go_wp2_with fail
      refine HNm.out.mono ?_
      rintro e w1 ⟨rfl, hw1⟩
      subst w1
      go_wp2_with fail
      refine HFn.out.mono ?_
      rintro e w1 ⟨rfl, hw1⟩
      subst w1
      go_wp2_with fail
      refine HAc.out.mono ?_
      clear HAc
      rintro e w' ⟨rfl, ⟨vd', vp', af', ee', hr⟩, ho⟩
      have HR' : Hid (RfTo w w' O g (sfChange s ⟨n, m, some i⟩).2) := ⟨⟨_, _, _, _, _, _, _, _, _, hr⟩, ho⟩
      obtain ⟨Rc, HRc⟩ := hid_ex (sfChange s ⟨n, m, some i⟩)
      rw [← HRc.out] at HR' HRq ⊢
      clear hr ho HRc
      go_wp2_with fail
      go_ret
      rw [HRq.out]
      exact ⟨rfl, HR'.out⟩
end Go.Proofs.Ytijablmejjepaaa
