/- law11: same, alive. -/
import Derived.Test.YteajfbgodfpioaaSFR
namespace Go.Proofs.Yteajfbgodfpioaa
open Go.RowKit Go.Maps Go.Sort

/-- What is seen of a file system. -/
def sfView (s : SfS) : List (List UInt8 × List UInt8) := s.dir.map fun p => (p.1, (s.fl p.2).1)
theorem read_at {w : World} {O : Nat → Prop} {p : Value} {s : SfS} (h : Fs w O p s) {j : Nat} (hj : j < s.dir.length) : sfFe (sfLook (s.dir[j].1) s.dir) = 0 ∧ sfRead s (s.dir[j].1) = (s.fl s.dir[j].2).1 ∧ s.dir[j].1.length ≤ 32 := by
  have hl : sfLook (s.dir[j].1) s.dir = some s.dir[j].2 := mem_look (sorted_ne h.sorted) (List.getElem_mem hj)
  refine ⟨by rw [hl]; rfl, by unfold sfRead; rw [hl], (h.1.di _ (List.getElem_mem hj)).2⟩
theorem below_drewN' {w : World} (n : Nat) : Below w.heap.size w (w.drewN n) := ⟨rfl, rfl, rfl, Nat.le_refl _, fun _ _ => rfl⟩
set_option maxRecDepth 100000 in
set_option maxHeartbeats 4000000 in
theorem same_any {w : World} {O1 O2 : Nat → Prop} {p q : Value} {s t : SfS} (h1 : Fs w O1 p s) (h2 : Fs w O2 q t) (hv : sfView s = sfView t) : Calls Try.prog 17 #[p, q] w fun e w' => e = .returned (.bool true) ∧ Below w.heap.size w w' := by
  obtain ⟨g1, rfl⟩ := h1.ptr
  obtain ⟨g2, rfl⟩ := h2.ptr
  have H1 : Hid (Fs w O1 (.pointer (some ⟨g1, 0, none⟩)) s) := h1
  have H2 : Hid (Fs w O2 (.pointer (some ⟨g2, 0, none⟩)) t) := h2
  have HV : Hid (sfView s = sfView t) := hv
  have hdl := h1.1.dl
  have HLN : Hid (s.dir.length = t.dir.length) := by
    have := congrArg List.length hv
    unfold sfView at this
    rwa [List.length_map, List.length_map] at this
  have HNM : Hid (∀ j (h : j < s.dir.length) (h' : j < t.dir.length), s.dir[j].1 = t.dir[j].1 ∧ (s.fl s.dir[j].2).1 = (t.fl t.dir[j].2).1) := fun j h h' => by
    have e : (sfView s)[j]? = (sfView t)[j]? := by rw [hv]
    unfold sfView at e
    rw [List.getElem?_map, List.getElem?_map, List.getElem?_eq_getElem h, List.getElem?_eq_getElem h'] at e
    simpa using e
  clear h1 h2 hv
  obtain ⟨N, HN⟩ := hid_ex s.dir.length
  rw [← HN.out] at hdl
  go_enter Try.func17, Try.ntmps17
  go_wp2_with fail
  refine H1.out.list.mono ?_
  rintro e w1 ⟨v1, rfl, hr1, hb1⟩
  rw [← HN.out] at hr1
  obtain ⟨a1, c1, hv1⟩ := row_form hr1
  subst hv1
  have HR1 : Hid (w1.ownsRow w.heap.size 9 1 (.slice a1 N c1) N (s.dir.map fun p => sv p.1)) := hr1
  have HB1 : Hid (Below w.heap.size w w1) := hb1
  clear hr1 hb1
  go_wp2_with fail
  refine (H2.out.below HB1.out).list.mono ?_
  rintro e w2 ⟨v2, rfl, hr2, hb2⟩
  rw [← HLN.out, ← HN.out] at hr2
  obtain ⟨a2, c2, hv2⟩ := row_form hr2
  subst hv2
  have HR2 : Hid (w2.ownsRow w.heap.size 9 1 (.slice a2 N c2) N (t.dir.map fun p => sv p.1)) := own_mono hr2 HB1.out.size
  have HB2 : Hid (Below w.heap.size w w2) := HB1.out.trans (hb2.mono HB1.out.size)
  have HRR : Hid (w2.ownsRow w.heap.size 9 1 (.slice a1 N c1) N (s.dir.map fun p => sv p.1)) := row_keepB HR1.out (fun k _ hl => hb2.block k hl)
  clear hr2 hb2 HR1
  go_wp2_with fail
  go_loopw [7] (fun i wr => ∃ j : Nat, i = .int .i64 (j : Int) ∧ j ≤ N ∧ Hid (Below w.heap.size w wr) ∧ Hid (wr.ownsRow w.heap.size 9 1 (.slice a1 N c1) N (s.dir.map fun p => sv p.1)) ∧ Hid (wr.ownsRow w.heap.size 9 1 (.slice a2 N c2) N (t.dir.map fun p => sv p.1))) (fun i _ => N - (intOf i).toNat)
  case atStart => exact ⟨0, rfl, by omega, HB2, HRR, HR2⟩
  case round =>
    obtain ⟨j, rfl, hj, HB, HA, HC⟩ := hrel
    by_cases hlt : j < N
    · have hlt' : (j : Int) < (N : Int) := by omega
      have hjs : j < s.dir.length := by rw [← HN.out]; exact hlt
      have hjt : j < t.dir.length := by rw [← HLN.out, ← HN.out]; exact hlt
      obtain ⟨e1, e2⟩ := HNM.out j hjs hjt
      obtain ⟨b1, hab1, x1⟩ := row_str' HA.out HN.out hlt
      obtain ⟨b2, hab2, x2⟩ := row_str' HC.out (HN.out.trans HLN.out) hlt
      subst hab1 hab2
      rw [← e1] at x2
      obtain ⟨f1, f2, f3⟩ := read_at H1.out hjs
      obtain ⟨f4, f5, -⟩ := read_at H2.out hjt
      rw [← e1] at f4 f5
      rw [← e2] at f5
      obtain ⟨nm, HNm⟩ := hid_ex (s.dir[j].1)
      obtain ⟨X, HX⟩ := hid_ex ((s.fl s.dir[j].2).1)
      rw [← HNm.out] at x1 x2 f1 f2 f3 f4 f5
      rw [← HX.out] at f2 f5
      have hnl : nm.length ≤ maxLen := by simp only [maxLen]; omega
      have HRA : Hid (Calls Try.prog 12 #[.pointer (some ⟨g1, 0, none⟩), .string ⟨nm.toArray⟩] wr fun e w' => ∃ v, e = .returned (.tuple #[v, .int .i64 0]) ∧ Own w' wr.heap.size v X ∧ Below wr.heap.size wr w') := by
        have := (H1.out.below HB.out).read nm hnl
        rw [f1, f2] at this
        exact this
      have HRB : Hid (∀ w', Below w.heap.size w w' → Calls Try.prog 12 #[.pointer (some ⟨g2, 0, none⟩), .string ⟨nm.toArray⟩] w' fun e w'' => ∃ v, e = .returned (.tuple #[v, .int .i64 0]) ∧ Own w'' w'.heap.size v X ∧ Below w'.heap.size w' w'') := fun w' hb => by
        have := (H2.out.below hb).read nm hnl
        rw [f4, f5] at this
        exact this
      have hq1 := (World.ownsRow.lt HA.out b1 rfl).2
      have hq2 := (World.ownsRow.lt HC.out b2 rfl).2
      clear HNm HX f1 f2 f3 f4 f5 e1 e2 hjs hjt hnl
      go_wp2_with fail
      refine HRA.out.mono ?_
      rintro e w3 ⟨xv, rfl, ho3, hb3⟩
      have HO3 : Hid (Own w3 wr.heap.size xv X) := ho3
      have HB3 : Hid (Below wr.heap.size wr w3) := hb3
      have HB3' : Hid (Below w.heap.size w w3) := HB.out.trans (hb3.mono HB.out.size)
      obtain ⟨xa, xc, hxv, -⟩ := ho3.form
      subst hxv
      have x3 := (hb3.cell (p := ⟨b2, j, none⟩) hq2).trans x2
      clear ho3 hb3 HRA
      go_wp2_with fail
      refine (HRB.out w3 HB3'.out).mono ?_
      rintro e w4 ⟨yv, rfl, ho4, hb4⟩
      obtain ⟨ya, yc, hyv, -⟩ := ho4.form
      subst hyv
      have HB4 : Hid (Below w.heap.size w w4) := HB3'.out.trans (hb4.mono HB3'.out.size)
      have hBr4 : Below wr.heap.size wr w4 := HB3.out.trans (hb4.mono HB3.out.size)
      have z1 : ∀ n, (w4.drewN n).cell? ⟨b1, j, none⟩ = some (.string ⟨nm.toArray⟩) := fun n => (hBr4.cell (p := ⟨b1, j, none⟩) hq1).trans x1
      have z2 : ∀ n, (w4.drewN n).cell? ⟨b2, j, none⟩ = some (.string ⟨nm.toArray⟩) := fun n => (hBr4.cell (p := ⟨b2, j, none⟩) hq2).trans x2
      have t1 : ∀ n, (convert 22 9 (.slice xa X.length xc)).run Try.prog (w4.drewN n) = .ok (.string ⟨X.toArray⟩) (w4.drewN n) := fun n => reads_text ((HO3.out.reads.below hb4).below (below_drewN' n))
      have t2 : ∀ n, (convert 22 9 (.slice ya X.length yc)).run Try.prog (w4.drewN n) = .ok (.string ⟨X.toArray⟩) (w4.drewN n) := fun n => reads_text (ho4.reads.below (below_drewN' n))
      have HA4 : Hid (∀ n, (w4.drewN n).ownsRow w.heap.size 9 1 (.slice (some ⟨b1, 0, none⟩) N c1) N (s.dir.map fun p => sv p.1)) := fun n => row_keepB HA.out (fun k _ hl => hBr4.block k hl)
      have HC4 : Hid (∀ n, (w4.drewN n).ownsRow w.heap.size 9 1 (.slice (some ⟨b2, 0, none⟩) N c2) N (t.dir.map fun p => sv p.1)) := fun n => row_keepB HC.out (fun k _ hl => hBr4.block k hl)
      have HB5 : Hid (∀ n, Below w.heap.size w (w4.drewN n)) := fun n => HB4.out.trans ((below_drewN' n).mono HB4.out.size)
      clear ho4 hb4 hBr4 x1 x2 x3 HRB
      go_wp2_with fail
      go_quiet (fail)
      go_wp2_with fail
      go_roundw
      case rel => exact ⟨j + 1, by go_num, by omega, HB5.out _, HA4.out _, HC4.out _⟩
      case measure => simp [intOf]; omega
    · have hlt' : ¬ (j : Int) < (N : Int) := by omega
      go_wp2_with fail
      go_ret
      exact ⟨rfl, HB.out⟩
end Go.Proofs.Yteajfbgodfpioaa
