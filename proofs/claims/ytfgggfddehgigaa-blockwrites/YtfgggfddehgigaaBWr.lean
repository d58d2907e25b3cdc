/- The walk of BlockWrites. -/
import Derived.Test.YtfgggfddehgigaaRK3
import Derived.Test.YtfgggfddehgigaaBK10
import Derived.Test.YtfgggfddehgigaaBK12
import Derived.Test.YtfgggfddehgigaaGR2
namespace Go.Proofs.Ytfgggfddehgigaa
open Go.RowKit

set_option maxRecDepth 100000 in
set_option maxHeartbeats 4000000 in
theorem writes_walk (vl : Value) (l : List Pr) (vp : Value) (p : Ks) (vq : Value) (q : Ks) (w : World) (hPl : PReads w vl l) (hp : Reads w vp p) (hq : Reads w vq q) :
    Calls Try.prog 3 #[vl, vp, vq] w fun e w' => e = .returned (.bool true) ∧ Below w.heap.size w w' := by
  have HPl : Hid (PReads w vl l) := hPl
  have HPp : Hid (Reads w vp p) := hp
  have HQ : Hid (Reads w vq q) := hq
  obtain ⟨al, capl, rfl, _⟩ := hPl
  obtain ⟨ap, cp, rfl, hmp⟩ := hp.form
  obtain ⟨aq, cq, rfl, hmq⟩ := hq.form
  unfold maxLen at hmp hmq
  clear hp hq
  go_enter Try.func3, Try.ntmps3
  go_wp2_with fail
  refine (great2_any _ l _ HPl.out).mono ?_
  rintro e w1 ⟨g, rfl, hg, hb1⟩
  have HB1 : Hid (Below w.heap.size w w1) := hb1
  clear hb1
  have HG : Hid _ := hg
  clear hg
  cases g
  · by_cases g1 : (1000 : Int) < (p.length : Int)
    · go_wp2_with fail
      refine (alive_any _).mono ?_
      rintro e w9 ⟨rfl, hb9⟩
      have HB9 : Hid (Below w.heap.size w w9) := HB1.out.trans (hb9.mono HB1.out.size)
      clear hb9
      go_wp2_with fail
      go_ret
      exact ⟨rfl, HB9.out⟩
    by_cases g2 : (1000 : Int) < (q.length : Int)
    · go_wp2_with fail
      refine (alive_any _).mono ?_
      rintro e w9 ⟨rfl, hb9⟩
      have HB9 : Hid (Below w.heap.size w w9) := HB1.out.trans (hb9.mono HB1.out.size)
      clear hb9
      go_wp2_with fail
      go_ret
      exact ⟨rfl, HB9.out⟩
    go_wp2_with fail
    refine (write_any _ l _ (HPl.out.below HB1.out)).mono ?_
    rintro e w5 ⟨x5, rfl, ho5, hb5⟩
    have HB5 : Hid (Below w.heap.size w w5) := HB1.out.trans (hb5.mono HB1.out.size)
    have HX5 : Hid (Reads w5 x5 (wrB l)) := ho5.reads
    clear hb5 ho5 HB1
    go_wp2_with fail
    refine (as_any _ l (by have := HG.out (by first | rfl | trivial); omega) _ (HPl.out.below HB5.out)).mono ?_
    rintro e w6 ⟨u6, rfl, hp6, hb6⟩
    have HB6 : Hid (Below w.heap.size w w6) := HB5.out.trans (hb6.mono HB5.out.size)
    have HX6 : Hid (Reads w6 x5 (wrB l)) := HX5.out.below hb6
    have HP6 : Hid (PReads w6 u6 l) := hp6
    clear hb6 hp6 HB5 HX5
    go_wp2_with fail
    refine (refWrite_any _ l _ HP6.out).mono ?_
    rintro e w7 ⟨y7, rfl, ho7, hb7⟩
    have HB7 : Hid (Below w.heap.size w w7) := HB6.out.trans (hb7.mono HB6.out.size)
    have HX7 : Hid (Reads w7 x5 (wrB l)) := HX6.out.below hb7
    have HY7 : Hid (Reads w7 y7 (wrB l)) := ho7.reads
    clear hb7 ho7 HB6 HX6
    obtain ⟨B, HBB⟩ := hid_ex (wrB l)
    obtain ⟨E, HE⟩ := hid_ex (mbF l)
    rw [← HBB.out] at HX7 HY7
    rw [← HE.out]
    go_wp2_with fail
    refine (alive_any _).mono ?_
    rintro e w8 ⟨rfl, hb8⟩
    have HB8 : Hid (Below w.heap.size w w8) := HB7.out.trans (hb8.mono HB7.out.size)
    obtain ⟨ax, cx, rfl, _⟩ := HX7.out.form
    obtain ⟨ay, cy, rfl, _⟩ := HY7.out.form
    have q1 := reads_text (HX7.out.below hb8)
    have q2 := reads_text (HY7.out.below hb8)
    have hbe : (B == B) = true := by simp
    clear hb8 HB7
    go_wp2_with fail
    refine (common_any _ _ p q _ (HPp.out.below HB8.out) (HQ.out.below HB8.out)).mono ?_
    rintro e w9 ⟨rfl, hb9⟩
    have HB9 : Hid (Below w.heap.size w w9) := HB8.out.trans (hb9.mono HB8.out.size)
    clear hb9 q1 q2
    go_wp2_with fail
    refine (refCommon_any _ p q _ _ _ rfl (HPp.out.below HB9.out) (HQ.out.below HB9.out)).mono ?_
    rintro e w10 ⟨rfl, m10, rfl⟩
    have HB10 : Hid (Below w.heap.size w (w9.drewN m10)) := below_drewN HB9.out m10
    go_wp2_with fail
    go_ret
    exact ⟨rfl, HB10.out⟩
  · go_wp2_with fail
    refine (alive_any _).mono ?_
    rintro e w9 ⟨rfl, hb9⟩
    have HB9 : Hid (Below w.heap.size w w9) := HB1.out.trans (hb9.mono HB1.out.size)
    clear hb9
    go_wp2_with fail
    go_ret
    exact ⟨rfl, HB9.out⟩
end Go.Proofs.Ytfgggfddehgigaa
