/- SimfsMoves. (written by mksm2.py) -/
import Derived.Test.YteajfbgodfpioaaSM1
import Derived.Test.YteajfbgodfpioaaSFY
namespace Go.Proofs.Yteajfbgodfpioaa
open Go.RowKit Go.Maps Go.Sort

set_option maxRecDepth 100000 in
set_option maxHeartbeats 8000000 in
theorem moves_walk (r : Int) (ov : Value) (L : List SfO) (an bn : ByteArray) (n : Int) (kv : Value) (ks : List Int) (W : World) (hr1 : -9223372036854775808 ≤ r) (hr2 : r < 9223372036854775808) (hL : OsR W ov L) (han : an.size ≤ maxLen) (hbn : bn.size ≤ maxLen) (hK : KReads W kv ks) :
    Calls Try.prog 8 #[.int .i64 r, ov, .string an, .string bn, .int .i64 n, kv] W fun e w' => e = .returned (.bool true) ∧ Below W.heap.size W w' := by
  obtain ⟨a, HAL⟩ := hid_ex an.data.toList
  obtain rfl : an = ⟨a.toArray⟩ := by rw [HAL.out]
  obtain ⟨b, HBL⟩ := hid_ex bn.data.toList
  obtain rfl : bn = ⟨b.toArray⟩ := by rw [HBL.out]
  have hal : a.length ≤ maxLen := by simpa [ByteArray.size] using han
  have hbl : b.length ≤ maxLen := by simpa [ByteArray.size] using hbn
  clear HAL HBL han hbn
  have hsa : (ByteArray.mk a.toArray).size = a.length := by simp [ByteArray.size]
  have hsb : (ByteArray.mk b.toArray).size = b.length := by simp [ByteArray.size]
  obtain ⟨ka, kc, rfl, hkl⟩ := hK.form
  have HL : Hid (OsR W ov L) := hL
  have HK : Hid (KReads W (.slice ka ks.length kc) ks) := hK
  clear hL hK
  have hkl' : (ks.length : Int) ≤ 9223372036854775807 := by simp only [maxLen] at hkl; omega
  have hal' : (a.length : Int) ≤ 9223372036854775807 := by simp only [maxLen] at hal; omega
  have hbl' : (b.length : Int) ≤ 9223372036854775807 := by simp only [maxLen] at hbl; omega
  have HRD : Hid (∀ (w : World) (p : Value) (T : SfS) (c C : List UInt8) (E : Int), sfFe (sfLook c T.dir) = E → sfRead T c = C → c.length ≤ maxLen → (∃ O, Fs w O p T) → Calls Try.prog 12 #[p, .string ⟨c.toArray⟩] w fun e w' => ∃ x y, e = .returned (.tuple #[.slice x C.length y, .int .i64 E]) ∧ Own w' w.heap.size (.slice x C.length y) C ∧ Below w.heap.size w w') := by
    intro w p T c C E h1 h2 hc h3
    obtain ⟨O, hf⟩ := h3
    refine (hf.read c hc).mono ?_
    rw [h1, h2]
    rintro e w' ⟨v, rfl, ho, hb⟩
    obtain ⟨x, y, hv, -⟩ := ho.form
    subst hv
    exact ⟨x, y, rfl, ho, hb⟩
  go_enter Try.func8, Try.ntmps8
  go_wp2_with fail
  refine (played_any r hr1 hr2 ov L W HL.out).mono ?_
  rintro e w1 ⟨hb1, hc1⟩
  have HB1 : Hid (Below W.heap.size W w1) := hb1
  have HL1 : Hid (OsR w1 ov L) := HL.out.below hb1
  clear hb1
  rcases hc1 with ⟨hr, rfl⟩ | ⟨hr, g1, rfl, hf1, hp1⟩
  · go_wp2_with fail
    refine (played_any r hr1 hr2 ov L w1 HL1.out).mono ?_
    rintro e w2 ⟨hb2, hc2⟩
    have HB2 : Hid (Below W.heap.size W w2) := HB1.out.trans (hb2.mono HB1.out.size)
    clear hb2
    rcases hc2 with ⟨-, rfl⟩ | ⟨hrr, _⟩
    · go_wp2_with fail
      refine (alive11_any w2).mono ?_
      rintro e wz ⟨rfl, hbz⟩
      go_wp2_with fail
      go_ret
      exact ⟨rfl, HB2.out.trans (hbz.mono HB2.out.size)⟩
    · exfalso; omega
  have HF1 : Hid (Fam w1 W.heap.size [(.pointer (some ⟨g1, 0, none⟩), sfPlayed r L)]) := Fam.push (fam_nil (Nat.le_refl _)) HB1.out hf1
  have HWF : Hid (SfWf (sfPlayed r L)) := hf1.1
  have HSO : Hid ((sfPlayed r L).dir.Pairwise (fun p q => p.1 ≠ q.1)) := sorted_ne (Fs.sorted hf1)
  have HFT : Hid ((sfPlayed r L).fault = 0) := played_fault r L
  clear hf1 hp1
  go_wp2_with fail
  refine (played_any r hr1 hr2 ov L w1 HL1.out).mono ?_
  rintro e w2 ⟨hb2, hc2⟩
  rcases hc2 with ⟨hrr, _⟩ | ⟨-, g2, rfl, hf2, hp2⟩
  · exfalso; omega
  obtain ⟨S, HS⟩ := hid_ex (sfPlayed r L)
  rw [← HS.out] at hf2 HF1 HWF HSO HFT
  have HF2 : Hid (Fam w2 W.heap.size [(.pointer (some ⟨g1, 0, none⟩), S), (.pointer (some ⟨g2, 0, none⟩), S)]) := Fam.push HF1.out hb2 hf2
  have HB2 : Hid (Below W.heap.size W w2) := HB1.out.trans (hb2.mono HB1.out.size)
  clear hf2 hb2 hp2 HF1 HB1 HL1 hr
  by_cases h1 : 200 < a.length
  · have h1' : (200 : Int) < (a.length : Int) := by omega
    go_wp2_with fail
    refine (alive11_any w2).mono ?_
    rintro e wz ⟨rfl, hbz⟩
    go_wp2_with fail
    go_ret
    exact ⟨rfl, HB2.out.trans (hbz.mono HB2.out.size)⟩
  have h1' : ¬ (200 : Int) < (a.length : Int) := by omega
  by_cases h2 : 200 < b.length
  · have h2' : (200 : Int) < (b.length : Int) := by omega
    go_wp2_with fail
    refine (alive11_any w2).mono ?_
    rintro e wz ⟨rfl, hbz⟩
    go_wp2_with fail
    go_ret
    exact ⟨rfl, HB2.out.trans (hbz.mono HB2.out.size)⟩
  have h2' : ¬ (200 : Int) < (b.length : Int) := by omega
  by_cases h3 : 300 < ks.length
  · have h3' : (300 : Int) < (ks.length : Int) := by omega
    go_wp2_with fail
    refine (alive11_any w2).mono ?_
    rintro e wz ⟨rfl, hbz⟩
    go_wp2_with fail
    go_ret
    exact ⟨rfl, HB2.out.trans (hbz.mono HB2.out.size)⟩
  have h3' : ¬ (300 : Int) < (ks.length : Int) := by omega
  by_cases hab0 : a = b
  · subst hab0
    go_wp2_with fail
    refine (alive11_any w2).mono ?_
    rintro e wz ⟨rfl, hbz⟩
    go_wp2_with fail
    go_ret
    exact ⟨rfl, HB2.out.trans (hbz.mono HB2.out.size)⟩
  have hab2 : ((⟨a.toArray⟩ : ByteArray).toList == (⟨b.toArray⟩ : ByteArray).toList) = false := by rw [ByteArray.toList_eq, ByteArray.toList_eq]; simpa using hab0
  have hab3 : (a == b) = false := by simpa using hab0
  have HSY : Hid (Calls Try.prog 19 #[.pointer (some ⟨g1, 0, none⟩), .string ⟨a.toArray⟩] w2 fun e w' => e = .returned (.int .i64 (sfSync S a).1) ∧ Fam w' W.heap.size [(.pointer (some ⟨g1, 0, none⟩), (sfSync S a).2), (.pointer (some ⟨g2, 0, none⟩), S)] ∧ Below W.heap.size w2 w') :=
    HF2.out.call 0 (by simp) (F := 19) (args := #[.pointer (some ⟨g1, 0, none⟩), .string ⟨a.toArray⟩]) (r := sfSync S a) (fun O' hf _ => hf.sync a hal)
  cases hlk : sfLook a S.dir with
  | none =>
    have e0 : sfSync S a = (4, S) := by unfold sfSync; rw [hlk]
    rw [e0] at HSY
    clear hlk e0
    go_wp2_with fail
    refine HSY.out.mono ?_
    rintro e w3 ⟨rfl, -, hb3⟩
    have HB3 : Hid (Below W.heap.size W w3) := HB2.out.trans hb3
    clear hb3
    go_wp2_with fail
    refine (alive11_any w3).mono ?_
    rintro e wz ⟨rfl, hbz⟩
    go_wp2_with fail
    go_ret
    exact ⟨rfl, HB3.out.trans (hbz.mono HB3.out.size)⟩
  | some i =>
    have HLK : Hid (sfLook a S.dir = some i) := hlk
    have HHI : Hid (sfSync S a = (0, S.setF i ((S.fl i).1, (S.fl i).1.length))) := sync_some HFT.out hlk
    have hwS1 : SfWf (S.setF i ((S.fl i).1, (S.fl i).1.length)) := HWF.out.setF ⟨Nat.le_refl _, (HWF.out.fl32 i).1⟩
    have hsd := syncDir_some (s := S.setF i ((S.fl i).1, (S.fl i).1.length)) HFT.out hwS1
    obtain ⟨S2, HS2⟩ := hid_ex (sfSyncDir (S.setF i ((S.fl i).1, (S.fl i).1.length))).2
    have HSD0 : Hid (sfSyncDir (S.setF i ((S.fl i).1, (S.fl i).1.length)) = (0, S2)) := by show _ = _; rw [HS2.out, hsd]
    have HP2 : Hid (S2.pend.length = 0 ∧ sfFe (sfLook a S2.dir) = 0 ∧ sfRead S2 a = (S.fl i).1 ∧ S2.dir = S.dir) := by
      have e : S2.dir = S.dir := by rw [HS2.out, hsd]; rfl
      have hi := (HWF.out.di _ (look_mem hlk)).1
      refine ⟨by rw [HS2.out, hsd]; rfl, by rw [e, hlk]; rfl, ?_, e⟩
      unfold sfRead
      rw [e, hlk]
      have e2 : S2.fl i = (S.setF i ((S.fl i).1, (S.fl i).1.length)).fl i := by rw [HS2.out, hsd]; rfl
      show (S2.fl i).1 = _
      rw [e2, fl_setF _ _ _ hi, if_pos rfl]
    rw [HHI.out] at HSY
    obtain ⟨S1, HS1⟩ := hid_ex (S.setF i ((S.fl i).1, (S.fl i).1.length))
    rw [← HS1.out] at HSD0 HSY HHI
    obtain ⟨A, HA⟩ := hid_ex (S.fl i).1
    rw [← HA.out] at HP2
    clear hwS1 hsd hlk HS2
    go_wp2_with fail
    refine HSY.out.mono ?_
    rintro e w3 ⟨rfl, hf3, hb3⟩
    have HF3 : Hid (Fam w3 W.heap.size [(.pointer (some ⟨g1, 0, none⟩), S1), (.pointer (some ⟨g2, 0, none⟩), S)]) := hf3
    have HB3 : Hid (Below W.heap.size W w3) := HB2.out.trans hb3
    have HSD : Hid (Calls Try.prog 20 #[.pointer (some ⟨g1, 0, none⟩)] w3 fun e w' => e = .returned (.int .i64 0) ∧ Fam w' W.heap.size [(.pointer (some ⟨g1, 0, none⟩), S2), (.pointer (some ⟨g2, 0, none⟩), S)] ∧ Below W.heap.size w3 w') := by
      have := HF3.out.call 0 (by simp) (F := 20) (args := #[.pointer (some ⟨g1, 0, none⟩)]) (r := sfSyncDir S1) (fun O' hf _ => hf.syncDir)
      rw [HSD0.out] at this
      exact this
    clear hf3 hb3 HSY
    go_wp2_with fail
    refine HSD.out.mono ?_
    rintro e w4 ⟨rfl, hf4, hb4⟩
    have HX4 : Hid (FamX w4 W.heap.size [(.pointer (some ⟨g1, 0, none⟩), S2), (.pointer (some ⟨g2, 0, none⟩), S)] (fun _ => False)) := hf4.x
    have HB4 : Hid (Below W.heap.size W w4) := HB3.out.trans hb4
    clear hf4 hb4 HSD
    go_wp2_with fail
    refine (HRD.out w4 (.pointer (some ⟨g1, 0, none⟩)) S2 a A 0 HP2.out.2.1 HP2.out.2.2.1 hal (HX4.out.fs 0 (by simp))).mono ?_
    rintro e w5 ⟨aa, ac, rfl, ho5, hb5⟩
    have HX5 : Hid (FamX w5 W.heap.size [(.pointer (some ⟨g1, 0, none⟩), S2), (.pointer (some ⟨g2, 0, none⟩), S)] (fun k => w4.heap.size ≤ k ∧ k < w5.heap.size)) := (HX4.out.below hb5).less (fun k q => .inr q)
    have HB5 : Hid (Below W.heap.size W w5) := HB4.out.trans (hb5.mono HB4.out.size)
    have HO5 : Hid (Own w5 w4.heap.size (.slice aa A.length ac) A ∧ ∀ k, (Value.slice aa A.length ac).ownBlock = some k → w4.heap.size ≤ k ∧ k < w5.heap.size) := ⟨ho5, fun k hk => World.ownsRow.lt ho5 k hk⟩
    have HRN : Hid (Calls Try.prog 22 #[.pointer (some ⟨g1, 0, none⟩), .string ⟨a.toArray⟩, .string ⟨b.toArray⟩] w5 fun e w' => e = .returned (.int .i64 (sfRename S2 a b).1) ∧ (FamX w' W.heap.size [(.pointer (some ⟨g1, 0, none⟩), (sfRename S2 a b).2), (.pointer (some ⟨g2, 0, none⟩), S)] (fun k => w4.heap.size ≤ k ∧ k < w5.heap.size)) ∧ Below W.heap.size w5 w' ∧ ∀ k, (w4.heap.size ≤ k ∧ k < w5.heap.size) → w'.heap[k]? = w5.heap[k]?) :=
      HX5.out.call 0 (by simp) (F := 22) (args := #[.pointer (some ⟨g1, 0, none⟩), .string ⟨a.toArray⟩, .string ⟨b.toArray⟩]) (r := sfRename S2 a b) (fun O' hf _ _ => hf.rename a b hal hbl (by show S2.pend.length < _; rw [HP2.out.1]; decide))
    clear ho5 hb5 HX4
    cases hnb : sfName b with
    | false =>
      have e0 : sfRename S2 a b = (1, S2) := by unfold sfRename; rw [if_pos hnb]
      rw [e0] at HRN
      clear e0 hnb
      go_wp2_with fail
      refine HRN.out.mono ?_
      rintro e w6 ⟨rfl, -, hb6, -⟩
      have HB6 : Hid (Below W.heap.size W w6) := HB5.out.trans hb6
      clear hb6
      go_wp2_with fail
      refine (alive11_any w6).mono ?_
      rintro e wz ⟨rfl, hbz⟩
      go_wp2_with fail
      go_ret
      exact ⟨rfl, HB6.out.trans (hbz.mono HB6.out.size)⟩
    | true =>
      obtain ⟨S2', q1, q2, q3, q4, q5, q6, q7, q8, q9, q10, q11⟩ := moves_pure HWF.out HFT.out HLK.out hab0 hnb
      rw [← HS1.out] at q2
      have hS2 : S2 = S2' := by have := HSD0.out.symm.trans q2; simpa using this
      subst hS2
      rw [← HA.out] at q8
      obtain ⟨S3, HS3⟩ := hid_ex (sfRename S2 a b).2
      rw [q6, ← HS3.out] at HRN
      rw [← HS3.out] at q7 q8 q9 q10
      have q11 := q11 n ks
      rw [← HS3.out, ← HA.out] at q11
      have HQ : Hid (sfFe (sfLook b S3.dir) = 0 ∧ sfRead S3 b = A ∧ sfFe (sfLook a S3.dir) = 4 ∧ (∀ c, c ≠ a → c ≠ b → sfLook c S3.dir = sfLook c S.dir ∧ sfRead S3 c = sfRead S c)) := ⟨q7, q8, q9, q10⟩
      have HQ2 : Hid ((n < 1 → sfFe (sfLook a (sfCrash S3 n ks).dir) = 0 ∧ sfRead (sfCrash S3 n ks) a = A) ∧ (1 ≤ n → sfFe (sfLook b (sfCrash S3 n ks).dir) = 0 ∧ sfRead (sfCrash S3 n ks) b = A ∧ sfFe (sfLook a (sfCrash S3 n ks).dir) = 4)) := q11
      clear q1 q2 q3 q4 q5 q6 q7 q8 q9 q10 q11 hnb HHI HS1 HA
      go_wp2_with fail
      refine HRN.out.mono ?_
      rintro e w6 ⟨rfl, hx6, hb6, hk6⟩
      have HX6 : Hid (FamX w6 W.heap.size [(.pointer (some ⟨g1, 0, none⟩), S3), (.pointer (some ⟨g2, 0, none⟩), S)] (fun k => w4.heap.size ≤ k ∧ k < w5.heap.size)) := hx6
      have HB6 : Hid (Below W.heap.size W w6) := HB5.out.trans hb6
      have HO6 : Hid (Own w6 w4.heap.size (.slice aa A.length ac) A) := own_keepX HO5.out.1 HO5.out.2 hk6
      clear hx6 hb6 hk6 HRN HX5
      go_wp2_with fail
      refine (HRD.out w6 (.pointer (some ⟨g1, 0, none⟩)) S3 b A 0 HQ.out.1 HQ.out.2.1 hbl (HX6.out.fs 0 (by simp))).mono ?_
      rintro e w7 ⟨ba, bcp, rfl, ho7, hb7⟩
      have HX7 : Hid (FamX w7 W.heap.size [(.pointer (some ⟨g1, 0, none⟩), S3), (.pointer (some ⟨g2, 0, none⟩), S)] (fun k => w4.heap.size ≤ k ∧ k < w5.heap.size)) := (HX6.out.below hb7).less (fun k q => .inl q)
      have HB7 : Hid (Below W.heap.size W w7) := HB6.out.trans (hb7.mono HB6.out.size)
      have HO7 : Hid (Own w7 w4.heap.size (.slice aa A.length ac) A) := HO6.out.below hb7
      have HP7 : Hid (Own w7 w6.heap.size (.slice ba A.length bcp) A) := ho7
      clear ho7 hb7 HX6 HO6
      obtain ⟨D, HD⟩ := hid_ex (sfRead S3 a)
      go_wp2_with fail
      refine (HRD.out w7 (.pointer (some ⟨g1, 0, none⟩)) S3 a D 4 HQ.out.2.2.1 HD.out.symm hal (HX7.out.fs 0 (by simp))).mono ?_
      rintro e w8 ⟨da, dc, rfl, ho8, hb8⟩
      have HX8 : Hid (FamX w8 W.heap.size [(.pointer (some ⟨g1, 0, none⟩), S3), (.pointer (some ⟨g2, 0, none⟩), S)] (fun k => w4.heap.size ≤ k ∧ k < w5.heap.size)) := (HX7.out.below hb8).less (fun k q => .inl q)
      have HB8 : Hid (Below W.heap.size W w8) := HB7.out.trans (hb8.mono HB7.out.size)
      have HO8 : Hid (Own w8 w4.heap.size (.slice aa A.length ac) A) := HO7.out.below hb8
      have t1 := reads_text (HO7.out.below hb8).reads
      have t2 := reads_text (HP7.out.below hb8).reads
      clear ho8 hb8 HX7 HO7 HP7
      have hdl := HWF.out.dl
      obtain ⟨N, HN⟩ := hid_ex S.dir.length
      rw [← HN.out] at hdl
      obtain ⟨OG, hfg⟩ := HX8.out.fs 1 (by simp)
      have HFG : Hid (Fs w8 OG (.pointer (some ⟨g2, 0, none⟩)) S) := hfg
      clear hfg
      go_wp2_with fail
      refine (Fs.list HFG.out).mono ?_
      rintro e w9 ⟨lv, rfl, hrow, hb9⟩
      rw [← HN.out] at hrow
      obtain ⟨la, lc, hlv⟩ := row_form hrow
      subst hlv
      have HX9 : Hid (FamX w9 W.heap.size [(.pointer (some ⟨g1, 0, none⟩), S3), (.pointer (some ⟨g2, 0, none⟩), S)] (fun k => w4.heap.size ≤ k ∧ k < w5.heap.size)) := (HX8.out.below hb9).less (fun k q => .inl q)
      have HB9 : Hid (Below W.heap.size W w9) := HB8.out.trans (hb9.mono HB8.out.size)
      have HO9 : Hid (Own w9 w4.heap.size (.slice aa A.length ac) A) := HO8.out.below hb9
      have HR9 : Hid (w9.ownsRow w8.heap.size 9 1 (.slice la N lc) N (S.dir.map fun p => sv p.1)) := hrow
      clear hrow hb9 HFG HX8 HO8 t1 t2
      go_wp2_with fail
      go_loopw [22] (fun i wr => ∃ j : Nat, i = .int .i64 (j : Int) ∧ j ≤ N ∧ Hid (FamX wr W.heap.size [(.pointer (some ⟨g1, 0, none⟩), S3), (.pointer (some ⟨g2, 0, none⟩), S)] (fun k => w4.heap.size ≤ k ∧ k < w5.heap.size)) ∧ Hid (Own wr w4.heap.size (.slice aa A.length ac) A) ∧ Hid (wr.ownsRow w8.heap.size 9 1 (.slice la N lc) N (S.dir.map fun p => sv p.1)) ∧ Hid (Below W.heap.size W wr)) (fun i _ => N - (intOf i).toNat)
      case atStart => exact ⟨0, rfl, by omega, HX9, HO9, HR9, HB9⟩
      case round =>
        obtain ⟨j, rfl, hj, HX, HO, HR, HB⟩ := hrel
        by_cases hlt : j < N
        · have hlt' : (j : Int) < (N : Int) := by omega
          have hjd : j < S.dir.length := by rw [← HN.out]; exact hlt
          obtain ⟨lb, hla, x0⟩ := row_str' HR.out HN.out hlt
          subst hla
          obtain ⟨OF, hfG⟩ := HX.out.fs 1 (by simp)
          have hfG' : Fs wr OF (.pointer (some ⟨g2, 0, none⟩)) S := hfG
          obtain ⟨f1, f2, f3⟩ := read_at hfG' hjd
          obtain ⟨c, HC⟩ := hid_ex S.dir[j].1
          rw [← HC.out] at x0 f1 f2 f3
          have hcl : c.length ≤ maxLen := by simp only [maxLen]; omega
          obtain ⟨E1, HE1⟩ := hid_ex (sfFe (sfLook c S3.dir))
          obtain ⟨C1, HC1⟩ := hid_ex (sfRead S c)
          obtain ⟨C2, HC2⟩ := hid_ex (sfRead S3 c)
          have HCA : Hid (Calls Try.prog 12 #[.pointer (some ⟨g2, 0, none⟩), .string ⟨c.toArray⟩] wr fun e w' => ∃ x y, e = .returned (.tuple #[.slice x C1.length y, .int .i64 0]) ∧ Own w' wr.heap.size (.slice x C1.length y) C1 ∧ Below wr.heap.size wr w') := HRD.out wr (.pointer (some ⟨g2, 0, none⟩)) S c C1 0 f1 HC1.out.symm hcl (HX.out.fs 1 (by simp))
          have HLE : Hid (c ≠ a → c ≠ b → E1 = 0 ∧ C2 = C1) := fun h1 h2 => by
            obtain ⟨z1, z2⟩ := HQ.out.2.2.2 c h1 h2
            rw [HE1.out, HC2.out, HC1.out, z1, z2]
            exact ⟨f1, rfl⟩
          have hq1 := (World.ownsRow.lt HR.out lb rfl).2
          clear hfG hfG' f1 f2 f3 HC
          go_wp2_with fail
          refine HCA.out.mono ?_
          rintro e wa ⟨xa, xc, rfl, hoa, hba⟩
          have HXa : Hid (FamX wa W.heap.size [(.pointer (some ⟨g1, 0, none⟩), S3), (.pointer (some ⟨g2, 0, none⟩), S)] (fun k => w4.heap.size ≤ k ∧ k < w5.heap.size)) := (HX.out.below hba).less (fun k q => .inl q)
          have HBa : Hid (Below W.heap.size W wa) := HB.out.trans (hba.mono HB.out.size)
          have HBr : Hid (Below wr.heap.size wr wa) := hba
          have HOa : Hid (Own wa wr.heap.size (.slice xa C1.length xc) C1) := hoa
          have xa0 := (hba.cell (p := ⟨lb, j, none⟩) hq1).trans x0
          clear hoa hba HCA
          go_wp2_with fail
          refine (HRD.out wa (.pointer (some ⟨g1, 0, none⟩)) S3 c C2 E1 HE1.out.symm HC2.out.symm hcl (HXa.out.fs 0 (by simp))).mono ?_
          rintro e wb ⟨ya, yc, rfl, hob, hbb⟩
          have HXb : Hid (FamX wb W.heap.size [(.pointer (some ⟨g1, 0, none⟩), S3), (.pointer (some ⟨g2, 0, none⟩), S)] (fun k => w4.heap.size ≤ k ∧ k < w5.heap.size)) := (HXa.out.below hbb).less (fun k q => .inl q)
          have HBb : Hid (Below W.heap.size W wb) := HBa.out.trans (hbb.mono HBa.out.size)
          have hbr : Below wr.heap.size wr wb := HBr.out.trans (hbb.mono HBr.out.size)
          have HOb : Hid (Own wb w4.heap.size (.slice aa A.length ac) A) := HO.out.below hbr
          have HRb : Hid (wb.ownsRow w8.heap.size 9 1 (.slice (some ⟨lb, 0, none⟩) N lc) N (S.dir.map fun p => sv p.1)) := row_keepB HR.out (fun k _ hl => hbr.block k hl)
          have xb0 := (hbr.cell (p := ⟨lb, j, none⟩) hq1).trans x0
          have t1 := reads_text (HOa.out.reads.below hbb)
          have t2 := reads_text hob.reads
          clear hob hbb hbr x0 xa0
          by_cases hca0 : c = a
          · subst hca0
            go_wp2_with fail
            go_roundw
            case rel => exact ⟨j + 1, by go_num, by omega, HXb, HOb, HRb, HBb⟩
            case measure => simp [intOf]; omega
          have hca2 : ((⟨c.toArray⟩ : ByteArray).toList == (⟨a.toArray⟩ : ByteArray).toList) = false := by rw [ByteArray.toList_eq, ByteArray.toList_eq]; simpa using hca0
          have hca3 : (c == a) = false := by simpa using hca0
          by_cases hcb0 : c = b
          · subst hcb0
            go_wp2_with fail
            go_roundw
            case rel => exact ⟨j + 1, by go_num, by omega, HXb, HOb, HRb, HBb⟩
            case measure => simp [intOf]; omega
          have hcb2 : ((⟨c.toArray⟩ : ByteArray).toList == (⟨b.toArray⟩ : ByteArray).toList) = false := by rw [ByteArray.toList_eq, ByteArray.toList_eq]; simpa using hcb0
          have hcb3 : (c == b) = false := by simpa using hcb0
          obtain ⟨z1, z2⟩ := HLE.out hca0 hcb0
          subst z1 z2
          go_wp2_with fail
          go_roundw
          case rel => exact ⟨j + 1, by go_num, by omega, HXb, HOb, HRb, HBb⟩
          case measure => simp [intOf]; omega
        · have hlt' : ¬ (j : Int) < (N : Int) := by omega
          have HCR : Hid (Calls Try.prog 16 #[.pointer (some ⟨g1, 0, none⟩), .int .i64 n, .slice ka ks.length kc] wr fun e w' => e = .returned (.int .i64 0) ∧ (FamX w' W.heap.size [(.pointer (some ⟨g1, 0, none⟩), sfCrash S3 n ks), (.pointer (some ⟨g2, 0, none⟩), S)] (fun k => w4.heap.size ≤ k ∧ k < w5.heap.size)) ∧ Below W.heap.size wr w' ∧ ∀ k, (w4.heap.size ≤ k ∧ k < w5.heap.size) → w'.heap[k]? = wr.heap[k]?) :=
            HX.out.call 0 (by simp) (F := 16) (args := #[.pointer (some ⟨g1, 0, none⟩), .int .i64 n, .slice ka ks.length kc]) (r := (0, sfCrash S3 n ks)) (fun O' hf hO _ => hf.crash n _ ks (fun w' q => HK.out.below (HB.out.trans (q.below HB.out.size hO))))
          obtain ⟨S4, HS4⟩ := hid_ex (sfCrash S3 n ks)
          rw [← HS4.out] at HCR HQ2
          obtain ⟨E1, HE1⟩ := hid_ex (sfFe (sfLook a S4.dir))
          obtain ⟨E2, HE2⟩ := hid_ex (sfFe (sfLook b S4.dir))
          obtain ⟨C1, HC1⟩ := hid_ex (sfRead S4 a)
          obtain ⟨C2, HC2⟩ := hid_ex (sfRead S4 b)
          rw [← HE1.out, ← HE2.out, ← HC1.out, ← HC2.out] at HQ2
          go_wp2_with fail
          refine HCR.out.mono ?_
          rintro e wc ⟨rfl, hxc, hbc, hkc⟩
          have HXc : Hid (FamX wc W.heap.size [(.pointer (some ⟨g1, 0, none⟩), S4), (.pointer (some ⟨g2, 0, none⟩), S)] (fun k => w4.heap.size ≤ k ∧ k < w5.heap.size)) := hxc
          have HBc : Hid (Below W.heap.size W wc) := HB.out.trans hbc
          have HOc : Hid (Own wc w4.heap.size (.slice aa A.length ac) A) := own_keepX HO.out HO5.out.2 hkc
          clear hxc hbc hkc HCR HX HO HR
          go_wp2_with fail
          refine (HRD.out wc (.pointer (some ⟨g1, 0, none⟩)) S4 a C1 E1 HE1.out.symm HC1.out.symm hal (HXc.out.fs 0 (by simp))).mono ?_
          rintro e wd ⟨xa, xc, rfl, hod, hbd⟩
          have HXd : Hid (FamX wd W.heap.size [(.pointer (some ⟨g1, 0, none⟩), S4), (.pointer (some ⟨g2, 0, none⟩), S)] (fun k => w4.heap.size ≤ k ∧ k < w5.heap.size)) := (HXc.out.below hbd).less (fun k q => .inl q)
          have HBd : Hid (Below W.heap.size W wd) := HBc.out.trans (hbd.mono HBc.out.size)
          have HOd : Hid (Own wd w4.heap.size (.slice aa A.length ac) A) := HOc.out.below hbd
          have HCd : Hid (Own wd wc.heap.size (.slice xa C1.length xc) C1) := hod
          clear hod hbd HXc HOc
          go_wp2_with fail
          refine (HRD.out wd (.pointer (some ⟨g1, 0, none⟩)) S4 b C2 E2 HE2.out.symm HC2.out.symm hbl (HXd.out.fs 0 (by simp))).mono ?_
          rintro e we ⟨ya, yc, rfl, hoe, hbe⟩
          have HBe : Hid (Below W.heap.size W we) := HBd.out.trans (hbe.mono HBd.out.size)
          have HOe : Hid (Reads we (.slice aa A.length ac) A) := (HOd.out.below hbe).reads
          have HCe : Hid (Reads we (.slice xa C1.length xc) C1) := (HCd.out.below hbe).reads
          have HDe : Hid (Reads we (.slice ya C2.length yc) C2) := hoe.reads
          clear hoe hbe HXd HOd HCd
          go_wp2_with fail
          refine (alive11_any we).mono ?_
          rintro e wf ⟨rfl, hbf⟩
          have HBf : Hid (Below W.heap.size W wf) := HBe.out.trans (hbf.mono HBe.out.size)
          have t0 := reads_text (HOe.out.below hbf)
          have t1 := reads_text (HCe.out.below hbf)
          have t2 := reads_text (HDe.out.below hbf)
          clear hbf
          by_cases hn1 : n < 1
          · obtain ⟨z1, z2⟩ := HQ2.out.1 hn1
            subst z1 z2
            have hn1' : ¬ 1 ≤ n := by omega
            go_wp2_with fail
            go_ret
            exact ⟨rfl, HBf.out⟩
          · have hn1' : 1 ≤ n := by omega
            obtain ⟨z1, z2, z3⟩ := HQ2.out.2 hn1'
            subst z1 z2 z3
            go_wp2_with fail
            go_ret
            exact ⟨rfl, HBf.out⟩
end Go.Proofs.Yteajfbgodfpioaa
