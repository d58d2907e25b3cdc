/- The walk of BlockSeeks. -/
import Derived.Test.YtmnppfklgdohmaaBK9
import Derived.Test.YtmnppfklgdohmaaBK10
import Derived.Test.YtmnppfklgdohmaaBK11
namespace Go.Proofs.Ytmnppfklgdohmaa
open Go.RowKit

theorem less_iff : ∀ a b : Ks, Op.bytesLess a b = true ↔ Lib.compareBytes a b = -1
  | [], [] => by simp [Op.bytesLess, Lib.compareBytes]
  | [], _ :: _ => by simp [Op.bytesLess, Lib.compareBytes]
  | _ :: _, [] => by simp [Op.bytesLess, Lib.compareBytes]
  | x :: a, y :: b => by
    have ih := less_iff a b
    simp only [Op.bytesLess, Lib.compareBytes]
    by_cases h1 : x < y
    · simp [h1]
    · rw [if_neg h1]
      by_cases h2 : y < x
      · have : x ≠ y := fun e => by subst e; exact h1 h2
        simp [h1, h2, this]
      · have : x = y := u8_tri h1 h2
        subst this
        simp [ih]
theorem less_ltK (a b : Ks) : Op.bytesLess a b = decide (ltK a b) := by
  rw [Bool.eq_iff_iff, less_iff, decide_eq_true_iff]; rfl
theorem wrB_len {l : List Pr} (h : ¬ (60 < l.length ∧ l.length ≤ 4096)) (h0 : mbF l = 0) : (wrB l).length ≤ 1000000 := by
  obtain ⟨h1, h2, _⟩ := mb_zero.1 h0
  have := wbF_len l 0 [] h2
  unfold wrB wb
  rw [if_pos h0]
  omega
theorem rd_wr {l : List Pr} (h0 : mbF l = 0) : rdB (wrB l) = some l := by
  unfold wrB; rw [if_pos h0]; exact rdB_wb h0
/-- Was one found so far? -/
def fnd (l : List Pr) (key : Ks) (k : Nat) : Bool := (l.take k).any fun x => decide (¬ ltK x.1 key)
theorem fnd_no {l : List Pr} {key : Ks} {k : Nat} (h : fnd l key k = false) : ∀ x ∈ l.take k, ltK x.1 key := by
  unfold fnd at h
  intro x hx
  have := List.any_eq_false.1 h x hx
  simpa using this
set_option maxRecDepth 100000 in
set_option maxHeartbeats 4000000 in
theorem seeks_walk (v : Value) (l : List Pr) (kv : Value) (key : Ks) (w : World) (hP : PReads w v l) (hK : Reads w kv key) :
    Calls Try.prog 6 #[v, kv] w fun e w' => e = .returned (.bool true) ∧ Below w.heap.size w w' := by
  have HP : Hid (PReads w v l) := hP
  have HK : Hid (Reads w kv key) := hK
  obtain ⟨a, cap, rfl, hcap, hm, h3⟩ := hP
  obtain ⟨ak, ck, rfl, hmk⟩ := hK.form
  unfold maxLen at hm hmk
  have H3 : Hid _ := h3
  clear h3 hK
  go_enter Try.func6, Try.ntmps6
  go_wp2_with fail
  refine (great_any _ l _ HP.out).mono ?_
  rintro e w1 ⟨g, rfl, hg, hb1⟩
  have HB1 : Hid (Below w.heap.size w w1) := hb1
  have HG : Hid (g = false → ¬ (60 < l.length ∧ l.length ≤ 4096)) := hg
  clear hb1 hg
  cases g
  · have HG2 : Hid (¬ (60 < l.length ∧ l.length ≤ 4096)) := HG.out rfl
    clear HG
    by_cases g2 : (1000 : Int) < (key.length : Int)
    · go_wp2_with fail
      refine (alive_any _).mono ?_
      rintro e w9 ⟨rfl, hb9⟩
      have HB9 : Hid (Below w.heap.size w w9) := HB1.out.trans (hb9.mono HB1.out.size)
      clear hb9
      go_wp2_with fail
      go_ret
      exact ⟨rfl, HB9.out⟩
    go_wp2_with fail
    refine (write_any _ l _ (HP.out.below HB1.out)).mono ?_
    rintro e w2 ⟨v2, rfl, ho2, hb2⟩
    have HB2 : Hid (Below w.heap.size w w2) := HB1.out.trans (hb2.mono HB1.out.size)
    have HO2 : Hid (Reads w2 v2 (wrB l)) := ho2.reads
    clear hb2 ho2
    by_cases h0 : mbF l = 0
    · rw [h0]
      go_wp2_with fail
      refine (seek_any _ _ (wrB l) key (wrB_len HG2.out h0) _ HO2.out (HK.out.below HB2.out)).mono ?_
      rintro e w3 ⟨hb3, he⟩
      have HB3 : Hid (Below w.heap.size w w3) := HB2.out.trans (hb3.mono HB2.out.size)
      rw [rd_wr h0] at he
      dsimp only at he
      clear hb3 HO2 HB2 HB1 h0 HG2
      cases hfs : fsF l key with
      | none =>
        rw [hfs] at he
        dsimp only at he
        subst he
        have HFN : Hid (∀ x ∈ l, ltK x.1 key) := fun x hx => by
          have := List.find?_eq_none.1 hfs x hx
          simpa using this
        clear hfs
        obtain ⟨w4, HW4⟩ := hid_ex (w3.alloc (.cells #[.slice none 0 0, .slice none 0 0] 38))
        have HB4 : Hid (Below w.heap.size w w4) := by rw [HW4.out]; exact HB3.out.alloc HB3.out.size _
        go_wp2_with fail
        rw [← HW4.out]
        clear HW4
        go_loopw [10, 11] (fun f i wr => ∃ k : Nat, k ≤ l.length ∧ i = .int .i64 (k : Int) ∧ f = .bool false ∧ Hid (Below w4.heap.size w4 wr)) (fun _ i _ => l.length - (intOf i).toNat)
        case atStart => exact ⟨0, by omega, rfl, rfl, Below.refl _ _⟩
        case round =>
          obtain ⟨k, hk, rfl, rfl, HW⟩ := hrel
          by_cases hlt : k < l.length
          · obtain ⟨bA, oA, rfl, hbA, hA⟩ := H3.out.resolve_left (fun h => by rw [h] at hlt; simp at hlt)
            obtain ⟨kx, vx, q0, q1, r0, r1⟩ := hA k hlt
            obtain ⟨X, HX⟩ := hid_ex l[k]
            rw [← HX.out] at r0 r1
            have HTk : Hid (l.take (k + 1) = l.take k ++ [X]) := by unfold Hid; rw [List.take_add_one, List.getElem?_eq_getElem hlt, HX.out]; rfl
            have HWW : Hid (Below w.heap.size w wr) := HB4.out.trans (HW.out.mono HB4.out.size)
            have c0 := (HWW.out.cell (p := ⟨bA, oA + k * 2, none⟩) hbA).trans q0
            have c1 := (HWW.out.cell (p := ⟨bA, oA + k * 2 + 1, none⟩) hbA).trans q1
            have HR0 : Hid (Reads w kx X.1) := r0
            have HR1 : Hid (Reads w vx X.2) := r1
            obtain ⟨a1, c1', rfl, _⟩ := r0.form
            obtain ⟨a2, c2', rfl, _⟩ := r1.form
            clear hA q0 q1 r0 r1
            have hq1 : ∀ n, (convert 23 9 (.slice a1 X.1.length c1')).run Try.prog (wr.drewN n) = .ok (.string ⟨X.1.toArray⟩) (wr.drewN n) := fun n => reads_text (HR0.out.below (below_drewN HWW.out n))
            have hq2 : ∀ n, (convert 23 9 (.slice ak key.length ck)).run Try.prog (wr.drewN n) = .ok (.string ⟨key.toArray⟩) (wr.drewN n) := fun n => reads_text (HK.out.below (below_drewN HWW.out n))
            have hle : Op.bytesLess X.1 key = true := by rw [less_ltK]; exact decide_eq_true (by rw [HX.out]; exact HFN.out _ (List.getElem_mem hlt))
            clear HX
            go_wp2_with fail
            go_quiet (fail)
            have HW2 : Hid (Below w4.heap.size w4 (wr.drewN nq)) := below_drewN HW.out nq
            clear hq1 hq2 c0 c1
            go_wp2_with fail
            go_roundw
            case rel => exact ⟨k + 1, by omega, by go_num, rfl, HW2⟩
            case measure => simp [intOf]; omega
          · have HWW : Hid (Below w.heap.size w wr) := HB4.out.trans (HW.out.mono HB4.out.size)
            go_wp2_with fail
            refine (alive_any _).mono ?_
            rintro e w9 ⟨rfl, hb9⟩
            have HB9 : Hid (Below w.heap.size w w9) := HWW.out.trans (hb9.mono HWW.out.size)
            clear hb9
            go_wp2_with fail
            go_ret
            exact ⟨rfl, HB9.out⟩
      | some x =>
        rw [hfs] at he
        dsimp only at he
        obtain ⟨pk, pv, rfl, hpk, hpv⟩ := he
        have HFS : Hid (fsF l key = some x) := hfs
        obtain ⟨ap, cp, rfl, _⟩ := hpk.form
        obtain ⟨aq, cq, rfl, _⟩ := hpv.form
        obtain ⟨w4, HW4⟩ := hid_ex (w3.alloc (.cells #[.slice ap x.1.length cp, .slice aq x.2.length cq] 38))
        have hb4 : Below w3.heap.size w3 w4 := by rw [HW4.out]; exact (Below.refl _ _).alloc (Nat.le_refl _) _
        have HB4 : Hid (Below w.heap.size w w4) := HB3.out.trans (hb4.mono HB3.out.size)
        have HPK : Hid (Reads w4 (.slice ap x.1.length cp) x.1) := hpk.below hb4
        have HPV : Hid (Reads w4 (.slice aq x.2.length cq) x.2) := hpv.below hb4
        have HZ4 : Hid (w4.heap[w3.heap.size]? = some (.cells #[.slice ap x.1.length cp, .slice aq x.2.length cq] 38)) := by rw [HW4.out]; exact World.alloc_heap_new _ _
        clear hpk hpv hb4 hfs
        go_wp2_with fail
        rw [← HW4.out]
        clear HW4
        go_loopw [10, 11] (fun f i wr => ∃ k : Nat, k ≤ l.length ∧ i = .int .i64 (k : Int) ∧ f = .bool (fnd l key k) ∧ Hid (Below w4.heap.size w4 wr)) (fun _ i _ => l.length - (intOf i).toNat)
        case atStart => exact ⟨0, by omega, rfl, rfl, Below.refl _ _⟩
        case round =>
          obtain ⟨k, hk, rfl, rfl, HW⟩ := hrel
          obtain ⟨f, HF⟩ := hid_ex (fnd l key k)
          rw [← HF.out]
          by_cases hlt : k < l.length
          · obtain ⟨bA, oA, rfl, hbA, hA⟩ := H3.out.resolve_left (fun h => by rw [h] at hlt; simp at hlt)
            obtain ⟨kx, vx, q0, q1, r0, r1⟩ := hA k hlt
            obtain ⟨X, HX⟩ := hid_ex l[k]
            rw [← HX.out] at r0 r1
            have HTk : Hid (l.take (k + 1) = l.take k ++ [X]) := by unfold Hid; rw [List.take_add_one, List.getElem?_eq_getElem hlt, HX.out]; rfl
            have HWW : Hid (Below w.heap.size w wr) := HB4.out.trans (HW.out.mono HB4.out.size)
            have c0 := (HWW.out.cell (p := ⟨bA, oA + k * 2, none⟩) hbA).trans q0
            have c1 := (HWW.out.cell (p := ⟨bA, oA + k * 2 + 1, none⟩) hbA).trans q1
            have HR0 : Hid (Reads w kx X.1) := r0
            have HR1 : Hid (Reads w vx X.2) := r1
            obtain ⟨a1, c1', rfl, _⟩ := r0.form
            obtain ⟨a2, c2', rfl, _⟩ := r1.form
            clear hA q0 q1 r0 r1
            have hq1 : ∀ n, (convert 23 9 (.slice a1 X.1.length c1')).run Try.prog (wr.drewN n) = .ok (.string ⟨X.1.toArray⟩) (wr.drewN n) := fun n => reads_text (HR0.out.below (below_drewN HWW.out n))
            have hq2 : ∀ n, (convert 23 9 (.slice ak key.length ck)).run Try.prog (wr.drewN n) = .ok (.string ⟨key.toArray⟩) (wr.drewN n) := fun n => reads_text (HK.out.below (below_drewN HWW.out n))
            have HFX : Hid (f = false → ¬ ltK X.1 key → x = X) := fun h1 h2 => by
              have := fsF_at hlt (fnd_no (by rw [← HF.out]; exact h1)) (by rw [← HX.out]; exact h2)
              rw [HFS.out, ← HX.out] at this
              exact Option.some.inj this
            have HFN : Hid (fnd l key (k + 1) = (f || decide (¬ ltK X.1 key))) := by
              unfold Hid fnd
              rw [HTk.out, List.any_append, HF.out]
              simp [fnd]
            clear HX
            by_cases hl : ltK X.1 key
            · have hle : Op.bytesLess X.1 key = true := by rw [less_ltK]; exact decide_eq_true hl
              rw [decide_eq_false (fun h => h hl), Bool.or_false] at HFN
              cases f
              · go_wp2_with fail
                go_quiet (fail)
                have HW2 : Hid (Below w4.heap.size w4 (wr.drewN nq)) := below_drewN HW.out nq
                clear hq1 hq2 c0 c1
                go_wp2_with fail
                go_roundw
                case rel => exact ⟨k + 1, by omega, by go_num, by rw [HFN.out], HW2⟩
                case measure => simp [intOf]; omega
              · go_wp2_with fail
                go_quiet (fail)
                have HW2 : Hid (Below w4.heap.size w4 (wr.drewN nq)) := below_drewN HW.out nq
                clear hq1 hq2 c0 c1
                go_wp2_with fail
                go_roundw
                case rel => exact ⟨k + 1, by omega, by go_num, by rw [HFN.out], HW2⟩
                case measure => simp [intOf]; omega
            · have hle : Op.bytesLess X.1 key = false := by rw [less_ltK]; exact decide_eq_false hl
              rw [decide_eq_true hl, Bool.or_true] at HFN
              cases f
              · obtain rfl := HFX.out rfl hl
                go_wp2_with fail
                go_quiet (fail)
                obtain ⟨w5, HW5⟩ := hid_ex (wr.drewN nq)
                have HW2 : Hid (Below w4.heap.size w4 w5) := by rw [HW5.out]; exact below_drewN HW.out nq
                have HWW5 : Hid (Below w.heap.size w w5) := HB4.out.trans (HW2.out.mono HB4.out.size)
                have d0 : w5.cell? ⟨bA, oA + k * 2, none⟩ = some (.slice a1 x.1.length c1') := by rw [HW5.out]; exact c0
                have d1 : w5.cell? ⟨bA, oA + k * 2 + 1, none⟩ = some (.slice a2 x.2.length c2') := by rw [HW5.out]; exact c1
                have HZ5 : Hid (w5.heap[w3.heap.size]? = _) := (HW2.out.block _ (Array.getElem?_eq_some_iff.1 HZ4.out).1).trans HZ4.out
                have z0 := cell_rw HZ5.out 0 (by simp)
                have z1 := cell_rw HZ5.out 1 (by simp)
                simp only [List.getElem_toArray, List.getElem_cons_succ, List.getElem_cons_zero] at z0 z1
                clear hq1 hq2 c0 c1
                rw [← HW5.out]
                have hq1 : ∀ n, (convert 23 9 (.slice a1 x.1.length c1')).run Try.prog (w5.drewN n) = .ok (.string ⟨x.1.toArray⟩) (w5.drewN n) := fun n => reads_text (HR0.out.below (below_drewN HWW5.out n))
                have hq2 : ∀ n, (convert 23 9 (.slice a2 x.2.length c2')).run Try.prog (w5.drewN n) = .ok (.string ⟨x.2.toArray⟩) (w5.drewN n) := fun n => reads_text (HR1.out.below (below_drewN HWW5.out n))
                have hq3 : ∀ n, (convert 23 9 (.slice ap x.1.length cp)).run Try.prog (w5.drewN n) = .ok (.string ⟨x.1.toArray⟩) (w5.drewN n) := fun n => reads_text (HPK.out.below (below_drewN HW2.out n))
                have hq4 : ∀ n, (convert 23 9 (.slice aq x.2.length cq)).run Try.prog (w5.drewN n) = .ok (.string ⟨x.2.toArray⟩) (w5.drewN n) := fun n => reads_text (HPV.out.below (below_drewN HW2.out n))
                clear HW5
                go_wp2_with fail
                go_quiet (fail)
                have HW6 : Hid (Below w4.heap.size w4 (w5.drewN nq)) := below_drewN HW2.out nq
                clear hq1 hq2 hq3 hq4 z0 z1 d0 d1
                go_wp2_with fail
                go_roundw
                case rel => exact ⟨k + 1, by omega, by go_num, by rw [HFN.out], HW6⟩
                case measure => simp [intOf]; omega
              · go_wp2_with fail
                go_quiet (fail)
                have HW2 : Hid (Below w4.heap.size w4 (wr.drewN nq)) := below_drewN HW.out nq
                clear hq1 hq2 c0 c1
                go_wp2_with fail
                go_roundw
                case rel => exact ⟨k + 1, by omega, by go_num, by rw [HFN.out], HW2⟩
                case measure => simp [intOf]; omega
          · have HWW : Hid (Below w.heap.size w wr) := HB4.out.trans (HW.out.mono HB4.out.size)
            have hft : f = true := by
              cases hf : f
              · rw [hf] at HF
                have hkl : k = l.length := by omega
                have hno := fnd_no HF.out.symm
                rw [hkl, List.take_length] at hno
                have := fsF_none hno
                rw [HFS.out] at this
                cases this
              · rfl
            subst hft
            go_wp2_with fail
            refine (alive_any _).mono ?_
            rintro e w9 ⟨rfl, hb9⟩
            have HB9 : Hid (Below w.heap.size w w9) := HWW.out.trans (hb9.mono HWW.out.size)
            clear hb9
            go_wp2_with fail
            go_ret
            exact ⟨rfl, HB9.out⟩
    · go_wp2_with fail
      refine (alive_any _).mono ?_
      rintro e w9 ⟨rfl, hb9⟩
      have HB9 : Hid (Below w.heap.size w w9) := HB2.out.trans (hb9.mono HB2.out.size)
      clear hb9
      go_wp2_with fail
      go_ret
      exact ⟨rfl, HB9.out⟩
  · go_wp2_with fail
    refine (alive_any _).mono ?_
    rintro e w9 ⟨rfl, hb9⟩
    have HB9 : Hid (Below w.heap.size w w9) := HB1.out.trans (hb9.mono HB1.out.size)
    clear hb9
    go_wp2_with fail
    go_ret
    exact ⟨rfl, HB9.out⟩
end Go.Proofs.Ytmnppfklgdohmaa
