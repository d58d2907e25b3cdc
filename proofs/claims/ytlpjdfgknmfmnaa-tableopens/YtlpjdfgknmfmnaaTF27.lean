/- TN5, joined. -/
import Derived.Test.YtlpjdfgknmfmnaaTZ0
import Derived.Test.YtlpjdfgknmfmnaaTF13
import Derived.Test.YtlpjdfgknmfmnaaTF19
import Derived.Test.YtlpjdfgknmfmnaaTF26
/- table: Write of none. -/
namespace Go.Proofs.Ytlpjdfgknmfmnaa
open Go.RowKit

theorem chunk1_nil (n : Nat) (l Bs Bn : Nat) (J : List Empty → World → Prop) (W : World) (hs : W.cell? ⟨Bs, 0, none⟩ = some (.slice none 0 0)) (hJ : ∀ pre A B, J pre A → Below A.heap.size A B → J pre B) (h0 : J [] W) :
    CallsIn Fence.wide n Try.prog 50 #[.func (.yield l) #[] #[], .pointer (some ⟨Bs, 0, none⟩), .pointer (some ⟨Bn, 0, none⟩)] W fun e W' => (∃ v, e = .returned v) ∧ ∃ xs, xs = [] ∧ J xs W' := by
  refine callsIn_of_wp Try.func50 rfl trivial ?_ rfl
  simp only [Try.ntmps50, List.size_toArray, List.length_cons, List.length_nil, Nat.reduceAdd, Nat.reduceSub, Array.replicate_succ, Array.replicate_zero, List.push_toArray, List.append_toArray, List.nil_append, List.cons_append]
  have HJ : Hid (∀ pre A B, J pre A → Below A.heap.size A B → J pre B) := hJ
  clear hJ
  gi_wp2
  gi_loopw [4] (fun i wr => i = .int .i64 0 ∧ wr.cell? ⟨Bs, 0, none⟩ = some (.slice none 0 0) ∧ J [] wr) (fun _ _ => 0)
  case atStart => exact ⟨rfl, hs, h0⟩
  case round =>
    obtain ⟨rfl, hc, hJr⟩ := hrel
    gi_wp2
    refine bodyPost_end (results_none rfl _ _ _) rfl ?_
    exact ⟨⟨_, rfl⟩, [], rfl, hJr⟩
/-- While nothing is handed over. -/
def INil (w w1 : World) (_ : List Empty) (W : World) : Prop := Boxed W w1.heap.size 25 (.slice none 0 0) ∧ Boxed W (w1.heap.size + 1) 47 (.slice none 0 0) ∧ Below w.heap.size w W
set_option maxRecDepth 100000 in
set_option maxHeartbeats 2000000 in
theorem twrite_nil (w : World) : Calls Try.prog 7 #[.slice none 0 0] w fun e w' => ∃ v, e = .returned (.tuple #[v, .int .i64 0]) ∧ Own w' w.heap.size v (frm [] ++ frm [6, 0] ++ frm [0, 0, 0, 0, 0, 0, 0, 0, 0, 0, 0, 0, 0, 0, 0, 0]) ∧ Below w.heap.size w w' := by
  refine (callsIn_wide (n := 5)).1 (callsIn_of_wp_marks Try.func7 rfl trivial ?_ rfl)
  simp only [Try.ntmps7, List.size_toArray, List.length_cons, List.length_nil, Nat.reduceAdd, Nat.reduceSub, Array.replicate_succ, Array.replicate_zero, List.push_toArray, List.append_toArray, List.nil_append, List.cons_append]
  refine wpIn_wide.2 ?_
  go_wp2_with fail
  refine (mayBe_nil w).mono ?_
  rintro e w1 ⟨rfl, hb1⟩
  have HB1 : Hid (Below w.heap.size w w1) := hb1
  clear hb1
  go_wp2_with fail
  refine (chunk_nil _).mono ?_
  rintro e w2 ⟨rfl, rfl⟩
  simp only [World.size_alloc]
  obtain ⟨W0, HW0⟩ := hid_ex ((((w1.alloc (.cells #[.slice none 0 0] 25)).alloc (.cells #[.slice none 0 0] 47)).alloc (.cells #[.slice none 0 0] 22)).alloc (.cells #[.int .i64 16] 3))
  have HO0 : Hid (Boxed W0 w1.heap.size 25 (.slice none 0 0)) := by unfold Hid; rw [HW0.out]; exact (((Boxed.new w1 25 (.slice none 0 0)).alloc _).alloc _).alloc _
  have HI0 : Hid (Boxed W0 (w1.heap.size + 1) 47 (.slice none 0 0)) := by
    unfold Hid; rw [HW0.out]
    have := Boxed.new (w1.alloc (.cells #[.slice none 0 0] 25)) 47 (.slice none 0 0)
    rw [World.size_alloc] at this
    exact (this.alloc _).alloc _
  have HS0 : Hid (Boxed W0 (w1.heap.size + 1 + 1) 22 (.slice none 0 0)) := by
    unfold Hid; rw [HW0.out]
    have := Boxed.new ((w1.alloc (.cells #[.slice none 0 0] 25)).alloc (.cells #[.slice none 0 0] 47)) 22 (.slice none 0 0)
    rw [World.size_alloc, World.size_alloc] at this
    exact this.alloc _
  have HB0 : Hid (Below w.heap.size w W0) := by unfold Hid; rw [HW0.out]; exact HB1.out.trans ((((((Below.refl _ w1).alloc (Nat.le_refl _) _).alloc (by simp) _).alloc (by simp; omega) _).alloc (by simp; omega) _).mono HB1.out.size)
  have hz0 : W0.heap.size = w1.heap.size + 4 := by rw [HW0.out]; simp
  rw [← HW0.out]
  clear HW0
  go_wp2_with fail
  refine (wpIn_wide (n := 5)).1 ?_
  refine wpIn_range_pre rfl (by decide) (gf := 50) (lb := #[.pointer (some ⟨w1.heap.size + 1 + 1, 0, none⟩), .pointer (some ⟨w1.heap.size + 1 + 1 + 1, 0, none⟩)]) rfl trivial (enters_of Try.func50 (by kernel_rfl) rfl) (encs := fun x : Empty => nomatch x) (fun x => nomatch x) (INil w w1) (fun _ _ _ => False) (fun xs => xs = []) w1.heap.size (by omega)
    (fun l J W hK _ hJ _ h0 => chunk1_nil _ l _ _ J W (boxed_kc_C HS0.out hK).cell hJ h0)
    (fun _ _ _ hI hK => ⟨boxed_kc_C hI.1 hK, boxed_kc_C hI.2.1 hK, hI.2.2.trans (hK.b.mono HB1.out.size)⟩) (fun _ _ _ _ hp _ => hp.elim) ⟨HO0.out, HI0.out, HB0.out⟩ (fun x => nomatch x) (fun _ x => nomatch x) (fun _ _ x => nomatch x) ?done
  case done =>
    rintro D xs W hD _ ⟨hO, hI, hB⟩ hK
    have HO : Hid (Boxed W w1.heap.size 25 (.slice none 0 0)) := hO
    have HI : Hid (Boxed W (w1.heap.size + 1) 47 (.slice none 0 0)) := hI
    have HB : Hid (Below w.heap.size w W) := hB
    have HK : Hid (W.heap[D]? = some (.deferred (some []))) := hK
    clear hO hI hB hK
    have hDz : D < W.heap.size := (Array.getElem?_eq_some_iff.1 HK.out).1
    have hc1 := HO.out.cell
    have hc2 := HI.out.cell
    have HBF : Hid (Below w1.heap.size w1 w1) := Below.refl _ _
    clear HBF
    go_wp2_with fail
    refine (write_any (.slice none 0 0) [] W ⟨none, 0, rfl, by simp, by simp [maxLen], .inl rfl⟩).mono ?_
    rintro e W2 ⟨v2, rfl, ho2, hb2⟩
    rw [show mbF [] = 0 from by decide]
    rw [show wrB [] = [] from by decide] at ho2
    obtain ⟨a2, c2, hv2, _⟩ := ho2.form
    subst hv2
    have HB2 : Hid (Below W.heap.size W W2) := hb2
    have HFr : Hid (Calls Try.prog 21 #[.slice a2 ([] : List UInt8).length c2] W2 _) := frame_any _ [] (by simp) W2 ho2.reads
    have hlo : w1.heap.size < W.heap.size := HO.out.lt
    clear ho2 hb2 hc1 hc2
    go_wp2_with fail
    refine HFr.out.mono ?_
    clear HFr
    rintro e W3 ⟨v3, rfl, ho3, hb3⟩
    have HB3 : Hid (Below W.heap.size W W3) := HB2.out.trans (hb3.mono HB2.out.size)
    obtain ⟨F0, HF0⟩ := hid_ex (frm [])
    have HL0 : Hid (F0.length = 8) := by unfold Hid; rw [HF0.out, frm_len]; rfl
    rw [← HF0.out] at ho3
    have HR3 : Hid (Reads W3 v3 F0) := ho3.reads
    obtain ⟨a3, c3, hv3, _⟩ := ho3.form
    subst hv3
    have HO3 : Hid (Boxed W3 w1.heap.size 25 (.slice none 0 0)) := (HB3.out.block _ hlo).trans HO.out
    have hc3 := HO3.out.cell
    clear ho3 hb3
    go_wp2_with (at_builtin; refine wpList_app rfl _ _ rfl W.heap.size _ _ [] F0 F0 (by simp) rfl rfl (Own.nil _ _) HR3.out (by rw [HL0.out]; decide) HB3.out.size ?_; intro v4 W4 ho4 hb4; have HO4 : Hid (Own W4 W.heap.size v4 F0) := ho4; have HB4 : Hid (Below W.heap.size W W4) := HB3.out.trans hb4.out; have HX4 : Hid (Boxed W4 w1.heap.size 25 (.slice none 0 0)) := (hb4.out.block _ hlo).trans HO3.out; have hc4 := HX4.out.cell; have hf4 := HX4.out.frozen; obtain ⟨a4, c4, hv4, _⟩ := ho4.form; subst hv4; clear ho4 hb4)
    obtain ⟨W5, HW5⟩ := hid_ex (W4.setCell ⟨w1.heap.size, 0, none⟩ (.slice a4 F0.length c4)).drew
    have HX5 : Hid (Boxed W5 w1.heap.size 25 (.slice a4 F0.length c4)) := by unfold Hid; rw [HW5.out]; exact HX4.out.set _
    have HO5 : Hid (Own W5 W.heap.size (.slice a4 F0.length c4) F0) := by unfold Hid; rw [HW5.out]; exact (own_set_C _ HO4.out HX4.out (by decide)).below (Below.refl _ _).drew
    have hz5 : W.heap.size ≤ W5.heap.size := by rw [HW5.out]; have := HB4.out.size; simpa [World.setCell, World.drew] using this
    have HB5 : Hid (Below w.heap.size w W5) := by unfold Hid; rw [HW5.out]; exact ((HB.out.trans (HB4.out.mono HB.out.size)).setCell (p := ⟨w1.heap.size, 0, none⟩) HB1.out.size _).drew
    have HK5 : Hid (W5.heap[D]? = some (.deferred (some []))) := by
      unfold Hid; rw [HW5.out]
      show (W4.setCell ⟨w1.heap.size, 0, none⟩ (.slice a4 F0.length c4)).heap[D]? = _
      rw [Go.heap_setCell_other _ _ _ _ (by omega : D ≠ w1.heap.size)]
      exact (HB4.out.block _ hDz).trans HK.out
    have HDz5 : Hid (D < W5.heap.size) := by unfold Hid; omega
    clear HO4 HX4 HB4 HO3 HR3 HB3 HB2 hc3 hf4 hc4
    refine wp_region_noPanic ?_
    refine wp_region_S 5 (fun _ => True) (fun w' => w'.cell? ⟨w1.heap.size, 0, none⟩ = some (.slice a4 F0.length c4)) (by kernel_rfl) ?_ ?_ (fun hHeld => ?_)
    · trivial
    · (rw [← HW5.out]; exact HX5.out.cell)
    rw [← HW5.out] at hHeld ⊢
    clear HW5
    refine wpAnyS_take (i := 1) (v := .slice none 0 0) _ rfl (by kernel_rfl) (by kernel_rfl) (by kernel_rfl) (by kernel_rfl) (by kernel_rfl) rfl (fun _ _ _ h => h) (Or.inl ⟨by rfl, ?_⟩) hHeld (fun hHeld => ?_)
    · (intro w1 hSw; have hSw := hSw.1; (try dsimp only at hSw); go_simp)
    simp only [za, zb, zc, Act.put, zd, ze, zf]
    refine wpAnyS_take (i := 0) (v := .slice a4 F0.length c4) true rfl (by kernel_rfl) (by kernel_rfl) (by kernel_rfl) (by kernel_rfl) (by kernel_rfl) (by kernel_rfl) (fun _ _ _ h => h) (Or.inl ⟨by rfl, ?_⟩) hHeld (fun hHeld => ?_)
    · (intro w1 hSw; have hSw2 := hSw.2 rfl; have hSw := hSw.1; (try dsimp only at hSw hSw2); go_simp)
    simp only [za, zc, Act.put, zd, ze, zf]
    refine wpAnyS_ready (i := 2) (by kernel_rfl) rfl (fun K hK => ?_)
    go_simp
    refine (remembered_nil _).mono ?_
    rintro e W6 ⟨v6, rfl, ho6, hb6⟩
    have HX6 : Hid (Boxed W6 w1.heap.size 25 (.slice a4 F0.length c4)) := (hb6.block _ HX5.out.lt).trans HX5.out
    have HO6 : Hid (Own W6 W.heap.size (.slice a4 F0.length c4) F0) := HO5.out.below hb6
    have HB6 : Hid (Below w.heap.size w W6) := HB5.out.trans (hb6.mono HB5.out.size)
    have HK6 : Hid (W6.heap[D]? = some (.deferred (some []))) := (hb6.block _ HDz5.out).trans HK5.out
    have hz6 : W5.heap.size ≤ W6.heap.size := hb6.size
    have HFm : Hid (Calls Try.prog 18 #[v6] W6 _) := framed_reads v6 [6, 0] (by simp) W6 ho6.reads
    obtain ⟨a6, c6, hv6, _⟩ := ho6.form
    subst hv6
    clear ho6 hb6
    go_simp
    refine hK.out _ _ ⟨?_, fun _ => ?_⟩ (fun hHeld => ?_)
    · trivial
    · exact HX6.out.cell
    clear hK K
    refine wpAnyS_ready (i := 3) (by kernel_rfl) rfl (fun K hK => ?_)
    go_simp
    refine HFm.out.mono ?_
    clear HFm
    rintro e W7 ⟨v7, rfl, ho7, hb7⟩
    have HX7 : Hid (Boxed W7 w1.heap.size 25 (.slice a4 F0.length c4)) := (hb7.block _ HX6.out.lt).trans HX6.out
    have HO7 : Hid (Own W7 W.heap.size (.slice a4 F0.length c4) F0) := HO6.out.below hb7
    have HB7 : Hid (Below w.heap.size w W7) := HB6.out.trans (hb7.mono HB6.out.size)
    have HK7 : Hid (W7.heap[D]? = some (.deferred (some []))) := (hb7.block _ (by have := HDz5.out; omega)).trans HK6.out
    have hz7 : W6.heap.size ≤ W7.heap.size := hb7.size
    obtain ⟨F1, HF1⟩ := hid_ex (frm [6, 0])
    have HL1 : Hid (F1.length = 10) := by unfold Hid; rw [HF1.out, frm_len]; rfl
    rw [← HF1.out] at ho7
    have HR7 : Hid (Reads W7 v7 F1) := ho7.reads
    obtain ⟨a7, c7, hv7, _⟩ := ho7.form
    subst hv7
    clear ho7 hb7
    go_simp
    refine hK.out _ _ ⟨?_, fun _ => ?_⟩ (fun hHeld => ?_)
    · trivial
    · exact HX7.out.cell
    clear hK K
    refine wpAnyS_ready (i := 4) (by kernel_rfl) rfl (fun K hK => ?_)
    obtain ⟨FA, HFA⟩ := hid_ex (F0 ++ F1)
    refine wp_app (.tmp 62) (.tmp 65) rfl W.heap.size _ _ F0 F1 FA HFA.out (by simp [Act.eval]) (by simp [Act.eval]) HO7.out HR7.out (by rw [HL0.out, HL1.out]; decide) (by omega) (fun v8 W8 ho8 hb8 => ?_)
    simp only [za, zb, zc, Act.put, zd, ze, zf]
    have HX8 : Hid (Boxed W8 w1.heap.size 25 (.slice a4 F0.length c4)) := (hb8.out.block _ hlo).trans HX7.out
    have HO8 : Hid (Own W8 W.heap.size v8 FA) := ho8
    have HB8 : Hid (Below w.heap.size w W8) := HB7.out.trans (hb8.out.mono HB.out.size)
    have HK8 : Hid (W8.heap[D]? = some (.deferred (some []))) := (hb8.out.block _ hDz).trans HK7.out
    have hz8 : W7.heap.size ≤ W8.heap.size := hb8.out.size
    obtain ⟨a8, c8, hv8, _⟩ := ho8.form
    subst hv8
    have hc8 := HX8.out.cell
    have hf8 := HX8.out.frozen
    clear ho8 hb8
    refine hK.out _ _ ⟨?_, fun _ => ?_⟩ (fun hHeld => ?_)
    · trivial
    · exact HX8.out.cell
    clear hK K
    refine wpAnyS_ready (i := 5) (by kernel_rfl) rfl (fun K hK => ?_)
    go_simp
    refine hK.out _ _ ⟨?_, fun hno => absurd hno (by decide)⟩ (fun hHeld => ?_)
    · trivial
    clear hK K
    refine wpAnyS_done (by kernel_rfl) ?_ _
    refine NoPanic.normal ?_
    obtain ⟨W9, HW9⟩ := hid_ex (W8.setCell ⟨w1.heap.size, 0, none⟩ (.slice a8 FA.length c8)).drew
    have HX9 : Hid (Boxed W9 w1.heap.size 25 (.slice a8 FA.length c8)) := by unfold Hid; rw [HW9.out]; exact HX8.out.set _
    have HO9 : Hid (Own W9 W.heap.size (.slice a8 FA.length c8) FA) := by unfold Hid; rw [HW9.out]; exact (own_set_C _ HO8.out HX8.out (by decide)).below (Below.refl _ _).drew
    have hz9 : W8.heap.size ≤ W9.heap.size := by rw [HW9.out]; simp [World.setCell, World.drew]
    have HB9 : Hid (Below w.heap.size w W9) := by unfold Hid; rw [HW9.out]; exact (HB8.out.setCell (p := ⟨w1.heap.size, 0, none⟩) HB1.out.size _).drew
    have HK9 : Hid (W9.heap[D]? = some (.deferred (some []))) := by
      unfold Hid; rw [HW9.out]
      show (W8.setCell ⟨w1.heap.size, 0, none⟩ (.slice a8 FA.length c8)).heap[D]? = _
      rw [Go.heap_setCell_other _ _ _ _ (by omega : D ≠ w1.heap.size)]
      exact HK8.out
    have HLL : Hid (FA.length = 18) := by unfold Hid; rw [HFA.out, List.length_append, HL0.out, HL1.out]
    clear hc8 hf8 HX8 HO8 HB8 HK8 HR7 HO7 HX7 HK7 HB7 HO6 HX6 HK6 HB6 HO5 HX5 HK5 HB5
    go_wp2_with fail
    refine wp_region_noPanic ?_
    refine wp_region_held_drew (S := fun w' => w'.cell? ⟨w1.heap.size, 0, none⟩ = some (.slice a8 FA.length c8)) (by kernel_rfl) ?_ (fun hHeld => ?_)
    · (rw [← HW9.out]; exact HX9.out.cell)
    rw [← HW9.out]
    clear HW9
    have hc9 := HX9.out.cell
    refine tk (i := 0) (v := .slice a8 FA.length c8) rfl ?_ ?_
    · intro w1 hSw; go_simp
    simp only [za, zc, Act.put, zd, ze, zf]
    refine tk (i := 1) (v := .slice none 0 0) rfl ?_ ?_
    · intro w1 hSw; go_simp
    simp only [za, zb, zc, Act.put, zd, ze, zf]
    refine tk (i := 2) (v := .int .i64 0) rfl ?_ ?_
    · intro w1 hSw; go_simp
    simp only [za, zb, zc, Act.put, zd, ze, zf]
    refine tk (i := 3) (v := .int .u64 0) rfl ?_ ?_
    · (intro w1 hSw; (try dsimp only at hSw); go_simp; rfl)
    simp only [za, zb, zc, Act.put, zd, ze, zf]
    refine tk (i := 4) (v := .int .i64 0) rfl ?_ ?_
    · intro w1 hSw; go_simp
    simp only [za, zb, zc, Act.put, zd, ze, zf]
    refine tk (i := 5) (v := .int .u64 0) rfl ?_ ?_
    · (intro w1 hSw; (try dsimp only at hSw); go_simp; rfl)
    simp only [za, zb, zc, Act.put, zd, ze, zf]
    refine wpAnyH_ready (rs := [6]) (by kernel_rfl) (by simp) ?_
    refine AllReadyH.cons (o := _) rfl (fun K hK => ?_) AllReadyH.nil
    go_simp
    obtain ⟨Wa, HWa⟩ := hid_ex (W9.alloc (.cells #[.int .u64 0, .int .u64 0] 37))
    have hba : Below W9.heap.size W9 Wa := by rw [HWa.out]; exact (Below.refl _ _).alloc (Nat.le_refl _) _
    have hxa : Wa.heap[W9.heap.size]? = some (.cells #[.int .u64 0, .int .u64 0] 37) := by rw [HWa.out]; exact heap_alloc_new _ _
    have HXa : Hid (Boxed Wa w1.heap.size 25 (.slice a8 FA.length c8)) := (hba.block _ HX9.out.lt).trans HX9.out
    have HOa : Hid (Own Wa W.heap.size (.slice a8 FA.length c8) FA) := HO9.out.below hba
    have HBa : Hid (Below w.heap.size w Wa) := HB9.out.trans (hba.mono HB9.out.size)
    have HKa : Hid (Wa.heap[D]? = some (.deferred (some []))) := (hba.block _ (Array.getElem?_eq_some_iff.1 HK9.out).1).trans HK9.out
    have hza : W9.heap.size ≤ Wa.heap.size := hba.size
    have HWr : Hid (Calls Try.prog 17 #[.slice (some ⟨W9.heap.size, 0, none⟩) 2 2] Wa _) := wordWrite_any W9.heap.size 2 [0, 0] rfl (by decide) (by decide) Wa (Array.getElem?_eq_some_iff.1 hxa).1 (fun i hi => by
      match i, hi with
      | 0, _ => simp [World.cell?, hxa]
      | 1, _ => simp [World.cell?, hxa]) mk16
    rw [← HWa.out]
    clear HWa hba hxa
    refine hK.out _ _ ?_ (fun hHeld => ?_)
    · exact HXa.out.cell
    clear hK K
    refine wpAnyH_ready (rs := [7]) (by kernel_rfl) (by simp) ?_
    refine AllReadyH.cons (o := _) rfl (fun K hK => ?_) AllReadyH.nil
    go_simp
    refine HWr.out.mono ?_
    clear HWr
    rintro e Wb ⟨vb, rfl, hob0, hbb⟩
    have hob : Own Wb Wa.heap.size vb [0, 0, 0, 0, 0, 0, 0, 0, 0, 0, 0, 0, 0, 0, 0, 0] := by
      have e : (bytesTo [0, 0] (8 * 2)).map (Value.int .u8) = ([0, 0, 0, 0, 0, 0, 0, 0, 0, 0, 0, 0, 0, 0, 0, 0] : List UInt8).map bc := by kernel_rfl
      rw [e] at hob0
      exact hob0
    have HXb : Hid (Boxed Wb w1.heap.size 25 (.slice a8 FA.length c8)) := (hbb.block _ HXa.out.lt).trans HXa.out
    have HOb : Hid (Own Wb W.heap.size (.slice a8 FA.length c8) FA) := HOa.out.below hbb
    have HBb : Hid (Below w.heap.size w Wb) := HBa.out.trans (hbb.mono HBa.out.size)
    have HKb : Hid (Wb.heap[D]? = some (.deferred (some []))) := (hbb.block _ (Array.getElem?_eq_some_iff.1 HKa.out).1).trans HKa.out
    have hzb : Wa.heap.size ≤ Wb.heap.size := hbb.size
    have HFm : Hid (Calls Try.prog 18 #[vb] Wb _) := framed_reads vb _ (by simp) Wb hob.reads
    obtain ⟨ab, cb, hvb, _⟩ := hob.form
    subst hvb
    clear hob hob0 hbb
    go_simp
    refine hK.out _ _ ?_ (fun hHeld => ?_)
    · exact HXb.out.cell
    clear hK K
    refine wpAnyH_ready (rs := [8]) (by kernel_rfl) (by simp) ?_
    refine AllReadyH.cons (o := _) rfl (fun K hK => ?_) AllReadyH.nil
    go_simp
    refine HFm.out.mono ?_
    clear HFm
    rintro e Wc ⟨vc, rfl, hoc, hbc⟩
    have HXc : Hid (Boxed Wc w1.heap.size 25 (.slice a8 FA.length c8)) := (hbc.block _ HXb.out.lt).trans HXb.out
    have HOc : Hid (Own Wc W.heap.size (.slice a8 FA.length c8) FA) := HOb.out.below hbc
    have HBc : Hid (Below w.heap.size w Wc) := HBb.out.trans (hbc.mono HBb.out.size)
    have HKc : Hid (Wc.heap[D]? = some (.deferred (some []))) := (hbc.block _ (Array.getElem?_eq_some_iff.1 HKb.out).1).trans HKb.out
    have hzc : Wb.heap.size ≤ Wc.heap.size := hbc.size
    obtain ⟨F2, HF2⟩ := hid_ex (frm [0, 0, 0, 0, 0, 0, 0, 0, 0, 0, 0, 0, 0, 0, 0, 0])
    have HL2 : Hid (F2.length = 24) := by unfold Hid; rw [HF2.out, frm_len]; rfl
    rw [← HF2.out] at hoc
    have HRc : Hid (Reads Wc vc F2) := hoc.reads
    obtain ⟨ac, cc, hvc, _⟩ := hoc.form
    subst hvc
    clear hoc hbc
    go_simp
    refine hK.out _ _ ?_ (fun hHeld => ?_)
    · exact HXc.out.cell
    clear hK K
    refine wpAnyH_ready (rs := [9]) (by kernel_rfl) (by simp) ?_
    refine AllReadyH.cons (o := _) rfl (fun K hK => ?_) AllReadyH.nil
    obtain ⟨FB, HFB⟩ := hid_ex (FA ++ F2)
    refine wp_app (.tmp 67) (.tmp 75) rfl W.heap.size _ _ FA F2 FB HFB.out (by simp [Act.eval]) (by simp [Act.eval]) HOc.out HRc.out (by rw [HLL.out, HL2.out]; decide) (by omega) (fun vd Wd hod hbd => ?_)
    simp only [za, zb, zc, Act.put, zd, ze, zf]
    have HXd : Hid (Boxed Wd w1.heap.size 25 (.slice a8 FA.length c8)) := (hbd.out.block _ hlo).trans HXc.out
    have HOd : Hid (Own Wd W.heap.size vd FB) := hod
    have HBd : Hid (Below w.heap.size w Wd) := HBc.out.trans (hbd.out.mono HB.out.size)
    have HKd : Hid (Wd.heap[D]? = some (.deferred (some []))) := (hbd.out.block _ hDz).trans HKc.out
    obtain ⟨ad, cd, hvd, _⟩ := hod.form
    subst hvd
    clear hod hbd
    refine hK.out _ _ ?_ (fun hHeld => ?_)
    · exact HXd.out.cell
    clear hK K
    refine tk (i := 10) (v := .slice ad FB.length cd) rfl ?_ ?_
    · intro w1 hSw; go_simp
    simp only [za, zb, zc, Act.put, zd, ze, zf]
    refine tk (i := 11) (v := .int .i64 0) rfl ?_ ?_
    · intro w1 hSw; go_simp
    simp only [za, zb, zc, Act.put, zd, ze, zf]
    refine wpAnyH_done (by kernel_rfl) ?_ _
    refine NoPanic.normal ?_
    go_wp2_with fail
    have hK2 : Wd.heap[D]? = some (.deferred (some [])) := HKd.out
    refine ⟨by simp, .inl ⟨_, _, rfl, run_takeDeferred hK2, ?_⟩⟩
    have hpk := Kc.put (n := w.heap.size) (.deferred none) hK2 rfl (by have := HB1.out.size; omega)
    refine ⟨_, results_tmp2 rfl _ _ _, _, rfl, ?_, HBd.out.trans hpk.b⟩
    have e : frm [] ++ frm [6, 0] ++ frm [0, 0, 0, 0, 0, 0, 0, 0, 0, 0, 0, 0, 0, 0, 0, 0] = FB := by rw [HFB.out, HFA.out, HF0.out, HF1.out, HF2.out]
    rw [e]
    exact (HOd.out.kcC hpk).mono (show w.heap.size ≤ W.heap.size by have := HB.out.size; omega)
end Go.Proofs.Ytlpjdfgknmfmnaa
