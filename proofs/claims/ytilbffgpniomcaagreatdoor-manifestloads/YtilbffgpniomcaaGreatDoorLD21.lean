/- MA5x, joined. -/
import Derived.Test.YtilbffgpniomcaaGreatDoorLD20
/- law13: runs and As, with their capacity. -/
namespace Go.Proofs.YtilbffgpniomcaaGreatDoor
open Go.RowKit Go.Shelf

set_option maxRecDepth 100000 in
set_option maxHeartbeats 4000000 in
theorem runs13u_any (v : Value) (L : List Ru) (w : World) (h : RuR w v L) (hl : L.length ≤ 100000) :
    Calls Tryz.prog 43 #[v] w fun e w' => ∃ v', e = .returned v' ∧ UR w' v' L ∧ AboveV w.heap.size v' ∧ Below w.heap.size w w' := by
  obtain ⟨a, cap, rfl, hm⟩ := h.form
  have HR : Hid (RuR w (.slice a L.length cap) L) := h
  clear h
  go_enter Tryz.func43, Tryz.ntmps43
  go_wp2_with fail
  go_loopw [3, 4] (fun o i wr => ∃ j : Nat, i = .int .i64 (j : Int) ∧ j ≤ L.length ∧ w.heap.size ≤ wr.heap.size ∧ Hid (UG 101 w.heap.size w wr o (L.take j))) (fun _ i _ => L.length - (intOf i).toNat)
  case atStart => exact ⟨0, rfl, by omega, Nat.le_refl _, ⟨⟨rfl, .inl ⟨rfl, rfl⟩⟩, fun k e => by simp [Value.ownBlock] at e, Below.refl _ _⟩⟩
  case round =>
    obtain ⟨j, rfl, hj, hsz, HU⟩ := hrel
    by_cases hlt : j < L.length
    · have hlt' : (j : Int) < (L.length : Int) := by omega
      obtain ⟨r, Hr⟩ := hid_ex L[j]
      have hlj : (L.take j).length = j := by rw [List.length_take]; omega
      obtain ⟨oa, oc, hov, -⟩ := GOwn.form HU.out.o
      rw [hlj] at hov
      subst hov
      have HUd : Hid (UG 101 w.heap.size w wr.drew (.slice oa j oc) (L.take j)) := HU.out.below (Below.refl _ _).drew hsz
      have HRd := HR.out.below HUd.out.b
      obtain ⟨b, off, rfl, hbw, c0, c1, c2⟩ := HRd.at hlt Hr.out
      have hbw0 : b < w.heap.size := by
        obtain ⟨b', off', e, hb', _⟩ := HR.out.at hlt Hr.out
        simp only [Option.some.injEq, Addr.mk.injEq] at e
        omega
      obtain ⟨v3, w3, hrun, hu3, hs3⟩ := HUd.out.app hsz r (by rw [hlj]; omega)
      have HU3 : Hid (UG 101 w.heap.size w w3 v3 (L.take (j + 1))) := by
        unfold Hid
        rw [snocU hlt Hr.out]
        exact hu3
      have HBa : Hid (Below wr.drew.heap.size wr.drew (wr.drew.alloc (.cells #[.int .i64 r.f, .int .i64 r.l, .int .i64 r.c] 101))) := (Below.refl _ _).alloc (Nat.le_refl _) _
      have k0 := (HR.out.below HU3.out.b)
      obtain ⟨b9, off9, e9, _, e0, e1, e2⟩ := k0.at hlt Hr.out
      simp only [Option.some.injEq, Addr.mk.injEq, and_true] at e9
      obtain ⟨rfl, rfl⟩ := e9
      have HE : Hid (w3.cell? ⟨b, off + j * 3, none⟩ = some (.int .i64 r.f) ∧ w3.cell? ⟨b, off + j * 3 + 1, none⟩ = some (.int .i64 r.l) ∧ w3.cell? ⟨b, off + j * 3 + 2, none⟩ = some (.int .i64 r.c)) := ⟨e0, e1, e2⟩
      have HC : Hid (wr.drew.cell? ⟨b, off + j * 3, none⟩ = some (.int .i64 r.f) ∧ wr.drew.cell? ⟨b, off + j * 3 + 1, none⟩ = some (.int .i64 r.l) ∧ wr.drew.cell? ⟨b, off + j * 3 + 2, none⟩ = some (.int .i64 r.c)) := ⟨c0, c1, c2⟩
      have hbd : b < wr.drew.heap.size := hbw
      clear hu3 HU HUd HRd k0 e0 e1 e2 c0 c1 c2 hbw hlj
      go_wp2_with fail
      refine wp_region_noPanic ?_
      refine wp_region_held_drew (S := fun w' => w'.cell? ⟨b, off + j * 3, none⟩ = some (.int .i64 r.f) ∧ w'.cell? ⟨b, off + j * 3 + 1, none⟩ = some (.int .i64 r.l) ∧ w'.cell? ⟨b, off + j * 3 + 2, none⟩ = some (.int .i64 r.c)) (by kernel_rfl) ?_ (fun hHeld => ?_)
      · exact HC.out
      refine wpAnyH_take (i := 0) (v := .slice oa j oc) rfl (by kernel_rfl) (by kernel_rfl) (by kernel_rfl) (fun _ _ _ h => h) (Or.inl ⟨by rfl, ?_⟩) (by assumption) ?_
      · (intro w1 hSw; (try dsimp only at hSw); go_simp)
      simp only [List.getElem_toArray, List.getElem_cons_zero, Act.put, List.setIfInBounds_toArray, List.set_cons_zero, List.set_cons_succ]
      refine wpAnyH_take (i := 1) (v := .slice (some ⟨b, off, none⟩) L.length cap) rfl (by kernel_rfl) (by kernel_rfl) (by kernel_rfl) (fun _ _ _ h => h) (Or.inl ⟨by rfl, ?_⟩) (by assumption) ?_
      · (intro w1 hSw; (try dsimp only at hSw); go_simp)
      simp only [List.getElem_toArray, List.getElem_cons_succ, List.getElem_cons_zero, Act.put, List.setIfInBounds_toArray, List.set_cons_zero, List.set_cons_succ]
      refine wpAnyH_take (i := 2) (v := .int .i64 (j : Int)) rfl (by kernel_rfl) (by kernel_rfl) (by kernel_rfl) (fun _ _ _ h => h) (Or.inl ⟨by rfl, ?_⟩) (by assumption) ?_
      · (intro w1 hSw; (try dsimp only at hSw); go_simp)
      simp only [List.getElem_toArray, List.getElem_cons_succ, List.getElem_cons_zero, Act.put, List.setIfInBounds_toArray, List.set_cons_zero, List.set_cons_succ]
      refine wpAnyH_take (i := 3) (v := .pointer (some ⟨b, off + j * 3, none⟩)) rfl (by kernel_rfl) (by kernel_rfl) (by kernel_rfl) (fun _ _ _ h => h) (Or.inl ⟨by rfl, ?_⟩) (by assumption) ?_
      · (intro w1 hSw; (try dsimp only at hSw); go_simp)
      simp only [List.getElem_toArray, List.getElem_cons_succ, List.getElem_cons_zero, Act.put, List.setIfInBounds_toArray, List.set_cons_zero, List.set_cons_succ]
      refine wpAnyH_take (i := 4) (v := .pointer (some ⟨b, off + j * 3, none⟩)) rfl (by kernel_rfl) (by kernel_rfl) (by kernel_rfl) (fun _ _ _ h => h) (Or.inl ⟨by rfl, ?_⟩) (by assumption) ?_
      · (intro w1 hSw; (try dsimp only at hSw); go_simp)
      simp only [List.getElem_toArray, List.getElem_cons_succ, List.getElem_cons_zero, Act.put, List.setIfInBounds_toArray, List.set_cons_zero, List.set_cons_succ]
      refine wpAnyH_take (i := 5) (v := .int .i64 r.f) rfl (by kernel_rfl) (by kernel_rfl) (by kernel_rfl) (fun _ _ _ h => h) (Or.inl ⟨by rfl, ?_⟩) (by assumption) ?_
      · (intro w1 hSw; (try dsimp only at hSw); go_simp)
      simp only [List.getElem_toArray, List.getElem_cons_succ, List.getElem_cons_zero, Act.put, List.setIfInBounds_toArray, List.set_cons_zero, List.set_cons_succ]
      refine wpAnyH_take (i := 6) (v := .slice (some ⟨b, off, none⟩) L.length cap) rfl (by kernel_rfl) (by kernel_rfl) (by kernel_rfl) (fun _ _ _ h => h) (Or.inl ⟨by rfl, ?_⟩) (by assumption) ?_
      · (intro w1 hSw; (try dsimp only at hSw); go_simp)
      simp only [List.getElem_toArray, List.getElem_cons_succ, List.getElem_cons_zero, Act.put, List.setIfInBounds_toArray, List.set_cons_zero, List.set_cons_succ]
      refine wpAnyH_take (i := 7) (v := .int .i64 (j : Int)) rfl (by kernel_rfl) (by kernel_rfl) (by kernel_rfl) (fun _ _ _ h => h) (Or.inl ⟨by rfl, ?_⟩) (by assumption) ?_
      · (intro w1 hSw; (try dsimp only at hSw); go_simp)
      simp only [List.getElem_toArray, List.getElem_cons_succ, List.getElem_cons_zero, Act.put, List.setIfInBounds_toArray, List.set_cons_zero, List.set_cons_succ]
      refine wpAnyH_take (i := 8) (v := .pointer (some ⟨b, off + j * 3, none⟩)) rfl (by kernel_rfl) (by kernel_rfl) (by kernel_rfl) (fun _ _ _ h => h) (Or.inl ⟨by rfl, ?_⟩) (by assumption) ?_
      · (intro w1 hSw; (try dsimp only at hSw); go_simp)
      simp only [List.getElem_toArray, List.getElem_cons_succ, List.getElem_cons_zero, Act.put, List.setIfInBounds_toArray, List.set_cons_zero, List.set_cons_succ]
      refine wpAnyH_take (i := 9) (v := .pointer (some ⟨b, off + j * 3 + 1, none⟩)) rfl (by kernel_rfl) (by kernel_rfl) (by kernel_rfl) (fun _ _ _ h => h) (Or.inl ⟨by rfl, ?_⟩) (by assumption) ?_
      · (intro w1 hSw; (try dsimp only at hSw); go_simp)
      simp only [List.getElem_toArray, List.getElem_cons_succ, List.getElem_cons_zero, Act.put, List.setIfInBounds_toArray, List.set_cons_zero, List.set_cons_succ]
      refine wpAnyH_take (i := 10) (v := .int .i64 r.l) rfl (by kernel_rfl) (by kernel_rfl) (by kernel_rfl) (fun _ _ _ h => h) (Or.inl ⟨by rfl, ?_⟩) (by assumption) ?_
      · (intro w1 hSw; (try dsimp only at hSw); go_simp)
      simp only [List.getElem_toArray, List.getElem_cons_succ, List.getElem_cons_zero, Act.put, List.setIfInBounds_toArray, List.set_cons_zero, List.set_cons_succ]
      refine wpAnyH_take (i := 11) (v := .slice (some ⟨b, off, none⟩) L.length cap) rfl (by kernel_rfl) (by kernel_rfl) (by kernel_rfl) (fun _ _ _ h => h) (Or.inl ⟨by rfl, ?_⟩) (by assumption) ?_
      · (intro w1 hSw; (try dsimp only at hSw); go_simp)
      simp only [List.getElem_toArray, List.getElem_cons_succ, List.getElem_cons_zero, Act.put, List.setIfInBounds_toArray, List.set_cons_zero, List.set_cons_succ]
      refine wpAnyH_take (i := 12) (v := .int .i64 (j : Int)) rfl (by kernel_rfl) (by kernel_rfl) (by kernel_rfl) (fun _ _ _ h => h) (Or.inl ⟨by rfl, ?_⟩) (by assumption) ?_
      · (intro w1 hSw; (try dsimp only at hSw); go_simp)
      simp only [List.getElem_toArray, List.getElem_cons_succ, List.getElem_cons_zero, Act.put, List.setIfInBounds_toArray, List.set_cons_zero, List.set_cons_succ]
      refine wpAnyH_take (i := 13) (v := .pointer (some ⟨b, off + j * 3, none⟩)) rfl (by kernel_rfl) (by kernel_rfl) (by kernel_rfl) (fun _ _ _ h => h) (Or.inl ⟨by rfl, ?_⟩) (by assumption) ?_
      · (intro w1 hSw; (try dsimp only at hSw); go_simp)
      simp only [List.getElem_toArray, List.getElem_cons_succ, List.getElem_cons_zero, Act.put, List.setIfInBounds_toArray, List.set_cons_zero, List.set_cons_succ]
      refine wpAnyH_take (i := 14) (v := .pointer (some ⟨b, off + j * 3 + 2, none⟩)) rfl (by kernel_rfl) (by kernel_rfl) (by kernel_rfl) (fun _ _ _ h => h) (Or.inl ⟨by rfl, ?_⟩) (by assumption) ?_
      · (intro w1 hSw; (try dsimp only at hSw); go_simp)
      simp only [List.getElem_toArray, List.getElem_cons_succ, List.getElem_cons_zero, Act.put, List.setIfInBounds_toArray, List.set_cons_zero, List.set_cons_succ]
      refine wpAnyH_take (i := 15) (v := .int .i64 r.c) rfl (by kernel_rfl) (by kernel_rfl) (by kernel_rfl) (fun _ _ _ h => h) (Or.inl ⟨by rfl, ?_⟩) (by assumption) ?_
      · (intro w1 hSw; (try dsimp only at hSw); go_simp)
      simp only [List.getElem_toArray, List.getElem_cons_succ, List.getElem_cons_zero, Act.put, List.setIfInBounds_toArray, List.set_cons_zero, List.set_cons_succ]
      refine wpAnyH_take (i := 16) (v := .agg #[.int .i64 r.f, .int .i64 r.l, .int .i64 r.c]) rfl (by kernel_rfl) (by kernel_rfl) (by kernel_rfl) (fun _ _ _ h => h) (Or.inl ⟨by rfl, ?_⟩) (by assumption) ?_
      · (intro w1 hSw; (try dsimp only at hSw); go_simp)
      simp only [List.getElem_toArray, List.getElem_cons_succ, List.getElem_cons_zero, Act.put, List.setIfInBounds_toArray, List.set_cons_zero, List.set_cons_succ]
      refine wpAnyH_ready (rs := [17]) (by kernel_rfl) (by simp) ?_
      refine AllReadyH.cons (o := _) rfl (fun K hK => ?_) AllReadyH.nil
      go_simp
      refine hK.out _ _ ?_ (fun hHeld => ?_)
      · exact ⟨(HBa.out.cell (p := ⟨b, _, none⟩) hbd).trans HC.out.1, (HBa.out.cell (p := ⟨b, _, none⟩) hbd).trans HC.out.2.1, (HBa.out.cell (p := ⟨b, _, none⟩) hbd).trans HC.out.2.2⟩
      clear hK K
      refine wpAnyH_ready (rs := [18]) (by kernel_rfl) (by simp) ?_
      refine AllReadyH.cons (o := _) rfl (fun K hK => ?_) AllReadyH.nil
      refine wp_app_runG (.tmp 11) (.tmp 28) 36 36 rfl rfl _ _ _ (by simp [Act.eval]) (by simp [Act.eval]) hrun ?_
      simp only [List.getElem_toArray, List.getElem_cons_succ, List.getElem_cons_zero, Act.put, List.setIfInBounds_toArray, List.set_cons_zero, List.set_cons_succ]
      refine hK.out _ _ ?_ (fun hHeld => ?_)
      · exact HE.out
      clear hK K
      refine wpAnyH_ready (rs := [19]) (by kernel_rfl) (by simp) ?_
      refine AllReadyH.cons (o := _) rfl (fun K hK => ?_) AllReadyH.nil
      go_simp
      refine hK.out _ _ ?_ (fun hHeld => ?_)
      · exact HE.out
      clear hK K
      refine wpAnyH_done (by kernel_rfl) ?_ _
      refine NoPanic.normal ?_
      go_wp2_with fail
      go_roundw
      case rel => exact ⟨j + 1, by go_num, by omega, hs3, HU3⟩
      case measure => simp [intOf]; omega
    · have hlt' : ¬ (j : Int) < (L.length : Int) := by omega
      have HE : Hid (UR wr u3 L) := by
        have := gown_ur HU.out.o
        rwa [List.take_of_length_le (by omega)] at this
      go_wp2_with fail
      go_ret
      exact ⟨_, rfl, HE.out, fun b off n c e => by subst e; obtain ⟨a, c', e1, _, _, e2, _⟩ := GOwn.form HU.out.o; simp only [Value.slice.injEq] at e1; have e3 := e2 _ e1.1.symm; simp only [Addr.mk.injEq, and_true, true_and] at e3; subst e3; exact (HU.out.k b rfl).1, HU.out.b⟩
set_option maxRecDepth 100000 in
set_option maxHeartbeats 4000000 in
theorem as13u_any (rv : Value) (s : St) (w : World) (h : RuR w rv s.ru) (hl : s.ru.length ≤ 100000) :
    Calls Tryz.prog 16 #[.agg #[rv, .int .i64 s.lo, .int .i64 s.ne, .int .i64 s.ma]] w fun e w' => ∃ v', e = .returned (.agg #[v', .int .i64 s.lo, .int .i64 s.ne, .int .i64 s.ma]) ∧ UR w' v' s.ru ∧ Below w.heap.size w w' := by
  obtain ⟨aa, ac, rfl, hm2⟩ := h.form
  have HE : Hid (RuR w (.slice aa s.ru.length ac) s.ru) := h
  clear h
  go_enter Tryz.func16, Tryz.ntmps16
  go_wp2_with fail
  obtain ⟨W, HW⟩ := hid_ex (((w.alloc (.cells #[.slice aa s.ru.length ac, .int .i64 s.lo, .int .i64 s.ne, .int .i64 s.ma] 33)).alloc (.cells #[.slice none 0 0, .int .i64 0, .int .i64 0, .int .i64 0] 38)).drew)
  have HB0 : Hid (Below w.heap.size w W) := by rw [HW.out]; exact (((Below.refl _ _).alloc (Nat.le_refl _) _).alloc (by simp) _).drew
  have hsz : w.heap.size + 1 < W.heap.size := by rw [HW.out]; simp [World.drew]
  have HX : Hid (W.heap[w.heap.size]? = some (.cells #[.slice aa s.ru.length ac, .int .i64 s.lo, .int .i64 s.ne, .int .i64 s.ma] 33)) := by
    unfold Hid; rw [HW.out]; exact (Below.heap_alloc _ _ _ (by simp)).trans (heap_alloc_new _ _)
  have HZ : Hid (W.heap[w.heap.size + 1]? = some (.cells #[.slice none 0 0, .int .i64 0, .int .i64 0, .int .i64 0] 38)) := by
    unfold Hid; rw [HW.out]; have := heap_alloc_new (w.alloc (.cells #[.slice aa s.ru.length ac, .int .i64 s.lo, .int .i64 s.ne, .int .i64 s.ma] 33)) (.cells #[.slice none 0 0, .int .i64 0, .int .i64 0, .int .i64 0] 38); rw [World.size_alloc] at this; exact this
  have c := four13 HX.out
  refine wp_region_noPanic ?_
  refine wp_region_held_drew (S := fun w' => w'.cell? ⟨w.heap.size, 0, none⟩ = some (.slice aa s.ru.length ac) ∧ w'.cell? ⟨w.heap.size, 1, none⟩ = some (.int .i64 s.lo) ∧ w'.cell? ⟨w.heap.size, 2, none⟩ = some (.int .i64 s.ne) ∧ w'.cell? ⟨w.heap.size, 3, none⟩ = some (.int .i64 s.ma)) (by kernel_rfl) ?_ (fun hHeld => ?_)
  · (rw [← HW.out]; exact c)
  rw [← HW.out]
  clear HW
  refine wpAnyH_take (i := 0) (v := .pointer (some ⟨w.heap.size, 0, none⟩)) rfl (by kernel_rfl) (by kernel_rfl) (by kernel_rfl) (fun _ _ _ h => h) (Or.inl ⟨by rfl, ?_⟩) (by assumption) ?_
  · (intro w1 hSw; (try dsimp only at hSw); go_simp)
  simp only [List.getElem_toArray, List.getElem_cons_zero, Act.put, List.setIfInBounds_toArray, List.set_cons_zero, List.set_cons_succ]
  refine wpAnyH_take (i := 1) (v := .slice aa s.ru.length ac) rfl (by kernel_rfl) (by kernel_rfl) (by kernel_rfl) (fun _ _ _ h => h) (Or.inl ⟨by rfl, ?_⟩) (by assumption) ?_
  · (intro w1 hSw; (try dsimp only at hSw); go_simp)
  simp only [List.getElem_toArray, List.getElem_cons_succ, List.getElem_cons_zero, Act.put, List.setIfInBounds_toArray, List.set_cons_zero, List.set_cons_succ]
  refine wpAnyH_take (i := 3) (v := .pointer (some ⟨w.heap.size, 1, none⟩)) rfl (by kernel_rfl) (by kernel_rfl) (by kernel_rfl) (fun _ _ _ h => h) (Or.inl ⟨by rfl, ?_⟩) (by assumption) ?_
  · (intro w1 hSw; (try dsimp only at hSw); go_simp)
  simp only [List.getElem_toArray, List.getElem_cons_succ, List.getElem_cons_zero, Act.put, List.setIfInBounds_toArray, List.set_cons_zero, List.set_cons_succ]
  refine wpAnyH_take (i := 4) (v := .int .i64 s.lo) rfl (by kernel_rfl) (by kernel_rfl) (by kernel_rfl) (fun _ _ _ h => h) (Or.inl ⟨by rfl, ?_⟩) (by assumption) ?_
  · (intro w1 hSw; (try dsimp only at hSw); go_simp)
  simp only [List.getElem_toArray, List.getElem_cons_succ, List.getElem_cons_zero, Act.put, List.setIfInBounds_toArray, List.set_cons_zero, List.set_cons_succ]
  refine wpAnyH_take (i := 5) (v := .pointer (some ⟨w.heap.size, 2, none⟩)) rfl (by kernel_rfl) (by kernel_rfl) (by kernel_rfl) (fun _ _ _ h => h) (Or.inl ⟨by rfl, ?_⟩) (by assumption) ?_
  · (intro w1 hSw; (try dsimp only at hSw); go_simp)
  simp only [List.getElem_toArray, List.getElem_cons_succ, List.getElem_cons_zero, Act.put, List.setIfInBounds_toArray, List.set_cons_zero, List.set_cons_succ]
  refine wpAnyH_take (i := 6) (v := .int .i64 s.ne) rfl (by kernel_rfl) (by kernel_rfl) (by kernel_rfl) (fun _ _ _ h => h) (Or.inl ⟨by rfl, ?_⟩) (by assumption) ?_
  · (intro w1 hSw; (try dsimp only at hSw); go_simp)
  simp only [List.getElem_toArray, List.getElem_cons_succ, List.getElem_cons_zero, Act.put, List.setIfInBounds_toArray, List.set_cons_zero, List.set_cons_succ]
  refine wpAnyH_take (i := 7) (v := .pointer (some ⟨w.heap.size, 3, none⟩)) rfl (by kernel_rfl) (by kernel_rfl) (by kernel_rfl) (fun _ _ _ h => h) (Or.inl ⟨by rfl, ?_⟩) (by assumption) ?_
  · (intro w1 hSw; (try dsimp only at hSw); go_simp)
  simp only [List.getElem_toArray, List.getElem_cons_succ, List.getElem_cons_zero, Act.put, List.setIfInBounds_toArray, List.set_cons_zero, List.set_cons_succ]
  refine wpAnyH_take (i := 8) (v := .int .i64 s.ma) rfl (by kernel_rfl) (by kernel_rfl) (by kernel_rfl) (fun _ _ _ h => h) (Or.inl ⟨by rfl, ?_⟩) (by assumption) ?_
  · (intro w1 hSw; (try dsimp only at hSw); go_simp)
  simp only [List.getElem_toArray, List.getElem_cons_succ, List.getElem_cons_zero, Act.put, List.setIfInBounds_toArray, List.set_cons_zero, List.set_cons_succ]
  clear c
  refine wpAnyH_ready (rs := [2]) (by kernel_rfl) (by simp) ?_
  refine AllReadyH.cons (o := _) rfl (fun K hK => ?_) AllReadyH.nil
  go_simp
  refine (runs13u_any _ s.ru W (HE.out.below HB0.out) hl).mono ?_
  rintro e W2 ⟨v2, rfl, hr2, hav2, hb2⟩
  obtain ⟨va, vc, hv2, _⟩ := hr2.r.form
  subst hv2
  have HR2 : Hid (UR W2 (.slice va s.ru.length vc) s.ru) := hr2
  have HB2 : Hid (Below W.heap.size W W2) := hb2
  have HAV : Hid (AboveV W.heap.size (.slice va s.ru.length vc)) := hav2
  have HX2 : Hid (W2.heap[w.heap.size]? = some (.cells #[.slice aa s.ru.length ac, .int .i64 s.lo, .int .i64 s.ne, .int .i64 s.ma] 33)) := (hb2.block _ (by omega)).trans HX.out
  have HZ2 : Hid (W2.heap[w.heap.size + 1]? = some (.cells #[.slice none 0 0, .int .i64 0, .int .i64 0, .int .i64 0] 38)) := (hb2.block _ (by omega)).trans HZ.out
  have HOne : Hid (([.slice va s.ru.length vc, .int .i64 s.lo, .int .i64 s.ne, .int .i64 s.ma] : List Value).toArray.all (·.oneCell') = true) := by unfold Hid; kernel_rfl
  clear hr2 hb2 hav2
  go_simp
  refine hK.out _ _ ?_ (fun hHeld => ?_)
  · exact four13 HX2.out
  clear hK K
  refine wpAnyH_take (i := 9) (v := .agg #[.slice va s.ru.length vc, .int .i64 s.lo, .int .i64 s.ne, .int .i64 s.ma]) rfl (by kernel_rfl) (by kernel_rfl) (by kernel_rfl) (fun _ _ _ h => h) (Or.inl ⟨by rfl, ?_⟩) (by assumption) ?_
  · (intro w1 hSw; (try dsimp only at hSw); go_simp)
  simp only [List.getElem_toArray, List.getElem_cons_succ, List.getElem_cons_zero, Act.put, List.setIfInBounds_toArray, List.set_cons_zero, List.set_cons_succ]
  refine wpAnyH_ready (rs := [10]) (by kernel_rfl) (by simp) ?_
  refine AllReadyH.cons (o := _) rfl (fun K hK => ?_) AllReadyH.nil
  refine wp_storeN _ _ _ rfl (w.heap.size + 1) 0 [.slice va s.ru.length vc, .int .i64 s.lo, .int .i64 s.ne, .int .i64 s.ma] rfl rfl _ _ HZ2.out (by simp) (by kernel_rfl) HOne.out (fun W9 hW9 => ?_)
  have HK9 := stW_all hW9 (by simp)
  have HB9 : Hid (Below w.heap.size W2 W9) := hW9.b _ (by omega)
  have HO9 : Hid (∀ k, k ≠ w.heap.size + 1 → W9.heap[k]? = W2.heap[k]?) := hW9.o
  clear hW9
  refine hK.out _ _ ?_ (fun hHeld => ?_)
  · exact four13 ((HO9.out _ (by omega)).trans HX2.out)
  clear hK K
  refine wpAnyH_done (by kernel_rfl) ?_ _
  refine NoPanic.normal ?_
  go_wp2_with fail
  refine bodyPost_ret (results_1c rfl _ _ (w.heap.size + 1) _ rfl (run_loadVar_row _ (w.heap.size + 1) _ _ _ (0, 0) _ HK9 Tryz.underlying38 rfl (by kernel_rfl))) rfl ?_
  exact ⟨_, rfl, ⟨HR2.out.r.keepB fun b off n c e => HO9.out b (by have := HAV.out b off n c e; omega), HR2.out.c, HR2.out.z⟩, HB0.out.trans ((HB2.out.mono HB0.out.size).trans HB9.out)⟩
theorem apS_long {s : St} {x : Ed} (h : okSt s) (hl : 64 < x.dr.length ∨ 64 < x.ad.length) : apS s x = (none, 100) := by
  cases hd : dropF s.ru x.dr with
  | none => exact apS_drop h hd
  | some l =>
    by_cases hb : x.lo < s.lo ∨ x.ne < s.ne ∨ x.ma < s.ma
    · exact apS_back h hd hb
    · rw [apS_on h hd hb, if_neg]
      intro ht
      have h1 := dropF_len hd
      have h2 := h.2.2.2.2.2.1
      have h3 := ht.2.2.2.2.2.1
      have h4 : (apT l x).ru.length = l.length + x.ad.length := by have := (putAll_perm x.ad l).length_eq; rw [List.length_append] at this; exact this
      omega
theorem apS_end {s : St} {x : Ed} (h : okSt s) {l : List Ru} (hd : dropF s.ru x.dr = some l) {c : Bool} (hc : c = decide (x.lo < s.lo ∨ x.ne < s.ne ∨ x.ma < s.ma ∨ ¬ okSt (apT l x))) : apS s x = if c = true then (none, 100) else (some (apT l x), 0) := by
  subst hc
  by_cases hb : x.lo < s.lo ∨ x.ne < s.ne ∨ x.ma < s.ma
  · rw [apS_back h hd hb, if_pos (decide_eq_true (by omega))]
  · rw [apS_on h hd hb]
    by_cases ho : okSt (apT l x)
    · rw [if_pos ho, if_neg (by simp only [decide_eq_true_eq]; intro z; rcases z with z | z | z | z <;> first | exact z ho | omega)]
    · rw [if_neg ho, if_pos (decide_eq_true (.inr (.inr (.inr ho))))]
end Go.Proofs.YtilbffgpniomcaaGreatDoor
