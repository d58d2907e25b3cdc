/- MA5x ME1x MO3x S1 ML2, joined. -/
import Derived.Test.YtilbffgpniomcaaGreatDoorOO1
import Derived.Test.YtilbffgpniomcaaGreatDoorOO5
import Derived.Test.YtilbffgpniomcaaGreatDoorOO18
import Derived.Test.YtilbffgpniomcaaGreatDoorOO20
import Derived.Test.YtilbffgpniomcaaGreatDoorOO21
import Derived.Lib.Bytealg
import Derived.Laws.Externs
import Derived.Shelf.Abstract
/- law13: runs and As, with their capacity. -/
namespace Go.Proofs.YtilbffgpniomcaaGreatDoor
open Go.RowKit Go.Shelf

set_option maxRecDepth 100000 in
set_option maxHeartbeats 4000000 in
theorem runs13u_any (v : Value) (L : List Ru) (w : World) (h : RuR w v L) (hl : L.length ≤ 100000) :
    Calls Tryz.prog 43 #[v] w fun e w' => ∃ v', e = .returned v' ∧ UR w' v' L ∧ AboveV w.heap.size v' ∧ Below w.heap.size w w' := by
  obtain ⟨a, cap, rfl, hm⟩ := h.form
  have HR : Hid (RuR w (.slice a L.length cap) L) := h
  clear h
  go_enter Tryz.func43, Tryz.ntmps43
  go_wp2_with fail
  go_loopw [3, 4] (fun o i wr => ∃ j : Nat, i = .int .i64 (j : Int) ∧ j ≤ L.length ∧ w.heap.size ≤ wr.heap.size ∧ Hid (UG 101 w.heap.size w wr o (L.take j))) (fun _ i _ => L.length - (intOf i).toNat)
  case atStart => exact ⟨0, rfl, by omega, Nat.le_refl _, ⟨⟨rfl, .inl ⟨rfl, rfl⟩⟩, fun k e => by simp [Value.ownBlock] at e, Below.refl _ _⟩⟩
  case round =>
    obtain ⟨j, rfl, hj, hsz, HU⟩ := hrel
    by_cases hlt : j < L.length
    · have hlt' : (j : Int) < (L.length : Int) := by omega
      obtain ⟨r, Hr⟩ := hid_ex L[j]
      have hlj : (L.take j).length = j := by rw [List.length_take]; omega
      obtain ⟨oa, oc, hov, -⟩ := GOwn.form HU.out.o
      rw [hlj] at hov
      subst hov
      have HUd : Hid (UG 101 w.heap.size w wr.drew (.slice oa j oc) (L.take j)) := HU.out.below (Below.refl _ _).drew hsz
      have HRd := HR.out.below HUd.out.b
      obtain ⟨b, off, rfl, hbw, c0, c1, c2⟩ := HRd.at hlt Hr.out
      have hbw0 : b < w.heap.size := by
        obtain ⟨b', off', e, hb', _⟩ := HR.out.at hlt Hr.out
        simp only [Option.some.injEq, Addr.mk.injEq] at e
        omega
      obtain ⟨v3, w3, hrun, hu3, hs3⟩ := HUd.out.app hsz r (by rw [hlj]; omega)
      have HU3 : Hid (UG 101 w.heap.size w w3 v3 (L.take (j + 1))) := by
        unfold Hid
        rw [snocU hlt Hr.out]
        exact hu3
      have HBa : Hid (Below wr.drew.heap.size wr.drew (wr.drew.alloc (.cells #[.int .i64 r.f, .int .i64 r.l, .int .i64 r.c] 101))) := (Below.refl _ _).alloc (Nat.le_refl _) _
      have k0 := (HR.out.below HU3.out.b)
      obtain ⟨b9, off9, e9, _, e0, e1, e2⟩ := k0.at hlt Hr.out
      simp only [Option.some.injEq, Addr.mk.injEq, and_true] at e9
      obtain ⟨rfl, rfl⟩ := e9
      have HE : Hid (w3.cell? ⟨b, off + j * 3, none⟩ = some (.int .i64 r.f) ∧ w3.cell? ⟨b, off + j * 3 + 1, none⟩ = some (.int .i64 r.l) ∧ w3.cell? ⟨b, off + j * 3 + 2, none⟩ = some (.int .i64 r.c)) := ⟨e0, e1, e2⟩
      have HC : Hid (wr.drew.cell? ⟨b, off + j * 3, none⟩ = some (.int .i64 r.f) ∧ wr.drew.cell? ⟨b, off + j * 3 + 1, none⟩ = some (.int .i64 r.l) ∧ wr.drew.cell? ⟨b, off + j * 3 + 2, none⟩ = some (.int .i64 r.c)) := ⟨c0, c1, c2⟩
      have hbd : b < wr.drew.heap.size := hbw
      clear hu3 HU HUd HRd k0 e0 e1 e2 c0 c1 c2 hbw hlj
      go_wp2_with fail
      refine wp_region_noPanic ?_
      refine wp_region_held_drew (S := fun w' => w'.cell? ⟨b, off + j * 3, none⟩ = some (.int .i64 r.f) ∧ w'.cell? ⟨b, off + j * 3 + 1, none⟩ = some (.int .i64 r.l) ∧ w'.cell? ⟨b, off + j * 3 + 2, none⟩ = some (.int .i64 r.c)) (by kernel_rfl) ?_ (fun hHeld => ?_)
      · exact HC.out
      refine wpAnyH_take (i := 0) (v := .slice oa j oc) rfl (by kernel_rfl) (by kernel_rfl) (by kernel_rfl) (fun _ _ _ h => h) (Or.inl ⟨by rfl, ?_⟩) (by assumption) ?_
      · (intro w1 hSw; (try dsimp only at hSw); go_simp)
      simp only [List.getElem_toArray, List.getElem_cons_zero, Act.put, List.setIfInBounds_toArray, List.set_cons_zero, List.set_cons_succ]
      refine wpAnyH_take (i := 1) (v := .slice (some ⟨b, off, none⟩) L.length cap) rfl (by kernel_rfl) (by kernel_rfl) (by kernel_rfl) (fun _ _ _ h => h) (Or.inl ⟨by rfl, ?_⟩) (by assumption) ?_
      · (intro w1 hSw; (try dsimp only at hSw); go_simp)
      simp only [List.getElem_toArray, List.getElem_cons_succ, List.getElem_cons_zero, Act.put, List.setIfInBounds_toArray, List.set_cons_zero, List.set_cons_succ]
      refine wpAnyH_take (i := 2) (v := .int .i64 (j : Int)) rfl (by kernel_rfl) (by kernel_rfl) (by kernel_rfl) (fun _ _ _ h => h) (Or.inl ⟨by rfl, ?_⟩) (by assumption) ?_
      · (intro w1 hSw; (try dsimp only at hSw); go_simp)
      simp only [List.getElem_toArray, List.getElem_cons_succ, List.getElem_cons_zero, Act.put, List.setIfInBounds_toArray, List.set_cons_zero, List.set_cons_succ]
      refine wpAnyH_take (i := 3) (v := .pointer (some ⟨b, off + j * 3, none⟩)) rfl (by kernel_rfl) (by kernel_rfl) (by kernel_rfl) (fun _ _ _ h => h) (Or.inl ⟨by rfl, ?_⟩) (by assumption) ?_
      · (intro w1 hSw; (try dsimp only at hSw); go_simp)
      simp only [List.getElem_toArray, List.getElem_cons_succ, List.getElem_cons_zero, Act.put, List.setIfInBounds_toArray, List.set_cons_zero, List.set_cons_succ]
      refine wpAnyH_take (i := 4) (v := .pointer (some ⟨b, off + j * 3, none⟩)) rfl (by kernel_rfl) (by kernel_rfl) (by kernel_rfl) (fun _ _ _ h => h) (Or.inl ⟨by rfl, ?_⟩) (by assumption) ?_
      · (intro w1 hSw; (try dsimp only at hSw); go_simp)
      simp only [List.getElem_toArray, List.getElem_cons_succ, List.getElem_cons_zero, Act.put, List.setIfInBounds_toArray, List.set_cons_zero, List.set_cons_succ]
      refine wpAnyH_take (i := 5) (v := .int .i64 r.f) rfl (by kernel_rfl) (by kernel_rfl) (by kernel_rfl) (fun _ _ _ h => h) (Or.inl ⟨by rfl, ?_⟩) (by assumption) ?_
      · (intro w1 hSw; (try dsimp only at hSw); go_simp)
      simp only [List.getElem_toArray, List.getElem_cons_succ, List.getElem_cons_zero, Act.put, List.setIfInBounds_toArray, List.set_cons_zero, List.set_cons_succ]
      refine wpAnyH_take (i := 6) (v := .slice (some ⟨b, off, none⟩) L.length cap) rfl (by kernel_rfl) (by kernel_rfl) (by kernel_rfl) (fun _ _ _ h => h) (Or.inl ⟨by rfl, ?_⟩) (by assumption) ?_
      · (intro w1 hSw; (try dsimp only at hSw); go_simp)
      simp only [List.getElem_toArray, List.getElem_cons_succ, List.getElem_cons_zero, Act.put, List.setIfInBounds_toArray, List.set_cons_zero, List.set_cons_succ]
      refine wpAnyH_take (i := 7) (v := .int .i64 (j : Int)) rfl (by kernel_rfl) (by kernel_rfl) (by kernel_rfl) (fun _ _ _ h => h) (Or.inl ⟨by rfl, ?_⟩) (by assumption) ?_
      · (intro w1 hSw; (try dsimp only at hSw); go_simp)
      simp only [List.getElem_toArray, List.getElem_cons_succ, List.getElem_cons_zero, Act.put, List.setIfInBounds_toArray, List.set_cons_zero, List.set_cons_succ]
      refine wpAnyH_take (i := 8) (v := .pointer (some ⟨b, off + j * 3, none⟩)) rfl (by kernel_rfl) (by kernel_rfl) (by kernel_rfl) (fun _ _ _ h => h) (Or.inl ⟨by rfl, ?_⟩) (by assumption) ?_
      · (intro w1 hSw; (try dsimp only at hSw); go_simp)
      simp only [List.getElem_toArray, List.getElem_cons_succ, List.getElem_cons_zero, Act.put, List.setIfInBounds_toArray, List.set_cons_zero, List.set_cons_succ]
      refine wpAnyH_take (i := 9) (v := .pointer (some ⟨b, off + j * 3 + 1, none⟩)) rfl (by kernel_rfl) (by kernel_rfl) (by kernel_rfl) (fun _ _ _ h => h) (Or.inl ⟨by rfl, ?_⟩) (by assumption) ?_
      · (intro w1 hSw; (try dsimp only at hSw); go_simp)
      simp only [List.getElem_toArray, List.getElem_cons_succ, List.getElem_cons_zero, Act.put, List.setIfInBounds_toArray, List.set_cons_zero, List.set_cons_succ]
      refine wpAnyH_take (i := 10) (v := .int .i64 r.l) rfl (by kernel_rfl) (by kernel_rfl) (by kernel_rfl) (fun _ _ _ h => h) (Or.inl ⟨by rfl, ?_⟩) (by assumption) ?_
      · (intro w1 hSw; (try dsimp only at hSw); go_simp)
      simp only [List.getElem_toArray, List.getElem_cons_succ, List.getElem_cons_zero, Act.put, List.setIfInBounds_toArray, List.set_cons_zero, List.set_cons_succ]
      refine wpAnyH_take (i := 11) (v := .slice (some ⟨b, off, none⟩) L.length cap) rfl (by kernel_rfl) (by kernel_rfl) (by kernel_rfl) (fun _ _ _ h => h) (Or.inl ⟨by rfl, ?_⟩) (by assumption) ?_
      · (intro w1 hSw; (try dsimp only at hSw); go_simp)
      simp only [List.getElem_toArray, List.getElem_cons_succ, List.getElem_cons_zero, Act.put, List.setIfInBounds_toArray, List.set_cons_zero, List.set_cons_succ]
      refine wpAnyH_take (i := 12) (v := .int .i64 (j : Int)) rfl (by kernel_rfl) (by kernel_rfl) (by kernel_rfl) (fun _ _ _ h => h) (Or.inl ⟨by rfl, ?_⟩) (by assumption) ?_
      · (intro w1 hSw; (try dsimp only at hSw); go_simp)
      simp only [List.getElem_toArray, List.getElem_cons_succ, List.getElem_cons_zero, Act.put, List.setIfInBounds_toArray, List.set_cons_zero, List.set_cons_succ]
      refine wpAnyH_take (i := 13) (v := .pointer (some ⟨b, off + j * 3, none⟩)) rfl (by kernel_rfl) (by kernel_rfl) (by kernel_rfl) (fun _ _ _ h => h) (Or.inl ⟨by rfl, ?_⟩) (by assumption) ?_
      · (intro w1 hSw; (try dsimp only at hSw); go_simp)
      simp only [List.getElem_toArray, List.getElem_cons_succ, List.getElem_cons_zero, Act.put, List.setIfInBounds_toArray, List.set_cons_zero, List.set_cons_succ]
      refine wpAnyH_take (i := 14) (v := .pointer (some ⟨b, off + j * 3 + 2, none⟩)) rfl (by kernel_rfl) (by kernel_rfl) (by kernel_rfl) (fun _ _ _ h => h) (Or.inl ⟨by rfl, ?_⟩) (by assumption) ?_
      · (intro w1 hSw; (try dsimp only at hSw); go_simp)
      simp only [List.getElem_toArray, List.getElem_cons_succ, List.getElem_cons_zero, Act.put, List.setIfInBounds_toArray, List.set_cons_zero, List.set_cons_succ]
      refine wpAnyH_take (i := 15) (v := .int .i64 r.c) rfl (by kernel_rfl) (by kernel_rfl) (by kernel_rfl) (fun _ _ _ h => h) (Or.inl ⟨by rfl, ?_⟩) (by assumption) ?_
      · (intro w1 hSw; (try dsimp only at hSw); go_simp)
      simp only [List.getElem_toArray, List.getElem_cons_succ, List.getElem_cons_zero, Act.put, List.setIfInBounds_toArray, List.set_cons_zero, List.set_cons_succ]
      refine wpAnyH_take (i := 16) (v := .agg #[.int .i64 r.f, .int .i64 r.l, .int .i64 r.c]) rfl (by kernel_rfl) (by kernel_rfl) (by kernel_rfl) (fun _ _ _ h => h) (Or.inl ⟨by rfl, ?_⟩) (by assumption) ?_
      · (intro w1 hSw; (try dsimp only at hSw); go_simp)
      simp only [List.getElem_toArray, List.getElem_cons_succ, List.getElem_cons_zero, Act.put, List.setIfInBounds_toArray, List.set_cons_zero, List.set_cons_succ]
      refine wpAnyH_ready (rs := [17]) (by kernel_rfl) (by simp) ?_
      refine AllReadyH.cons (o := _) rfl (fun K hK => ?_) AllReadyH.nil
      go_simp
      refine hK.out _ _ ?_ (fun hHeld => ?_)
      · exact ⟨(HBa.out.cell (p := ⟨b, _, none⟩) hbd).trans HC.out.1, (HBa.out.cell (p := ⟨b, _, none⟩) hbd).trans HC.out.2.1, (HBa.out.cell (p := ⟨b, _, none⟩) hbd).trans HC.out.2.2⟩
      clear hK K
      refine wpAnyH_ready (rs := [18]) (by kernel_rfl) (by simp) ?_
      refine AllReadyH.cons (o := _) rfl (fun K hK => ?_) AllReadyH.nil
      refine wp_app_runG (.tmp 11) (.tmp 28) 36 36 rfl rfl _ _ _ (by simp [Act.eval]) (by simp [Act.eval]) hrun ?_
      simp only [List.getElem_toArray, List.getElem_cons_succ, List.getElem_cons_zero, Act.put, List.setIfInBounds_toArray, List.set_cons_zero, List.set_cons_succ]
      refine hK.out _ _ ?_ (fun hHeld => ?_)
      · exact HE.out
      clear hK K
      refine wpAnyH_ready (rs := [19]) (by kernel_rfl) (by simp) ?_
      refine AllReadyH.cons (o := _) rfl (fun K hK => ?_) AllReadyH.nil
      go_simp
      refine hK.out _ _ ?_ (fun hHeld => ?_)
      · exact HE.out
      clear hK K
      refine wpAnyH_done (by kernel_rfl) ?_ _
      refine NoPanic.normal ?_
      go_wp2_with fail
      go_roundw
      case rel => exact ⟨j + 1, by go_num, by omega, hs3, HU3⟩
      case measure => simp [intOf]; omega
    · have hlt' : ¬ (j : Int) < (L.length : Int) := by omega
      have HE : Hid (UR wr u3 L) := by
        have := gown_ur HU.out.o
        rwa [List.take_of_length_le (by omega)] at this
      go_wp2_with fail
      go_ret
      exact ⟨_, rfl, HE.out, fun b off n c e => by subst e; obtain ⟨a, c', e1, _, _, e2, _⟩ := GOwn.form HU.out.o; simp only [Value.slice.injEq] at e1; have e3 := e2 _ e1.1.symm; simp only [Addr.mk.injEq, and_true, true_and] at e3; subst e3; exact (HU.out.k b rfl).1, HU.out.b⟩
set_option maxRecDepth 100000 in
set_option maxHeartbeats 4000000 in
theorem as13u_any (rv : Value) (s : St) (w : World) (h : RuR w rv s.ru) (hl : s.ru.length ≤ 100000) :
    Calls Tryz.prog 16 #[.agg #[rv, .int .i64 s.lo, .int .i64 s.ne, .int .i64 s.ma]] w fun e w' => ∃ v', e = .returned (.agg #[v', .int .i64 s.lo, .int .i64 s.ne, .int .i64 s.ma]) ∧ UR w' v' s.ru ∧ Below w.heap.size w w' := by
  obtain ⟨aa, ac, rfl, hm2⟩ := h.form
  have HE : Hid (RuR w (.slice aa s.ru.length ac) s.ru) := h
  clear h
  go_enter Tryz.func16, Tryz.ntmps16
  go_wp2_with fail
  obtain ⟨W, HW⟩ := hid_ex (((w.alloc (.cells #[.slice aa s.ru.length ac, .int .i64 s.lo, .int .i64 s.ne, .int .i64 s.ma] 33)).alloc (.cells #[.slice none 0 0, .int .i64 0, .int .i64 0, .int .i64 0] 38)).drew)
  have HB0 : Hid (Below w.heap.size w W) := by rw [HW.out]; exact (((Below.refl _ _).alloc (Nat.le_refl _) _).alloc (by simp) _).drew
  have hsz : w.heap.size + 1 < W.heap.size := by rw [HW.out]; simp [World.drew]
  have HX : Hid (W.heap[w.heap.size]? = some (.cells #[.slice aa s.ru.length ac, .int .i64 s.lo, .int .i64 s.ne, .int .i64 s.ma] 33)) := by
    unfold Hid; rw [HW.out]; exact (Below.heap_alloc _ _ _ (by simp)).trans (heap_alloc_new _ _)
  have HZ : Hid (W.heap[w.heap.size + 1]? = some (.cells #[.slice none 0 0, .int .i64 0, .int .i64 0, .int .i64 0] 38)) := by
    unfold Hid; rw [HW.out]; have := heap_alloc_new (w.alloc (.cells #[.slice aa s.ru.length ac, .int .i64 s.lo, .int .i64 s.ne, .int .i64 s.ma] 33)) (.cells #[.slice none 0 0, .int .i64 0, .int .i64 0, .int .i64 0] 38); rw [World.size_alloc] at this; exact this
  have c := four13 HX.out
  refine wp_region_noPanic ?_
  refine wp_region_held_drew (S := fun w' => w'.cell? ⟨w.heap.size, 0, none⟩ = some (.slice aa s.ru.length ac) ∧ w'.cell? ⟨w.heap.size, 1, none⟩ = some (.int .i64 s.lo) ∧ w'.cell? ⟨w.heap.size, 2, none⟩ = some (.int .i64 s.ne) ∧ w'.cell? ⟨w.heap.size, 3, none⟩ = some (.int .i64 s.ma)) (by kernel_rfl) ?_ (fun hHeld => ?_)
  · (rw [← HW.out]; exact c)
  rw [← HW.out]
  clear HW
  refine wpAnyH_take (i := 0) (v := .pointer (some ⟨w.heap.size, 0, none⟩)) rfl (by kernel_rfl) (by kernel_rfl) (by kernel_rfl) (fun _ _ _ h => h) (Or.inl ⟨by rfl, ?_⟩) (by assumption) ?_
  · (intro w1 hSw; (try dsimp only at hSw); go_simp)
  simp only [List.getElem_toArray, List.getElem_cons_zero, Act.put, List.setIfInBounds_toArray, List.set_cons_zero, List.set_cons_succ]
  refine wpAnyH_take (i := 1) (v := .slice aa s.ru.length ac) rfl (by kernel_rfl) (by kernel_rfl) (by kernel_rfl) (fun _ _ _ h => h) (Or.inl ⟨by rfl, ?_⟩) (by assumption) ?_
  · (intro w1 hSw; (try dsimp only at hSw); go_simp)
  simp only [List.getElem_toArray, List.getElem_cons_succ, List.getElem_cons_zero, Act.put, List.setIfInBounds_toArray, List.set_cons_zero, List.set_cons_succ]
  refine wpAnyH_take (i := 3) (v := .pointer (some ⟨w.heap.size, 1, none⟩)) rfl (by kernel_rfl) (by kernel_rfl) (by kernel_rfl) (fun _ _ _ h => h) (Or.inl ⟨by rfl, ?_⟩) (by assumption) ?_
  · (intro w1 hSw; (try dsimp only at hSw); go_simp)
  simp only [List.getElem_toArray, List.getElem_cons_succ, List.getElem_cons_zero, Act.put, List.setIfInBounds_toArray, List.set_cons_zero, List.set_cons_succ]
  refine wpAnyH_take (i := 4) (v := .int .i64 s.lo) rfl (by kernel_rfl) (by kernel_rfl) (by kernel_rfl) (fun _ _ _ h => h) (Or.inl ⟨by rfl, ?_⟩) (by assumption) ?_
  · (intro w1 hSw; (try dsimp only at hSw); go_simp)
  simp only [List.getElem_toArray, List.getElem_cons_succ, List.getElem_cons_zero, Act.put, List.setIfInBounds_toArray, List.set_cons_zero, List.set_cons_succ]
  refine wpAnyH_take (i := 5) (v := .pointer (some ⟨w.heap.size, 2, none⟩)) rfl (by kernel_rfl) (by kernel_rfl) (by kernel_rfl) (fun _ _ _ h => h) (Or.inl ⟨by rfl, ?_⟩) (by assumption) ?_
  · (intro w1 hSw; (try dsimp only at hSw); go_simp)
  simp only [List.getElem_toArray, List.getElem_cons_succ, List.getElem_cons_zero, Act.put, List.setIfInBounds_toArray, List.set_cons_zero, List.set_cons_succ]
  refine wpAnyH_take (i := 6) (v := .int .i64 s.ne) rfl (by kernel_rfl) (by kernel_rfl) (by kernel_rfl) (fun _ _ _ h => h) (Or.inl ⟨by rfl, ?_⟩) (by assumption) ?_
  · (intro w1 hSw; (try dsimp only at hSw); go_simp)
  simp only [List.getElem_toArray, List.getElem_cons_succ, List.getElem_cons_zero, Act.put, List.setIfInBounds_toArray, List.set_cons_zero, List.set_cons_succ]
  refine wpAnyH_take (i := 7) (v := .pointer (some ⟨w.heap.size, 3, none⟩)) rfl (by kernel_rfl) (by kernel_rfl) (by kernel_rfl) (fun _ _ _ h => h) (Or.inl ⟨by rfl, ?_⟩) (by assumption) ?_
  · (intro w1 hSw; (try dsimp only at hSw); go_simp)
  simp only [List.getElem_toArray, List.getElem_cons_succ, List.getElem_cons_zero, Act.put, List.setIfInBounds_toArray, List.set_cons_zero, List.set_cons_succ]
  refine wpAnyH_take (i := 8) (v := .int .i64 s.ma) rfl (by kernel_rfl) (by kernel_rfl) (by kernel_rfl) (fun _ _ _ h => h) (Or.inl ⟨by rfl, ?_⟩) (by assumption) ?_
  · (intro w1 hSw; (try dsimp only at hSw); go_simp)
  simp only [List.getElem_toArray, List.getElem_cons_succ, List.getElem_cons_zero, Act.put, List.setIfInBounds_toArray, List.set_cons_zero, List.set_cons_succ]
  clear c
  refine wpAnyH_ready (rs := [2]) (by kernel_rfl) (by simp) ?_
  refine AllReadyH.cons (o := _) rfl (fun K hK => ?_) AllReadyH.nil
  go_simp
  refine (runs13u_any _ s.ru W (HE.out.below HB0.out) hl).mono ?_
  rintro e W2 ⟨v2, rfl, hr2, hav2, hb2⟩
  obtain ⟨va, vc, hv2, _⟩ := hr2.r.form
  subst hv2
  have HR2 : Hid (UR W2 (.slice va s.ru.length vc) s.ru) := hr2
  have HB2 : Hid (Below W.heap.size W W2) := hb2
  have HAV : Hid (AboveV W.heap.size (.slice va s.ru.length vc)) := hav2
  have HX2 : Hid (W2.heap[w.heap.size]? = some (.cells #[.slice aa s.ru.length ac, .int .i64 s.lo, .int .i64 s.ne, .int .i64 s.ma] 33)) := (hb2.block _ (by omega)).trans HX.out
  have HZ2 : Hid (W2.heap[w.heap.size + 1]? = some (.cells #[.slice none 0 0, .int .i64 0, .int .i64 0, .int .i64 0] 38)) := (hb2.block _ (by omega)).trans HZ.out
  have HOne : Hid (([.slice va s.ru.length vc, .int .i64 s.lo, .int .i64 s.ne, .int .i64 s.ma] : List Value).toArray.all (·.oneCell') = true) := by unfold Hid; kernel_rfl
  clear hr2 hb2 hav2
  go_simp
  refine hK.out _ _ ?_ (fun hHeld => ?_)
  · exact four13 HX2.out
  clear hK K
  refine wpAnyH_take (i := 9) (v := .agg #[.slice va s.ru.length vc, .int .i64 s.lo, .int .i64 s.ne, .int .i64 s.ma]) rfl (by kernel_rfl) (by kernel_rfl) (by kernel_rfl) (fun _ _ _ h => h) (Or.inl ⟨by rfl, ?_⟩) (by assumption) ?_
  · (intro w1 hSw; (try dsimp only at hSw); go_simp)
  simp only [List.getElem_toArray, List.getElem_cons_succ, List.getElem_cons_zero, Act.put, List.setIfInBounds_toArray, List.set_cons_zero, List.set_cons_succ]
  refine wpAnyH_ready (rs := [10]) (by kernel_rfl) (by simp) ?_
  refine AllReadyH.cons (o := _) rfl (fun K hK => ?_) AllReadyH.nil
  refine wp_storeN _ _ _ rfl (w.heap.size + 1) 0 [.slice va s.ru.length vc, .int .i64 s.lo, .int .i64 s.ne, .int .i64 s.ma] rfl rfl _ _ HZ2.out (by simp) (by kernel_rfl) HOne.out (fun W9 hW9 => ?_)
  have HK9 := stW_all hW9 (by simp)
  have HB9 : Hid (Below w.heap.size W2 W9) := hW9.b _ (by omega)
  have HO9 : Hid (∀ k, k ≠ w.heap.size + 1 → W9.heap[k]? = W2.heap[k]?) := hW9.o
  clear hW9
  refine hK.out _ _ ?_ (fun hHeld => ?_)
  · exact four13 ((HO9.out _ (by omega)).trans HX2.out)
  clear hK K
  refine wpAnyH_done (by kernel_rfl) ?_ _
  refine NoPanic.normal ?_
  go_wp2_with fail
  refine bodyPost_ret (results_1c rfl _ _ (w.heap.size + 1) _ rfl (run_loadVar_row _ (w.heap.size + 1) _ _ _ (0, 0) _ HK9 Tryz.underlying38 rfl (by kernel_rfl))) rfl ?_
  exact ⟨_, rfl, ⟨HR2.out.r.keepB fun b off n c e => HO9.out b (by have := HAV.out b off n c e; omega), HR2.out.c, HR2.out.z⟩, HB0.out.trans ((HB2.out.mono HB0.out.size).trans HB9.out)⟩
theorem apS_long {s : St} {x : Ed} (h : okSt s) (hl : 64 < x.dr.length ∨ 64 < x.ad.length) : apS s x = (none, 100) := by
  cases hd : dropF s.ru x.dr with
  | none => exact apS_drop h hd
  | some l =>
    by_cases hb : x.lo < s.lo ∨ x.ne < s.ne ∨ x.ma < s.ma
    · exact apS_back h hd hb
    · rw [apS_on h hd hb, if_neg]
      intro ht
      have h1 := dropF_len hd
      have h2 := h.2.2.2.2.2.1
      have h3 := ht.2.2.2.2.2.1
      have h4 : (apT l x).ru.length = l.length + x.ad.length := by have := (putAll_perm x.ad l).length_eq; rw [List.length_append] at this; exact this
      omega
theorem apS_end {s : St} {x : Ed} (h : okSt s) {l : List Ru} (hd : dropF s.ru x.dr = some l) {c : Bool} (hc : c = decide (x.lo < s.lo ∨ x.ne < s.ne ∨ x.ma < s.ma ∨ ¬ okSt (apT l x))) : apS s x = if c = true then (none, 100) else (some (apT l x), 0) := by
  subst hc
  by_cases hb : x.lo < s.lo ∨ x.ne < s.ne ∨ x.ma < s.ma
  · rw [apS_back h hd hb, if_pos (decide_eq_true (by omega))]
  · rw [apS_on h hd hb]
    by_cases ho : okSt (apT l x)
    · rw [if_pos ho, if_neg (by simp only [decide_eq_true_eq]; intro z; rcases z with z | z | z | z <;> first | exact z ho | omega)]
    · rw [if_neg ho, if_pos (decide_eq_true (.inr (.inr (.inr ho))))]
end Go.Proofs.YtilbffgpniomcaaGreatDoor

/- ManifestEdits, plainly: an edit is appended, something fails, a crash comes. -/
namespace Go.Proofs.YtilbffgpniomcaaGreatDoor
open Go.RowKit Go.Shelf

theorem dropF_mem : ∀ {dr : List Int} {l l' : List Ru}, dropF l dr = some l' → ∀ f ∈ dr, ∃ r ∈ l, r.f = f
  | [], _, _, _, f, hf => by cases hf
  | g :: dr, l, l', h, f, hf => by
    rw [dropF] at h
    unfold drop1 at h
    by_cases ha : l.any (fun r => decide (r.f = g)) = true
    · rw [if_pos ha] at h
      simp only at h
      rcases List.mem_cons.1 hf with rfl | hf
      · obtain ⟨r, hr, e⟩ := List.any_eq_true.1 ha
        exact ⟨r, hr, of_decide_eq_true e⟩
      · obtain ⟨r, hr, e⟩ := dropF_mem h f hf
        exact ⟨r, (List.mem_filter.1 hr).1, e⟩
    · rw [if_neg ha] at h
      cases h
theorem apS_parts {s t : St} {x : Ed} {c : Int} (h : apS s x = (some t, c)) : okSt s ∧ okSt t ∧ (∃ l, dropF s.ru x.dr = some l) ∧ t.lo = x.lo ∧ t.ne = x.ne ∧ t.ma = x.ma := by
  unfold apS at h
  split at h
  · rename_i ho
    cases hd : dropF s.ru x.dr with
    | none => rw [hd] at h; simp at h
    | some l =>
      rw [hd] at h
      simp only at h
      split at h
      · simp at h
      · split at h
        · rename_i ht
          simp only [Prod.mk.injEq, Option.some.injEq] at h
          obtain ⟨rfl, _⟩ := h
          exact ⟨ho, ht, ⟨l, rfl⟩, rfl, rfl, rfl⟩
        · simp at h
  · simp at h
/-- An edit that can be applied has bytes. -/
theorem apS_edW {s t : St} {x : Ed} (h : apS s x = (some t, 0)) : ∃ b, edW x = some b ∧ edR b = some x ∧ b.length ≤ 2700 := by
  obtain ⟨ho, ht, ⟨l, hd⟩, e1, e2, e3⟩ := apS_parts h
  have hm := (apS_ok h).mem
  have hln : ¬ (64 < x.dr.length ∨ 64 < x.ad.length) := fun z => by rw [apS_long ho z] at h; simp at h
  obtain ⟨o1, o2, o3, o4, o5, o6, o7, o8⟩ := ho
  obtain ⟨t1, t2, t3, t4, t5, t6, t7, t8⟩ := ht
  have hv : ∀ v ∈ nmE x, 0 ≤ v ∧ v ≤ 9223372036854775807 := fun v hv => by
    unfold nmE at hv
    simp only [List.mem_cons, List.mem_append, List.not_mem_nil, or_false] at hv
    rcases hv with rfl | hv | rfl | hv | rfl | rfl | rfl
    · omega
    · obtain ⟨r, hr, e⟩ := dropF_mem hd v hv
      have := o7 r hr
      unfold fitR at this
      omega
    · omega
    · obtain ⟨r, hr, hv⟩ := List.mem_flatMap.1 hv
      have := t7 r (hm r hr)
      unfold fitR at this
      simp only [Ru.n, List.mem_cons, List.not_mem_nil, or_false] at hv
      omega
    · omega
    · omega
    · omega
  have e : edW x = some (shB (nmE x)) := by
    unfold edW
    rw [if_neg hln, if_pos (by unfold okN; rw [List.all_eq_true]; intro v q; exact decide_eq_true (hv v q).1)]
  refine ⟨_, e, edR_wr e (fun v q => (hv v q).2), ?_⟩
  have := shB_len (nmE x) hv
  rw [nmE_len] at this
  omega
def SVf (room : Int) (nm fb pb : List UInt8) (sy : Nat) (l f : Int) : SfS := ⟨room, [(curN, 1), (nm, 0)], [(curN, 1), (nm, 0)], [], l, f, [(fb, sy), (pb, pb.length)]⟩
theorem svf_fail (room : Int) (nm fb pb : List UInt8) (sy : Nat) (n e : Int) (he : e = 81 ∨ e = 82) : (sfFail (SV room nm fb pb sy) n e).2 = SVf room nm fb pb sy (if n < 0 then 0 else n) (if n < 0 then 0 else e) := by
  unfold sfFail
  rw [if_neg (by omega)]
  split <;> rfl
theorem svf_nm (room : Int) {nm : List UInt8} (h : curN ≠ nm) (fb pb : List UInt8) (sy : Nat) (l f : Int) : sfLook nm (SVf room nm fb pb sy l f).dir = some 0 := by simp [SVf, sfLook, h]
theorem svf_plan (room : Int) (nm fb pb : List UInt8) (sy : Nat) (l f : Int) : ∃ l' f', sfPlan (SVf room nm fb pb sy l f) = ((sfPlan (SVf room nm fb pb sy l f)).1, SVf room nm fb pb sy l' f') := by
  unfold sfPlan
  split
  · exact ⟨l, f, rfl⟩
  · split
    · exact ⟨l - 1, f, rfl⟩
    · exact ⟨l, 0, rfl⟩
/-- What an edit's append leaves, whatever fails. -/
theorem svf_ext {room : Int} {nm : List UInt8} (h : curN ≠ nm) (fb pb d : List UInt8) (l f : Int) (hl : fb.length + (frm d).length ≤ 1048576) (hr : ((pb.length + fb.length + (frm d).length : Nat) : Int) ≤ room) :
    ∃ c k sy l' f', mfExt (SVf room nm fb pb fb.length l f) nm d = (c, SVf room nm (fb ++ (frm d).take k) pb sy l' f') ∧ fb.length ≤ sy ∧ sy ≤ (fb ++ (frm d).take k).length ∧ k ≤ (frm d).length ∧ (c = 0 → k = (frm d).length ∧ sy = (fb ++ frm d).length) := by
  obtain ⟨l1, f1, hp⟩ := svf_plan room nm fb pb fb.length l f
  have e1 : (SVf room nm fb pb fb.length l f).fl 0 = (fb, fb.length) := rfl
  have e2 : sfUsed (SVf room nm fb pb fb.length l f) = pb.length + fb.length := by simp [sfUsed, SVf, SfS.fl]
  have e3 : (SVf room nm fb pb fb.length l f).room = room := rfl
  have ha : sfAppend (SVf room nm fb pb fb.length l f) nm (frm d) = if (sfPlan (SVf room nm fb pb fb.length l f)).1 = 0 then (0, SVf room nm (fb ++ frm d) pb fb.length l1 f1) else ((sfPlan (SVf room nm fb pb fb.length l f)).1, SVf room nm fb pb fb.length l1 f1) := by
    unfold sfAppend
    rw [svf_nm room h]
    simp only
    rw [e1, e2, e3, if_neg (by simp only; omega), if_neg (by omega)]
    split
    · rw [hp]; rfl
    · exact hp
  unfold mfExt
  rw [ha]
  by_cases c1 : (sfPlan (SVf room nm fb pb fb.length l f)).1 = 0
  · rw [if_pos c1, sfThen_0]
    obtain ⟨l2, f2, hp2⟩ := svf_plan room nm (fb ++ frm d) pb fb.length l1 f1
    have e4 : (SVf room nm (fb ++ frm d) pb fb.length l1 f1).fl 0 = (fb ++ frm d, fb.length) := rfl
    have hs : sfSync (SVf room nm (fb ++ frm d) pb fb.length l1 f1) nm = if (sfPlan (SVf room nm (fb ++ frm d) pb fb.length l1 f1)).1 = 0 then (0, SVf room nm (fb ++ frm d) pb (fb ++ frm d).length l2 f2) else ((sfPlan (SVf room nm (fb ++ frm d) pb fb.length l1 f1)).1, SVf room nm (fb ++ frm d) pb fb.length l2 f2) := by
      unfold sfSync
      rw [svf_nm room h]
      simp only
      rw [e4]
      split
      · rw [hp2]; rfl
      · exact hp2
    rw [hs]
    have ht : (frm d).take (frm d).length = frm d := List.take_length
    by_cases c2 : (sfPlan (SVf room nm (fb ++ frm d) pb fb.length l1 f1)).1 = 0
    · rw [if_pos c2]
      exact ⟨0, (frm d).length, (fb ++ frm d).length, l2, f2, by rw [ht], by simp, by rw [ht]; omega, Nat.le_refl _, fun _ => ⟨rfl, rfl⟩⟩
    · rw [if_neg c2]
      exact ⟨_, (frm d).length, fb.length, l2, f2, by rw [ht], by omega, by rw [ht]; simp, Nat.le_refl _, fun z => absurd z c2⟩
  · rw [if_neg c1]
    exact ⟨_, 0, fb.length, l1, f1, (sfThen_no (r := ((sfPlan (SVf room nm fb pb fb.length l f)).1, SVf room nm fb pb fb.length l1 f1)) c1 _).trans (by simp), by omega, by simp, by omega, fun z => absurd z c1⟩
theorem svf_crash (room : Int) (nm fb pb : List UInt8) (sy : Nat) (l f : Int) (n : Int) (ks : List Int) (hs : sy ≤ fb.length) : ∃ c, sy ≤ c ∧ c ≤ fb.length ∧ sfCrash (SVf room nm fb pb sy l f) n ks = SVf room nm (fb.take c) pb c l 0 := by
  have hk : ∀ k : Int, sfCut (pb, pb.length) k = (pb, pb.length) := fun k => by
    unfold sfCut
    simp
  refine ⟨sy + min (max (ks.tail.headD 0) 0).toNat (fb.length - sy), by omega, by omega, ?_⟩
  unfold sfCrash sfSettle
  simp only [SVf, List.take_nil, List.foldl_nil]
  unfold sfCuts
  unfold sfCuts
  unfold sfCuts
  simp only [List.getD_cons_succ, List.getD_cons_zero, List.set_cons_succ, List.set_cons_zero]
  rw [hk]
  rfl
theorem svf_look (room : Int) (nm fb pb : List UInt8) (sy : Nat) (l f : Int) : mfLd (SVf room nm fb pb sy l f) = mfLd (SV room nm fb pb sy) := rfl
theorem svf_len {room : Int} {nm fb pb : List UInt8} {sy : Nat} {l f : Int} (h1 : fb.length ≤ 100000) (h2 : pb.length ≤ 1000) (n : List UInt8) : (sfRead (SVf room nm fb pb sy l f) n).length ≤ 1000000 := by
  have hf : ∀ i, ((SVf room nm fb pb sy l f).fl i).1.length ≤ 100000 := fun i => by
    match i with
    | 0 => simp [SVf, SfS.fl]; omega
    | 1 => simp [SVf, SfS.fl]; omega
    | i + 2 => simp [SVf, SfS.fl]
  unfold sfRead
  split
  · simp
  · exact Nat.le_trans (hf _) (by decide)
theorem no1 : isNo 1 = true := rfl
/-- The whole. -/
theorem edits_pure {s t : St} {x : Ed} (hs : okSt s) (ha : apS s x = (some t, 0)) (fail ops : Int) (ks : List Int) :
    (mfLd (sfCrash (mfApp (sfFail (mfSave (sfZ 1048576) 1 s).2 fail 81).2 1 x).2 ops ks) = (some (s, 1), 0) ∧ (mfApp (sfFail (mfSave (sfZ 1048576) 1 s).2 fail 81).2 1 x).1 ≠ 0 ∨ mfLd (sfCrash (mfApp (sfFail (mfSave (sfZ 1048576) 1 s).2 fail 81).2 1 x).2 ops ks) = (some (t, 1), 0)) ∧
    ∀ nm, (sfRead (sfCrash (mfApp (sfFail (mfSave (sfZ 1048576) 1 s).2 fail 81).2 1 x).2 ops ks) nm).length ≤ 1000000 := by
  obtain ⟨b, hb, hbr, hbl⟩ := apS_edW ha
  have h1 := stB_len hs
  have h2 := ptB_len no1
  have hbf : (frm b).length ≤ 2708 := by rw [frm_len]; omega
  rw [save_zero (by decide) hs no1]
  simp only
  rw [svf_fail _ _ _ _ _ _ _ (.inl rfl)]
  obtain ⟨c, k, sy, l', f', he, g1, g2, g3, g4⟩ := svf_ext (room := 1048576) (cur_ne no1) (frm (stB s)) (frm (sh (1 : Int).toNat)) b (if fail < 0 then 0 else fail) (if fail < 0 then 0 else 81) (by omega) (by omega)
  have he' : mfApp (SVf 1048576 (nmF man 1) (frm (stB s)) (frm (sh (1 : Int).toNat)) (frm (stB s)).length (if fail < 0 then 0 else fail) (if fail < 0 then 0 else 81)) 1 x = (c, SVf 1048576 (nmF man 1) (frm (stB s) ++ (frm b).take k) (frm (sh (1 : Int).toNat)) sy l' f') := by
    unfold mfApp
    rw [hb]
    exact he
  rw [he']
  simp only
  obtain ⟨q, q1, q2, hc⟩ := svf_crash 1048576 (nmF man 1) (frm (stB s) ++ (frm b).take k) (frm (sh (1 : Int).toNat)) sy l' f' ops ks g2
  rw [hc, svf_look]
  have hcat : frm (stB s) = cat [stB s] := by simp [cat]
  have hds : ∀ d ∈ [stB s], d.length ≤ 65535 := fun d hd => by simp only [List.mem_singleton] at hd; rw [hd]; exact stB_le hs
  have hq : (frm (stB s) ++ (frm b).take k).take q = frm (stB s) ++ (frm b).take (min (q - (frm (stB s)).length) k) := by
    rw [List.take_append, List.take_of_length_le (by omega), List.take_take]
  refine ⟨?_, fun nm => svf_len (by rw [List.length_take, List.length_append, List.length_take]; omega) (by omega) nm⟩
  obtain ⟨mm, hmm⟩ : ∃ m, m = min (q - (frm (stB s)).length) k := ⟨_, rfl⟩
  rw [hq, ← hmm]
  by_cases hm : mm < (frm b).length
  · refine .inl ⟨sv_load no1 _ _ ((rpa_one hs).rpS (by rw [hcat]; exact fm_cut hds (by omega) hm)), fun z => ?_⟩
    obtain ⟨z1, z2⟩ := g4 z
    rw [z1, List.take_length, List.length_append] at q2
    rw [List.length_append] at z2
    omega
  · refine .inr (sv_load no1 _ _ (((rpa_one hs).app hbr (by rw [ha])).rpS ?_))
    rw [List.take_of_length_le (by omega), hcat, show cat [stB s] ++ frm b = cat ([stB s] ++ [b]) by rw [cat_append]; simp [cat]]
    refine fm_cat (fun d hd => ?_)
    simp only [List.cons_append, List.nil_append, List.mem_cons, List.not_mem_nil, or_false] at hd
    rcases hd with rfl | rfl
    · exact stB_le hs
    · omega
end Go.Proofs.YtilbffgpniomcaaGreatDoor

/- ManifestOne, plainly: the whole. -/
namespace Go.Proofs.YtilbffgpniomcaaGreatDoor
open Go.RowKit Go.Shelf

theorem cut_all (b : List UInt8) (k : Int) : sfCut (b, b.length) k = (b, b.length) := by unfold sfCut; simp
theorem cuts_at : ∀ (D : Dir) (ks : List Int) (fl : List (List UInt8 × Nat)) {i : Nat} {b : List UInt8}, fl[i]? = some (b, b.length) → (sfCuts D ks fl)[i]? = some (b, b.length)
  | [], _, _, _, _, h => h
  | p :: D, ks, fl, i, b, h => by
    unfold sfCuts
    refine cuts_at D ks.tail _ ?_
    rw [List.getElem?_set]
    split
    · rename_i e
      subst e
      have hl := (List.getElem?_eq_some_iff.1 h).1
      rw [if_pos hl, List.getD_eq_getElem?_getD, h]
      simp only [Option.getD_some]
      rw [cut_all]
    · exact h
theorem cuts_sz : ∀ (D : Dir) (ks : List Int) (fl : List (List UInt8 × Nat)), (∀ f ∈ fl, f.1.length ≤ 4000) → ∀ f ∈ sfCuts D ks fl, f.1.length ≤ 4000
  | [], _, _, h => h
  | p :: D, ks, fl, h => by
    unfold sfCuts
    refine cuts_sz D ks.tail _ (fun f hf => ?_)
    rcases List.mem_or_eq_of_mem_set hf with hf | rfl
    · exact h f hf
    · unfold sfCut
      simp only [List.length_take]
      have : (fl.getD p.2 ([], 0)).1.length ≤ 4000 := by
        rw [List.getD_eq_getElem?_getD]
        cases hi : fl[p.2]? with
        | none => simp
        | some f => exact h f (List.mem_of_getElem? hi)
      omega
theorem Gd.cuts {m : Int} {st : St} {fl : List (List UInt8 × Nat)} {D : Dir} (h : Gd m st fl D) (E : Dir) (ks : List Int) : Gd m st (sfCuts E ks fl) D := by
  obtain ⟨i, j, B, h1, h2, h3, h4, h5⟩ := h
  exact ⟨i, j, B, h1, cuts_at E ks fl h2, h3, cuts_at E ks fl h4, h5⟩
theorem re_crash {s : SfS} {G : List (List UInt8 × Nat) → Dir → Prop} {c : Nat} {F : List UInt8 → Prop} (h : Re G c F s) (hG : ∀ fl D E ks, G fl D → G (sfCuts E ks fl) D) (ops : Int) (ks : List Int) : Re G c F (sfCrash s ops ks) ∧ (sfCrash s ops ks).fault = 0 ∧ (sfCrash s ops ks).pend = [] := by
  refine ⟨⟨h.wf.crash ops ks, fun k => ?_, cuts_sz _ _ _ h.sz, h.ro, by show (0 : Int) ≠ 4; decide⟩, rfl, rfl⟩
  obtain ⟨g1, g2, g3⟩ := h.cr (max ops 0).toNat
  show Kp G c F (sfCuts _ ks s.fls) (([] : List SfA).take k |>.foldl sfDo ((s.pend.take (max ops 0).toNat).foldl sfDo s.old))
  rw [List.take_nil]
  exact ⟨hG _ _ _ _ g1, g2, g3⟩
theorem re_load {s : SfS} {m : Int} {st : St} {c : Nat} {F : List UInt8 → Prop} (h : Re (Gd m st) c F s) (hm : isNo m = true) : mfLd s = (some (st, m), 0) ∧ ∀ nm, (sfRead s nm).length ≤ 1000000 := by
  obtain ⟨⟨i, j, B, h1, h2, h3, h4, h5⟩, _, _⟩ := h.cr.dir h.wf
  obtain ⟨n1, n2⟩ := isNo_iff.1 hm
  have r1 : sfRead s curN = frm (sh m.toNat) := by
    unfold sfRead; rw [h1]
    show (s.fl i).1 = _
    unfold SfS.fl; rw [List.getD_eq_getElem?_getD, h2]; rfl
  have r2 : sfRead s (nmF man m) = B := by
    unfold sfRead; rw [h3]
    show (s.fl j).1 = _
    unfold SfS.fl; rw [List.getD_eq_getElem?_getD, h4]; rfl
  constructor
  · unfold mfLd
    rw [h1]
    simp only
    rw [r1, pt_iff.2 ⟨n1, n2, rfl⟩]
    simp only
    rw [r2, h5]
  · intro nm
    unfold sfRead
    split
    · simp
    · rename_i k _
      show (s.fl k).1.length ≤ _
      unfold SfS.fl
      rw [List.getD_eq_getElem?_getD]
      cases hi : s.fls[k]? with
      | none => simp
      | some f => exact Nat.le_trans (h.sz f (List.mem_of_getElem? hi)) (by decide)
/-- Where nothing is pending, it is the one or the other. -/
theorem re_or {s : SfS} {A B : List (List UInt8 × Nat) → Dir → Prop} {c : Nat} {F : List UInt8 → Prop} (h : Re (fun fl D => A fl D ∨ B fl D) c F s) (hp : s.pend = []) : Re A c F s ∨ Re B c F s := by
  obtain ⟨g1, g2⟩ := h.cr 0
  have hc : ∀ {P : Dir → Prop}, P ((s.pend.take 0).foldl sfDo s.old) → Cr s P := fun hP k => by
    rw [hp] at hP ⊢
    rw [List.take_nil] at hP ⊢
    exact hP
  rcases g1 with g1 | g1
  · exact .inl ⟨h.wf, hc ⟨g1, g2⟩, h.sz, h.ro, h.fa⟩
  · exact .inr ⟨h.wf, hc ⟨g1, g2⟩, h.sz, h.ro, h.fa⟩
theorem SfWf.mrm {s : SfS} (h : SfWf s) (n : Int) : SfWf (mfRm s n).2 := by
  unfold mfRm
  split
  · unfold mfPt
    have h1 := (h.remove newN).cre newN (sh n.toNat)
    unfold sfThen
    split
    · dsimp only
      split
      · exact (h1.rename newN curN).syncDir
      · exact h1.rename newN curN
    · exact h1
  · exact h.remove newN
theorem SfWf.msave {s : SfS} (h : SfWf s) (n : Int) (st : St) : SfWf (mfSave s n st).2 := by
  unfold mfSave
  split
  · unfold mfSv
    have h1 := h.cre (nmF man n) (stB st)
    unfold sfThen
    split
    · dsimp only
      split
      · exact h1.syncDir.mrm n
      · exact h1.syncDir
    · exact h1
  · exact h
theorem no2 : isNo 2 = true := rfl
theorem no3 : isNo 3 = true := rfl
def F23 (x : List UInt8) : Prop := x = nmF man 2 ∨ x = nmF man 3
theorem f23 : ∀ x, F23 x → x ≠ [] ∧ x ≠ curN ∧ x ≠ newN := fun x hx => by
  rcases hx with rfl | rfl
  · exact ⟨man_nz no2, Ne.symm (cur_ne no2), Ne.symm (new_ne no2)⟩
  · exact ⟨man_nz no3, Ne.symm (cur_ne no3), Ne.symm (new_ne no3)⟩
theorem re_start {s : St} (hs : okSt s) (fail : Int) (hfl : fail < 9223372036854775808) : Re (Gd 1 s) 2 F23 (sfFail (mfSave (sfZ 1048576) 1 s).2 fail 82).2 := by
  have hwf := ((sfWf_zero (r := 1048576) (by decide) (by decide)).msave 1 s).fail fail 82 hfl
  have h1 := stB_len hs
  have h2 := ptB_len no1
  rw [save_zero (by decide) hs no1] at hwf ⊢
  simp only at hwf ⊢
  rw [svf_fail _ _ _ _ _ _ _ (.inr rfl)] at hwf ⊢
  refine ⟨hwf, fun k => ?_, ?_, rfl, ?_⟩
  · show Kp (Gd 1 s) 2 F23 _ (([] : List SfA).take k |>.foldl sfDo _)
    rw [List.take_nil]
    refine ⟨⟨1, 0, frm (stB s), by simp [SVf, sfLook], rfl, by simp [SVf, sfLook, cur_ne no1], rfl, (rpa_one hs).rpS ?_⟩, by simp [SVf], fun x hx => ?_⟩
    · have : frm (stB s) = cat [stB s] := by simp [cat]
      rw [this]
      exact fm_cat (fun d hd => by simp only [List.mem_singleton] at hd; rw [hd]; exact stB_le hs)
    · have hx2 := (f23 x hx).2.1
      have hx1 : x ≠ nmF man 1 := by
        rcases hx with rfl | rfl
        · exact fun z => by have := man_inj no2 no1 z; omega
        · exact fun z => by have := man_inj no3 no1 z; omega
      simp [SVf, sfLook, Ne.symm hx1, Ne.symm hx2]
  · intro f hf
    simp only [SVf, List.mem_cons, List.not_mem_nil, or_false] at hf
    rcases hf with rfl | rfl
    · simp only; omega
    · simp only; omega
  · show (if fail < 0 then (0 : Int) else 82) ≠ 4
    split <;> decide
/-- The whole. -/
theorem one_pure {s t : St} (hs : okSt s) (ht : okSt t) (fail ops : Int) (hfl : fail < 9223372036854775808) (ks : List Int) :
    ∃ e S3, sfCrash (mfSave (sfFail (mfSave (sfZ 1048576) 1 s).2 fail 82).2 2 t).2 ops ks = S3 ∧ (mfSave (sfFail (mfSave (sfZ 1048576) 1 s).2 fail 82).2 2 t).1 = e ∧
      ((mfLd S3 = (some (s, 1), 0) ∧ e ≠ 0) ∨ mfLd S3 = (some (t, 2), 0)) ∧ (∀ nm, (sfRead S3 nm).length ≤ 1000000) ∧ S3.pend = [] ∧
      (mfSave S3 3 t).1 = 0 ∧ mfLd (sfCrash (mfSave S3 3 t).2 ops ks) = (some (t, 3), 0) ∧ ∀ nm, (sfRead (sfCrash (mfSave S3 3 t).2 ops ks) nm).length ≤ 1000000 := by
  have hS := re_start hs fail hfl
  obtain ⟨e, u, hu, r1, r2, _⟩ := save_x hS no1 no2 (by decide) (by decide) ht (.inl rfl) f23
  rw [hu]
  simp only
  have hG : ∀ {m : Int} {st : St} (fl : List (List UInt8 × Nat)) (D E : Dir) (ks : List Int), Gd m st fl D → Gd m st (sfCuts E ks fl) D := fun fl D E ks g => g.cuts E ks
  obtain ⟨c1, c2, c3⟩ := re_crash r1 (fun fl D E ks g => g.imp (fun g => g.cuts E ks) (fun g => g.cuts E ks)) ops ks
  -- the third
  have hThird : ∀ {m : Int} {st : St}, isNo m = true → m ≠ 3 → Re (Gd m st) (2 + 3) (fun x => F23 x ∧ nmF man 2 ≠ x) (sfCrash u ops ks) →
      (mfSave (sfCrash u ops ks) 3 t).1 = 0 ∧ mfLd (sfCrash (mfSave (sfCrash u ops ks) 3 t).2 ops ks) = (some (t, 3), 0) ∧ ∀ nm, (sfRead (sfCrash (mfSave (sfCrash u ops ks) 3 t).2 ops ks) nm).length ≤ 1000000 := fun {m st} hm hm3 hR => by
    obtain ⟨e2, v, hv, _, w2, w3⟩ := save_x hR hm no3 hm3 (by decide) ht ⟨.inr rfl, fun z => by have := man_inj no2 no3 z; omega⟩ (fun x hx => f23 x hx.1)
    rw [hv]
    simp only
    obtain ⟨z1, _⟩ := w3 c2
    obtain ⟨d1, _, _⟩ := re_crash (w2 z1) hG ops ks
    exact ⟨z1, re_load d1 no3⟩
  have hCases : ((mfLd (sfCrash u ops ks) = (some (s, 1), 0) ∧ e ≠ 0) ∨ mfLd (sfCrash u ops ks) = (some (t, 2), 0)) ∧ (∀ nm, (sfRead (sfCrash u ops ks) nm).length ≤ 1000000) ∧ ((mfSave (sfCrash u ops ks) 3 t).1 = 0 ∧ mfLd (sfCrash (mfSave (sfCrash u ops ks) 3 t).2 ops ks) = (some (t, 3), 0) ∧ ∀ nm, (sfRead (sfCrash (mfSave (sfCrash u ops ks) 3 t).2 ops ks) nm).length ≤ 1000000) := by
    by_cases he : e = 0
    · obtain ⟨d1, _, _⟩ := re_crash (r2 he) hG ops ks
      obtain ⟨l1, l2⟩ := re_load d1 no2
      exact ⟨.inr l1, l2, hThird no2 (by decide) d1⟩
    · rcases re_or c1 c3 with g | g
      · obtain ⟨l1, l2⟩ := re_load g no1
        exact ⟨.inl ⟨l1, he⟩, l2, hThird no1 (by decide) g⟩
      · obtain ⟨l1, l2⟩ := re_load g no2
        exact ⟨.inr l1, l2, hThird no2 (by decide) g⟩
  exact ⟨e, _, rfl, rfl, hCases.1, hCases.2.1, c3, hCases.2.2⟩
end Go.Proofs.YtilbffgpniomcaaGreatDoor

/- The contracts of bytes.Compare and bytes.Equal; the order of bytes. -/
namespace Go.Proofs.YtilbffgpniomcaaGreatDoor
open Go.RowKit

theorem run_loadBytes (w : World) : ∀ (l : List UInt8) (b off : Nat) (acc : ByteArray), (∀ j (h : j < l.length), w.cell? ⟨b, off + j, none⟩ = some (bc l[j])) →
    (Extern.Bytes.loadBytes ⟨b, off, none⟩ l.length acc).run Tryz.prog w = .ok ⟨acc.data ++ l.toArray⟩ w := by
  intro l
  induction l with
  | nil => intro b off acc _; simp [Extern.Bytes.loadBytes, Sem.run_pure]
  | cons x l ih =>
    intro b off acc h
    have h0 := h 0 (by simp)
    simp only [Nat.add_zero, List.getElem_cons_zero] at h0
    have e1 : (⟨b, off, none⟩ : Addr).add 1 = ⟨b, off + 1, none⟩ := by simp [Addr.add]
    have := ih b (off + 1) (acc.push x) (fun j hj => by
      have := h (j + 1) (by simpa using hj)
      simpa [Nat.add_assoc, Nat.add_comm 1 j] using this)
    have e2 : ((x.toNat : Int).toNat).toUInt8 = x := by simp
    unfold bc at h0
    simp only [List.length_cons, Extern.Bytes.loadBytes, Sem.run_bind, run_load, h0, Result.andThen, e1, e2, this]
    congr 1
    simp [ByteArray.push]
theorem run_bytesOf {w : World} {v : Value} {l : List UInt8} (h : Reads w v l) : (Extern.Bytes.bytesOf v).run Tryz.prog w = .ok ⟨l.toArray⟩ w := by
  rcases h with ⟨rfl, a, cap, rfl, _⟩ | ⟨b, off, cap, rfl, h2, h3, h4, h5, h6⟩
  · cases a with
    | none => simp [Extern.Bytes.bytesOf, Sem.run_pure]; rfl
    | some a => simp [Extern.Bytes.bytesOf, Extern.Bytes.loadBytes, Sem.run_pure]; rfl
  · have := run_loadBytes w l b off ByteArray.empty h6
    simp only [Extern.Bytes.bytesOf]
    rw [this]; simp
theorem run_cmp {w : World} {va vb : Value} {a b : List UInt8} (ha : Reads w va a) (hb : Reads w vb b) : (Extern.BytealgCompare.compare #[va, vb]).run Tryz.prog w = .ok (.int .i64 (Lib.compareBytes a b)) w := by
  change Sem.run Tryz.prog (do pure (goInt (Extern.BytealgCompare.cmp (← Extern.Bytes.bytesOf va) (← Extern.Bytes.bytesOf vb)))) w = _
  simp only [Sem.run_bind, run_bytesOf ha, run_bytesOf hb, Sem.run_pure, Result.andThen]
  rw [Lib.cmp_eq]
  rfl
theorem equal_any (va vb : Value) (a b : List UInt8) (w : World) (ha : Reads w va a) (hb : Reads w vb b) :
    Calls Tryz.prog 72 #[va, vb] w fun e w' => e = .returned (.bool (decide (a = b))) ∧ w' = w := by
  have h1 := reads_text ha
  have h2 := reads_text hb
  obtain ⟨a1, c1, rfl, _⟩ := ha.form
  obtain ⟨a2, c2, rfl, _⟩ := hb.form
  go_enter Tryz.func72, Tryz.ntmps72
  go_wp2_with fail
  go_ret
  exact ⟨congrArg (fun x => Ending.returned (Value.bool x)) (by rw [Bool.eq_iff_iff]; simp), rfl⟩
end Go.Proofs.YtilbffgpniomcaaGreatDoor

/- manifest: pointed, replayed. -/
namespace Go.Proofs.YtilbffgpniomcaaGreatDoor
open Go.RowKit Go.Shelf

/-- A slice of slices of bytes. -/
def DsR (w : World) (v : Value) (ds : List (List UInt8)) : Prop :=
  ∃ a cap, v = .slice a ds.length cap ∧ ds.length ≤ maxLen ∧ ∀ j (hj : j < ds.length), ∃ g u, a = some ⟨g, 0, none⟩ ∧ g < w.heap.size ∧ w.cell? ⟨g, j, none⟩ = some u ∧ Reads w u ds[j]
theorem DsR.form {w : World} {v : Value} {ds : List (List UInt8)} (h : DsR w v ds) : ∃ a cap, v = .slice a ds.length cap ∧ ds.length ≤ maxLen := by
  obtain ⟨a, cap, h1, h2, _⟩ := h
  exact ⟨a, cap, h1, h2⟩
theorem DsR.at {w : World} {a : Option Addr} {n cap : Nat} {ds : List (List UInt8)} (h : DsR w (.slice a n cap) ds) {j : Nat} (hj : j < ds.length) {d : List UInt8} (hd : d = ds[j]) : ∃ g u, a = some ⟨g, 0, none⟩ ∧ g < w.heap.size ∧ w.cell? ⟨g, j, none⟩ = some u ∧ Reads w u d := by
  subst hd
  obtain ⟨a', cap', e, _, h3⟩ := h
  cases e
  exact h3 j hj
theorem DsR.below {w w' : World} {v : Value} {ds : List (List UInt8)} (h : DsR w v ds) (hb : Below w.heap.size w w') : DsR w' v ds := by
  obtain ⟨a, cap, h1, h2, h3⟩ := h
  refine ⟨a, cap, h1, h2, fun j hj => ?_⟩
  obtain ⟨g, u, q1, q2, q3, q4⟩ := h3 j hj
  exact ⟨g, u, q1, Nat.lt_of_lt_of_le q2 hb.size, (hb.cell (p := ⟨g, j, none⟩) q2).trans q3, q4.below hb⟩
theorem row_formS {w : World} {base n size : Nat} {e : TypeId} {v : Value} {xs : List Value} (h : w.ownsRow base e size v n xs) : ∃ a c, v = .slice a n c := by
  rcases h.2 with ⟨h1, h2⟩ | ⟨g, cap, cur, h1, _⟩
  · exact ⟨none, 0, by rw [h1, h2]⟩
  · exact ⟨_, cap, h1⟩
theorem dsr_of {w : World} {base : Nat} {vl : Value} {xs : List Fr} (h : w.ownsRow base 22 1 vl xs.length (xs.map Fr.v)) (hx : ∀ x ∈ xs, Own w base x.v x.D) : DsR w vl (xs.map Fr.D) := by
  have h' : w.ownsRow base 22 1 vl (xs.map Fr.v).length (xs.map Fr.v) := by rw [List.length_map]; exact h
  rcases Nat.eq_zero_or_pos xs.length with h0 | h0
  · obtain ⟨a, c, hv⟩ := row_formS h
    have : xs = [] := List.length_eq_zero_iff.1 h0
    subst this
    exact ⟨a, c, hv, Nat.zero_le _, fun j hj => by simp at hj⟩
  · obtain ⟨g, cap, hv, _, hg, hc⟩ := row_at h' (by simpa using h0)
    have hm : xs.length ≤ maxLen := by
      rcases h.2 with ⟨_, q⟩ | ⟨g', cap', cur, _, _, _, q1, q2, _⟩
      · rw [q]; exact Nat.zero_le _
      · exact Nat.le_trans q1 q2
    refine ⟨_, cap, by simpa using hv, by simpa using hm, fun j hj => ?_⟩
    simp only [List.length_map] at hj
    refine ⟨g, xs[j].v, rfl, hg, by have := hc j (by simpa using hj); simpa using this, ?_⟩
    have := (hx xs[j] (List.getElem_mem hj)).reads
    simpa using this
theorem fm_of {xs : List Fr} {bs : List UInt8} (h : xs.map Fr.p = alF (bs.length + 1) bs) : xs.map Fr.D = fmS bs := by
  unfold fmS
  rw [← h, List.map_map]
  rfl
theorem jr_one (w : World) (n : Int) : JR (w.alloc (.cells #[.int .i64 n] 2)) (.slice (some ⟨w.heap.size, 0, none⟩) 1 1) [n] :=
  ⟨_, 1, rfl, by simp [maxLen], fun j hj => by
    have : j = 0 := by simp at hj; omega
    subst this
    exact ⟨w.heap.size, 0, rfl, by simp, (cellB (heap_alloc_new w _)).1⟩⟩
theorem shB_one (n : Int) : shB [n] = sh n.toNat := by unfold shB; simp
def PtP (b : List UInt8) (w : World) (e : Ending) (w' : World) : Prop := ∃ n ok, e = .returned (.tuple #[.int .i64 n, .bool ok]) ∧ ok = (ptF b).isSome ∧ (∀ v, ptF b = some v → n = v) ∧ Below w.heap.size w w'
set_option maxRecDepth 100000 in
set_option maxHeartbeats 1000000 in
theorem pointed_any (bv : Value) (b : List UInt8) (w : World) (h : Reads w bv b) : Calls Tryz.prog 37 #[bv] w (PtP b w) := by
  obtain ⟨ba, bcp, rfl, _⟩ := h.form
  have HRd : Hid (Reads w (.slice ba b.length bcp) b) := h
  obtain ⟨BL, HBL⟩ := hid_ex b.length
  rw [← HBL.out] at HRd ⊢
  clear h
  have HN := next_any _ b w HRd.out
  obtain ⟨D, HD⟩ := hid_ex (nxF b).1
  obtain ⟨K, HK⟩ := hid_ex (nxF b).2.1
  obtain ⟨E, HE⟩ := hid_ex (nxF b).2.2
  rw [← HD.out, ← HK.out, ← HE.out] at HN
  have HN' : Hid (Calls Tryz.prog 69 #[.slice ba BL bcp] w _) := HN
  clear HN
  go_enter Tryz.func37, Tryz.ntmps37
  go_wp2_with fail
  refine HN'.out.mono ?_
  rintro e w1 ⟨vd, rfl, hod, hb1⟩
  have HS := readShort_any vd D w1 hod.reads
  obtain ⟨da, dc, hvd, _⟩ := hod.form
  subst hvd
  obtain ⟨DL, HDL⟩ := hid_ex D.length
  rw [← HDL.out] at HS ⊢
  obtain ⟨V, HV⟩ := hid_ex (rsF D 0 0).1
  obtain ⟨U, HU⟩ := hid_ex (rsF D 0 0).2.1
  obtain ⟨E2, HE2⟩ := hid_ex (rsF D 0 0).2.2
  rw [← HV.out, ← HU.out, ← HE2.out] at HS
  have HS' : Hid (Calls Tryz.prog 70 #[.slice da DL dc] w1 _) := HS
  have HB1 : Hid (Below w.heap.size w w1) := hb1
  have HP : Hid (ptF b = if 1 ≤ V ∧ V ≤ 1099511627776 ∧ frm (sh V) = b then some (V : Int) else none) := by unfold Hid ptF; rw [← HD.out, ← HV.out]
  clear hod hb1 HS HN'
  go_wp2_with fail
  refine HS'.out.mono ?_
  rintro e w2 ⟨rfl, hb2⟩
  have HB2 : Hid (Below w.heap.size w w2) := HB1.out.trans (hb2.mono HB1.out.size)
  clear hb2 HS' HB1 HV HU HE2 HD HK HE HDL
  by_cases h1 : V < 1
  · have h1' : (V : Int) < 1 := by omega
    have HQ : Hid (ptF b = none) := by unfold Hid; rw [HP.out, if_neg (by omega)]
    go_wp2_with fail
    go_ret2
    exact ⟨0, false, rfl, by rw [HQ.out]; rfl, (fun v e => by rw [HQ.out] at e; cases e), HB2.out⟩
  · have h1' : ¬ (V : Int) < 1 := by omega
    by_cases h2 : 1099511627776 < V
    · have h2' : (1099511627776 : Int) < (V : Int) := by omega
      have HQ : Hid (ptF b = none) := by unfold Hid; rw [HP.out, if_neg (by omega)]
      go_wp2_with fail
      go_ret2
      exact ⟨0, false, rfl, by rw [HQ.out]; rfl, (fun v e => by rw [HQ.out] at e; cases e), HB2.out⟩
    · have h2' : ¬ (1099511627776 : Int) < (V : Int) := by omega
      have d2' : decide ((1099511627776 : Int) < (V : Int)) = false := decide_eq_false h2'
      have hw : IntKind.i64.wrap (V : Int) = (V : Int) := Go.IntWalk.i64_in _ (by omega)
      have HS := short13_any (.slice (some ⟨w2.heap.size, 0, none⟩) 1 1) [(V : Int)] (by simp) (fun x hx => by simp only [List.mem_singleton] at hx; omega) (w2.alloc (.cells #[.int .i64 (V : Int)] 2)) (jr_one w2 V)
      rw [shB_one, Int.toNat_natCast] at HS
      have HS' : Hid (Calls Tryz.prog 47 #[.slice (some ⟨w2.heap.size, 0, none⟩) 1 1] (w2.alloc (.cells #[.int .i64 (V : Int)] 2)) _) := HS
      clear HS
      go_wp2_with fail
      refine HS'.out.mono ?_
      rintro e w3 ⟨v3, rfl, ho3, hb3⟩
      have HB3 : Hid (Below w.heap.size w w3) := (HB2.out.alloc HB2.out.size _).trans (hb3.mono (by have := HB2.out.size; simp; omega))
      have HFr := frame_any v3 (sh V) (by have := sh_len10 (n := V) (by omega); omega) w3 ho3.reads
      obtain ⟨a3, c3, hv3, _⟩ := ho3.form
      subst hv3
      obtain ⟨L3, HL3⟩ := hid_ex (sh V).length
      rw [← HL3.out] at HFr ⊢
      have HFr' : Hid (Calls Tryz.prog 71 #[.slice a3 L3 c3] w3 _) := HFr
      clear ho3 hb3 HFr HS'
      go_wp2_with fail
      refine HFr'.out.mono ?_
      rintro e w4 ⟨v4, rfl, ho4, hb4⟩
      have HB4 : Hid (Below w.heap.size w w4) := HB3.out.trans (hb4.mono HB3.out.size)
      have HEq := equal_any v4 (.slice ba BL bcp) (frm (sh V)) b w4 ho4.reads (HRd.out.below HB4.out)
      obtain ⟨a4, c4, hv4, _⟩ := ho4.form
      subst hv4
      obtain ⟨L4, HL4⟩ := hid_ex (frm (sh V)).length
      rw [← HL4.out] at HEq ⊢
      have HEq' : Hid (Calls Tryz.prog 72 #[.slice a4 L4 c4, .slice ba BL bcp] w4 _) := HEq
      clear ho4 hb4 HEq HFr'
      go_wp2_with fail
      refine HEq'.out.mono ?_
      rintro e w5 ⟨rfl, rfl⟩
      go_wp2_with fail
      go_ret2
      refine ⟨V, decide (frm (sh V) = b), rfl, ?_, fun v e => ?_, HB4.out⟩
      · rw [HP.out]
        by_cases hf : frm (sh V) = b
        · rw [if_pos ⟨by omega, by omega, hf⟩, decide_eq_true hf]; rfl
        · rw [if_neg (fun z => hf z.2.2), decide_eq_false hf]; rfl
      · rw [HP.out] at e
        split at e
        · simpa using e
        · cases e
end Go.Proofs.YtilbffgpniomcaaGreatDoor
