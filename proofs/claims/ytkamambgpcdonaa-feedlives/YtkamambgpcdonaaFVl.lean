/- FeedLives' walk. -/
import Derived.Test.YtkamambgpcdonaaRF1
import Derived.Test.YtkamambgpcdonaaFOr1
import Derived.Test.YtkamambgpcdonaaRS
import Derived.Deep.RegionHeld3
namespace Go.Proofs.Ytkamambgpcdonaa
open Go.RowKit Go.Conc

theorem putGa (v : Int) (u : Bool) (w : World) {base N n : Nat} {p : Value} {U O : List Int} {cl : Bool} (h : FdG w base N p n U O cl) :
    Calls Try.prog 10 #[p, .int .i64 v, .bool u] w fun e w' => e = .returned (.int .i64 (puE n U O cl u)) ∧ FdG w' base N p n (puU n U cl u v) (puO n O cl u v) cl ∧ Below base w w' ∧ Sd N w w' := by
  cases cl with
  | false => exact putG v u w h
  | true =>
    obtain ⟨g, cu, co, su, ru, so, ro, rfl, hf, l1, l2, l3⟩ := h
    refine (put_shut v u w hf).mono ?_
    rintro e w' ⟨rfl, rfl⟩
    refine ⟨by simp [puE], ⟨g, cu, co, su, ru, so, ro, rfl, ?_, l1, l2, l3⟩, Below.refl _ _, Sd.refl _ _⟩
    simpa [puU, puO] using hf
theorem closeG (w : World) {base N n : Nat} {p : Value} {U O : List Int} {cl : Bool} (h : FdG w base N p n U O cl) :
    Calls Try.prog 14 #[p] w fun e w' => e = .returned (.int .i64 (clE cl)) ∧ FdG w' base N p n U O true ∧ Below base w w' ∧ Sd N w w' := by
  obtain ⟨g, cu, co, su, ru, so, ro, rfl, hf, l1, l2, l3⟩ := h
  cases cl with
  | true =>
    refine (close_shut w hf).mono ?_
    rintro e w' ⟨rfl, rfl⟩
    exact ⟨rfl, ⟨g, cu, co, su, ru, so, ro, rfl, hf, l1, l2, l3⟩, Below.refl _ _, Sd.refl _ _⟩
  | false =>
    refine (close_open w hf).mono ?_
    rintro e w' ⟨rfl, rfl⟩
    exact ⟨rfl, ⟨g, cu, co, su, ru, so, ro, rfl, hf.shut true, l1, l2, l3⟩, (Below.refl _ _).setCell hf.g0 _, ⟨fun k hk => Below.heap_setCell _ _ _ _ (by simp; omega), by simp [World.setCell]⟩⟩
/-- Both feeds. -/
structure FV (w wr : World) (N M : Nat) (p q : Value) (n : Nat) (U O : List Int) (cl : Bool) : Prop where
  fd : FdG wr w.heap.size N p n U O cl
  rf : RFx wr N M q n U O cl
  nm : N ≤ M
  mw : M ≤ wr.heap.size
  wn : w.heap.size ≤ N
  bl : Below w.heap.size w wr
theorem FV.below {w wr w' : World} {N M n : Nat} {p q : Value} {U O : List Int} {cl : Bool} (h : FV w wr N M p q n U O cl) (hb : Below wr.heap.size wr w') : FV w w' N M p q n U O cl := by
  have h1 := h.nm
  have h2 := h.mw
  exact ⟨h.fd.kept (fun k hk => hb.block k (by omega)), h.rf.kept (Nat.le_refl _) (fun k _ hk => hb.block k (by omega)), h1, Nat.le_trans h2 hb.size, h.wn, h.bl.trans (hb.mono h.bl.size)⟩
/-- Behind a call of the feed, and then the same of the reference. -/
theorem FV.both {w wr w3 w4 : World} {N M n : Nat} {p q : Value} {U O U' O' : List Int} {cl cl' : Bool} (h : FV w wr N M p q n U O cl) (h3 : FdG w3 w.heap.size N p n U' O' cl') (hb3 : Below w.heap.size wr w3) (hs3 : Sd N wr w3)
    (h4 : RFx w4 N w4.heap.size q n U' O' cl') (h5 : RfL w3 w4 N M) : FV w w4 N w4.heap.size p q n U' O' cl' := by
  have h1 := h.nm
  have h2 := h.mw
  have hw := h.wn
  have hz := h5.bl.size
  have hz3 := hs3.size
  exact ⟨h3.kept (fun k hk => h5.bl.block k hk), h4, by omega, Nat.le_refl _, hw, (h.bl.trans hb3).trans (h5.bl.mono hw)⟩
theorem FV.ref {w wr w3 : World} {N M n : Nat} {p q : Value} {U O : List Int} {cl : Bool} (h : FV w wr N M p q n U O cl) (hs3 : Sd N wr w3) : RFx w3 N M q n U O cl ∧ M ≤ w3.heap.size :=
  ⟨h.rf.kept (Nat.le_refl _) (fun k hk _ => hs3.blk k hk), by rw [hs3.size]; exact h.mw⟩
set_option maxRecDepth 100000 in
set_option maxHeartbeats 8000000 in
theorem feedLives_walk (x : Int) (v : Value) (L : List Fop) (w : World) (hR : OReads w v L) : Calls Try.prog 3 #[.int .i64 x, v] w fun e w' => e = .returned (.bool true) ∧ Below w.heap.size w w' := by
  have HR : Hid (OReads w v L) := hR
  obtain ⟨a, cap, rfl, hl1, hl2⟩ := hR.form
  clear hR
  unfold maxLen at hl2
  by_cases hx : x < 1 ∨ 64 < x
  · go_enter Try.func3, Try.ntmps3
    go_wp2_with fail
    refine (fault_new _ _ hx).mono ?_
    rintro e w' ⟨rfl, rfl⟩
    go_wp2_with fail
    refine (rnew_fault _ _ hx).mono ?_
    rintro e w' ⟨rfl, rfl⟩
    clear hx
    go_wp2_with fail
    go_loopw [9] (fun i wr => i = .int .i64 0 ∧ wr = w') (fun _ _ => 0)
    case atStart => exact ⟨rfl, rfl⟩
    case round =>
      obtain ⟨rfl, rfl⟩ := hrel
      by_cases hz : L.length = 0
      · have hz1 : ¬ (0 : Int) < (L.length : Int) := by omega
        go_wp2_with fail
        refine (alive_any _).mono ?_
        rintro e w2 ⟨rfl, hb2⟩
        go_wp2_with fail
        go_ret
        exact ⟨rfl, hb2⟩
      · have hz1 : (0 : Int) < (L.length : Int) := by omega
        go_wp2_with fail
        refine (alive_any _).mono ?_
        rintro e w2 ⟨rfl, hb2⟩
        go_wp2_with fail
        go_ret
        exact ⟨rfl, hb2⟩
  · obtain ⟨n, rfl⟩ : ∃ n : Nat, x = (n : Int) := ⟨x.toNat, by omega⟩
    have h1 : 1 ≤ n := by omega
    have h64 : n ≤ 64 := by omega
    clear hx
    go_enter Try.func3, Try.ntmps3
    go_wp2_with fail
    refine (new_any n _ h1 h64).mono ?_
    rintro e w1 ⟨p, rfl, hf, hb⟩
    obtain ⟨g, rfl⟩ := hf.ptr
    have HF := (show Hid _ from hf)
    have HB1 := (show Hid _ from hb)
    clear hf hb
    go_wp2_with fail
    refine (rnew_any n _ h1 h64).mono ?_
    rintro e w2 ⟨q, rfl, hq, hb⟩
    have HV0 : Hid (FV w w2 w1.heap.size w2.heap.size (.pointer (some ⟨g, 0, none⟩)) q n [] [] false) := ⟨(FdG.of HF.out).kept (fun k hk => hb.block k hk), hq, hb.size, Nat.le_refl _, HB1.out.size, HB1.out.trans (hb.mono HB1.out.size)⟩
    obtain ⟨gp, _, _, rfl, _⟩ := hq
    clear hb HF
    obtain ⟨N, HN⟩ := hid_exr w1.heap.size
    rw [← HN.out] at HV0
    clear HN
    go_wp2_with fail
    go_loopw [9] (fun i wr => ∃ (k M : Nat) (U O : List Int) (cl : Bool), k ≤ L.length ∧ i = .int .i64 (k : Int) ∧ Hid (FV w wr N M (.pointer (some ⟨g, 0, none⟩)) (.pointer (some ⟨gp, 0, none⟩)) n U O cl)) (fun i _ => L.length - (intOf i).toNat)
    case atStart => exact ⟨0, _, _, _, _, by omega, rfl, HV0.out⟩
    case round =>
      clear HV0
      obtain ⟨k, M, U, O, cl, hk, rfl, HV⟩ := hrel
      by_cases hlt : k < L.length ∧ k < 300
      · obtain ⟨hlt, h300⟩ := hlt
        have h300' : (k : Int) < 300 := by omega
        obtain ⟨r, Hr⟩ := hid_exr (L[k]'hlt)
        obtain ⟨b, off, rfl, hbb⟩ := HR.out.ptr (by omega)
        obtain ⟨c0, c1, c2⟩ := (HR.out.below HV.out.bl).three hlt r Hr.out
        have hbr := HV.out.bl.size
        have hbl : b < wr.heap.size := by omega
        obtain ⟨rk, rv, ru⟩ := r
        simp only at c0 c1 c2
        by_cases hz : rk = 0
        · subst hz
          obtain ⟨wx, Hx⟩ := hid_exr (wr.alloc (.cells #[.int .i64 0, .int .i64 rv, .bool ru] 31))
          have HVx : Hid (FV w wx N M (.pointer (some ⟨g, 0, none⟩)) (.pointer (some ⟨gp, 0, none⟩)) n U O cl) := by rw [Hx.out]; exact HV.out.below ((Below.refl _ _).alloc (Nat.le_refl _) _)
          have hmr := HV.out.mw
          have hnm := HV.out.nm
          have hox : ∀ o, wx.cell? ⟨wr.heap.size, o, none⟩ = #[Value.int .i64 0, .int .i64 rv, .bool ru][o]? := by
            intro o
            have := heap_alloc_new wr (.cells #[.int .i64 0, .int .i64 rv, .bool ru] 31)
            rw [Hx.out]
            simp only [World.cell?]
            rw [this]
            rfl
          have hsx : wx.heap.size = wr.heap.size + 1 := by rw [Hx.out]; simp
          have HOX := (show Hid _ from hox)
          have HSX := (show Hid _ from hsx)
          clear hox hsx
          go_wp2_with fail
          rw [← Hx.out]
          clear c0 c1 c2 hbl HV Hx
          refine wp_region_noPanic ?_
          refine wp_region_held_drew (S := (fun w' => w'.cell? ⟨wr.heap.size, 1, none⟩ = some (.int .i64 rv) ∧ w'.cell? ⟨wr.heap.size, 2, none⟩ = some (.bool ru))) (by kernel_rfl) ?_ (fun hHeld => ?_)
          · exact ⟨HOX.out 1, HOX.out 2⟩
          refine wpAnyH_take (i := 0) (v := (.pointer (some ⟨g, 0, none⟩))) rfl (by kernel_rfl) (by kernel_rfl) (by kernel_rfl) (fun _ _ _ h => h) (Or.inl ⟨by rfl, ?_⟩) (by assumption) ?_
          · (intro w1 hSw; (try dsimp only at hSw); go_simp)
          simp only [List.getElem_toArray, List.getElem_cons_zero, Act.put, List.setIfInBounds_toArray, List.set_cons_zero, List.set_cons_succ]
          refine wpAnyH_take (i := 1) (v := (.pointer (some ⟨wr.heap.size, 1, none⟩))) rfl (by kernel_rfl) (by kernel_rfl) (by kernel_rfl) (fun _ _ _ h => h) (Or.inl ⟨by rfl, ?_⟩) (by assumption) ?_
          · (intro w1 hSw; (try dsimp only at hSw); go_simp)
          simp only [List.getElem_toArray, List.getElem_cons_succ, List.getElem_cons_zero, Act.put, List.setIfInBounds_toArray, List.set_cons_zero, List.set_cons_succ]
          refine wpAnyH_take (i := 2) (v := (.int .i64 rv)) rfl (by kernel_rfl) (by kernel_rfl) (by kernel_rfl) (fun _ _ _ h => h) (Or.inl ⟨by rfl, ?_⟩) (by assumption) ?_
          · (intro w1 hSw; (try dsimp only at hSw); go_simp)
          simp only [List.getElem_toArray, List.getElem_cons_succ, List.getElem_cons_zero, Act.put, List.setIfInBounds_toArray, List.set_cons_zero, List.set_cons_succ]
          refine wpAnyH_take (i := 3) (v := (.pointer (some ⟨wr.heap.size, 2, none⟩))) rfl (by kernel_rfl) (by kernel_rfl) (by kernel_rfl) (fun _ _ _ h => h) (Or.inl ⟨by rfl, ?_⟩) (by assumption) ?_
          · (intro w1 hSw; (try dsimp only at hSw); go_simp)
          simp only [List.getElem_toArray, List.getElem_cons_succ, List.getElem_cons_zero, Act.put, List.setIfInBounds_toArray, List.set_cons_zero, List.set_cons_succ]
          refine wpAnyH_take (i := 4) (v := (.bool ru)) rfl (by kernel_rfl) (by kernel_rfl) (by kernel_rfl) (fun _ _ _ h => h) (Or.inl ⟨by rfl, ?_⟩) (by assumption) ?_
          · (intro w1 hSw; (try dsimp only at hSw); go_simp)
          simp only [List.getElem_toArray, List.getElem_cons_succ, List.getElem_cons_zero, Act.put, List.setIfInBounds_toArray, List.set_cons_zero, List.set_cons_succ]
          refine wpAnyH_take (i := 6) (v := (.pointer (some ⟨gp, 0, none⟩))) rfl (by kernel_rfl) (by kernel_rfl) (by kernel_rfl) (fun _ _ _ h => h) (Or.inl ⟨by rfl, ?_⟩) (by assumption) ?_
          · (intro w1 hSw; (try dsimp only at hSw); go_simp)
          simp only [List.getElem_toArray, List.getElem_cons_succ, List.getElem_cons_zero, Act.put, List.setIfInBounds_toArray, List.set_cons_zero, List.set_cons_succ]
          refine wpAnyH_take (i := 7) (v := (.pointer (some ⟨wr.heap.size, 1, none⟩))) rfl (by kernel_rfl) (by kernel_rfl) (by kernel_rfl) (fun _ _ _ h => h) (Or.inl ⟨by rfl, ?_⟩) (by assumption) ?_
          · (intro w1 hSw; (try dsimp only at hSw); go_simp)
          simp only [List.getElem_toArray, List.getElem_cons_succ, List.getElem_cons_zero, Act.put, List.setIfInBounds_toArray, List.set_cons_zero, List.set_cons_succ]
          refine wpAnyH_take (i := 8) (v := (.int .i64 rv)) rfl (by kernel_rfl) (by kernel_rfl) (by kernel_rfl) (fun _ _ _ h => h) (Or.inl ⟨by rfl, ?_⟩) (by assumption) ?_
          · (intro w1 hSw; (try dsimp only at hSw); go_simp)
          simp only [List.getElem_toArray, List.getElem_cons_succ, List.getElem_cons_zero, Act.put, List.setIfInBounds_toArray, List.set_cons_zero, List.set_cons_succ]
          refine wpAnyH_take (i := 9) (v := (.pointer (some ⟨wr.heap.size, 2, none⟩))) rfl (by kernel_rfl) (by kernel_rfl) (by kernel_rfl) (fun _ _ _ h => h) (Or.inl ⟨by rfl, ?_⟩) (by assumption) ?_
          · (intro w1 hSw; (try dsimp only at hSw); go_simp)
          simp only [List.getElem_toArray, List.getElem_cons_succ, List.getElem_cons_zero, Act.put, List.setIfInBounds_toArray, List.set_cons_zero, List.set_cons_succ]
          refine wpAnyH_take (i := 10) (v := (.bool ru)) rfl (by kernel_rfl) (by kernel_rfl) (by kernel_rfl) (fun _ _ _ h => h) (Or.inl ⟨by rfl, ?_⟩) (by assumption) ?_
          · (intro w1 hSw; (try dsimp only at hSw); go_simp)
          simp only [List.getElem_toArray, List.getElem_cons_succ, List.getElem_cons_zero, Act.put, List.setIfInBounds_toArray, List.set_cons_zero, List.set_cons_succ]
          obtain ⟨wy, Hy⟩ := hid_exr wx.drew
          have HVy : Hid (FV w wy N M (.pointer (some ⟨g, 0, none⟩)) (.pointer (some ⟨gp, 0, none⟩)) n U O cl) := by rw [Hy.out]; exact HVx.out.below ⟨rfl, rfl, rfl, Nat.le_refl _, fun _ _ => rfl⟩
          have hsy : wr.heap.size < wy.heap.size := by rw [Hy.out]; show wr.heap.size < wx.heap.size; rw [HSX.out]; omega
          have HSY := (show Hid _ from hsy)
          rw [← Hy.out]
          rw [← Hy.out] at hHeld
          clear hsy HVx HOX HSX Hy
          have HLD := (show Hid _ from hHeld)
          refine wpAnyH_ready (rs := [5]) (by kernel_rfl) (by simp) ?_
          refine AllReadyH.cons (o := _) rfl (fun K hK => ?_) AllReadyH.nil
          go_simp
          refine (putGa rv ru _ HVy.out.fd).mono ?_
          rintro e w3 ⟨rfl, hf3, hb3, hs3⟩
          have HF3 := (show Hid _ from And.intro hf3 (And.intro hb3 hs3))
          clear hf3 hb3 hs3
          refine hK.out _ _ ?_ (fun hHeld => ?_)
          · exact ⟨(World.cell?_of_block (HF3.out.2.2.blk wr.heap.size (by omega))).trans HLD.out.1, (World.cell?_of_block (HF3.out.2.2.blk wr.heap.size (by omega))).trans HLD.out.2⟩
          clear hK K
          have HRr := (show Hid _ from HVy.out.ref HF3.out.2.2)
          refine wpAnyH_ready (rs := [11]) (by kernel_rfl) (by simp) ?_
          refine AllReadyH.cons (o := _) rfl (fun K hK => ?_) AllReadyH.nil
          go_simp
          refine (rput_any rv ru _ HRr.out.1 HRr.out.2).mono ?_
          rintro e w4 ⟨rfl, hf4, hl4⟩
          have HF4 := (show Hid _ from And.intro hf4 hl4)
          clear hf4 hl4
          refine hK.out _ _ ?_ (fun hHeld => ?_)
          · exact ⟨(World.cell?_of_block (HF4.out.2.hi wr.heap.size (by omega) (by rw [HF3.out.2.2.size]; exact HSY.out))).trans ((World.cell?_of_block (HF3.out.2.2.blk wr.heap.size (by omega))).trans HLD.out.1), (World.cell?_of_block (HF4.out.2.hi wr.heap.size (by omega) (by rw [HF3.out.2.2.size]; exact HSY.out))).trans ((World.cell?_of_block (HF3.out.2.2.blk wr.heap.size (by omega))).trans HLD.out.2)⟩
          clear hK K
          refine wpAnyH_take (i := 12) (v := (.bool false)) rfl (by kernel_rfl) (by kernel_rfl) (by kernel_rfl) (fun _ _ _ h => h) (Or.inl ⟨by rfl, ?_⟩) (by assumption) ?_
          · (intro w1 hSw; (try dsimp only at hSw); go_simp)
          simp only [List.getElem_toArray, List.getElem_cons_succ, List.getElem_cons_zero, Act.put, List.setIfInBounds_toArray, List.set_cons_zero, List.set_cons_succ]
          refine wpAnyH_done (by kernel_rfl) ?_ _
          refine NoPanic.normal ?_
          have HV4 : Hid (FV w w4 N w4.heap.size (.pointer (some ⟨g, 0, none⟩)) (.pointer (some ⟨gp, 0, none⟩)) n (puU n U cl ru rv) (puO n O cl ru rv) cl) := HVy.out.both HF3.out.1 HF3.out.2.1 HF3.out.2.2 HF4.out.1 HF4.out.2
          clear HF3 HF4 HRr HVy HLD hHeld
          go_wp2_with fail
          obtain ⟨lu, Hlu⟩ := hid_exr (puU n U cl ru rv).length
          obtain ⟨lo, Hlo⟩ := hid_exr (puO n O cl ru rv).length
          have hlu : lu ≤ 64 := by rw [Hlu.out]; obtain ⟨_, _, _, _, q⟩ := HV4.out.rf; have := q.lu; have := q.n64; omega
          have hlo : lo ≤ 64 := by rw [Hlo.out]; obtain ⟨_, _, _, _, q⟩ := HV4.out.rf; have := q.lo; have := q.n64; omega
          refine (len_any _ HV4.out.fd.fd).mono ?_
          rintro e w6 ⟨rfl, hf6, hb6⟩
          have HV6 := (show Hid _ from HV4.out.below hb6)
          obtain ⟨gp', v1, v2, eq, hrf⟩ := HV6.out.rf
          cases eq
          obtain ⟨_, q1, q2, _, _⟩ := hrf.cells
          obtain ⟨a1, k1, e1⟩ := hrf.r1.form
          obtain ⟨a2, k2, e2⟩ := hrf.r2.form
          rw [e1, ← Hlu.out] at q1
          rw [e2, ← Hlo.out] at q2
          rw [← Hlu.out, ← Hlo.out]
          clear hf6 hb6 e1 e2 hrf
          go_wp2_with fail
          go_roundw
          case rel => exact ⟨k + 1, _, _, _, _, by omega, by go_num, HV6.out⟩
          case measure => simp [intOf]; omega
        · have hz0 : (rk == 0) = false := by simpa using hz
          clear hz
          by_cases hz : rk = 1
          · subst hz
            obtain ⟨wx, Hx⟩ := hid_exr (wr.alloc (.cells #[.int .i64 1, .int .i64 rv, .bool ru] 31))
            have HVx : Hid (FV w wx N M (.pointer (some ⟨g, 0, none⟩)) (.pointer (some ⟨gp, 0, none⟩)) n U O cl) := by rw [Hx.out]; exact HV.out.below ((Below.refl _ _).alloc (Nat.le_refl _) _)
            have hmr := HV.out.mw
            have hnm := HV.out.nm
            clear HV
            go_wp2_with fail
            rw [← Hx.out]
            clear c0 c1 c2 hbl
            refine (takeG _ HVx.out.fd).mono ?_
            rintro e w3 ⟨rfl, hf3, hb3, hs3⟩
            have HF3 := (show Hid _ from And.intro hf3 (And.intro hb3 hs3))
            clear hf3 hb3 hs3
            have HRr := (show Hid _ from HVx.out.ref HF3.out.2.2)
            go_wp2_with fail
            refine (rtake_any _ HRr.out.1 HRr.out.2).mono ?_
            rintro e w4 ⟨rfl, hf4, hl4⟩
            have HV4 : Hid (FV w w4 N w4.heap.size (.pointer (some ⟨g, 0, none⟩)) (.pointer (some ⟨gp, 0, none⟩)) n U.tail (tkO U O) cl) := HVx.out.both HF3.out.1 HF3.out.2.1 HF3.out.2.2 hf4 hl4
            clear HF3 hf4 hl4 HRr HVx
            go_wp2_with fail
            obtain ⟨lu, Hlu⟩ := hid_exr (U.tail).length
            obtain ⟨lo, Hlo⟩ := hid_exr (tkO U O).length
            have hlu : lu ≤ 64 := by rw [Hlu.out]; obtain ⟨_, _, _, _, q⟩ := HV4.out.rf; have := q.lu; have := q.n64; omega
            have hlo : lo ≤ 64 := by rw [Hlo.out]; obtain ⟨_, _, _, _, q⟩ := HV4.out.rf; have := q.lo; have := q.n64; omega
            refine (len_any _ HV4.out.fd.fd).mono ?_
            rintro e w6 ⟨rfl, hf6, hb6⟩
            have HV6 := (show Hid _ from HV4.out.below hb6)
            obtain ⟨gp', v1, v2, eq, hrf⟩ := HV6.out.rf
            cases eq
            obtain ⟨_, q1, q2, _, _⟩ := hrf.cells
            obtain ⟨a1, k1, e1⟩ := hrf.r1.form
            obtain ⟨a2, k2, e2⟩ := hrf.r2.form
            rw [e1, ← Hlu.out] at q1
            rw [e2, ← Hlo.out] at q2
            rw [← Hlu.out, ← Hlo.out]
            clear hf6 hb6 e1 e2 hrf
            go_wp2_with fail
            go_roundw
            case rel => exact ⟨k + 1, _, _, _, _, by omega, by go_num, HV6.out⟩
            case measure => simp [intOf]; omega
          · have hz1 : (rk == 1) = false := by simpa using hz
            clear hz
            by_cases hz : rk = 2
            · subst hz
              obtain ⟨wx, Hx⟩ := hid_exr (wr.alloc (.cells #[.int .i64 2, .int .i64 rv, .bool ru] 31))
              have HVx : Hid (FV w wx N M (.pointer (some ⟨g, 0, none⟩)) (.pointer (some ⟨gp, 0, none⟩)) n U O cl) := by rw [Hx.out]; exact HV.out.below ((Below.refl _ _).alloc (Nat.le_refl _) _)
              have hmr := HV.out.mw
              have hnm := HV.out.nm
              clear HV
              go_wp2_with fail
              rw [← Hx.out]
              clear c0 c1 c2 hbl
              refine (closeG _ HVx.out.fd).mono ?_
              rintro e w3 ⟨rfl, hf3, hb3, hs3⟩
              have HF3 := (show Hid _ from And.intro hf3 (And.intro hb3 hs3))
              clear hf3 hb3 hs3
              have HRr := (show Hid _ from HVx.out.ref HF3.out.2.2)
              go_wp2_with fail
              refine (rclose_any _ HRr.out.1 HRr.out.2).mono ?_
              rintro e w4 ⟨rfl, hf4, hl4⟩
              have HV4 : Hid (FV w w4 N w4.heap.size (.pointer (some ⟨g, 0, none⟩)) (.pointer (some ⟨gp, 0, none⟩)) n U O true) := HVx.out.both HF3.out.1 HF3.out.2.1 HF3.out.2.2 hf4 hl4
              clear HF3 hf4 hl4 HRr HVx
              go_wp2_with fail
              obtain ⟨lu, Hlu⟩ := hid_exr (U).length
              obtain ⟨lo, Hlo⟩ := hid_exr (O).length
              have hlu : lu ≤ 64 := by rw [Hlu.out]; obtain ⟨_, _, _, _, q⟩ := HV4.out.rf; have := q.lu; have := q.n64; omega
              have hlo : lo ≤ 64 := by rw [Hlo.out]; obtain ⟨_, _, _, _, q⟩ := HV4.out.rf; have := q.lo; have := q.n64; omega
              refine (len_any _ HV4.out.fd.fd).mono ?_
              rintro e w6 ⟨rfl, hf6, hb6⟩
              have HV6 := (show Hid _ from HV4.out.below hb6)
              obtain ⟨gp', v1, v2, eq, hrf⟩ := HV6.out.rf
              cases eq
              obtain ⟨_, q1, q2, _, _⟩ := hrf.cells
              obtain ⟨a1, k1, e1⟩ := hrf.r1.form
              obtain ⟨a2, k2, e2⟩ := hrf.r2.form
              rw [e1, ← Hlu.out] at q1
              rw [e2, ← Hlo.out] at q2
              rw [← Hlu.out, ← Hlo.out]
              clear hf6 hb6 e1 e2 hrf
              go_wp2_with fail
              go_roundw
              case rel => exact ⟨k + 1, _, _, _, _, by omega, by go_num, HV6.out⟩
              case measure => simp [intOf]; omega
            · have hz2 : (rk == 2) = false := by simpa using hz
              clear hz
              obtain ⟨wx, Hx⟩ := hid_exr (wr.alloc (.cells #[.int .i64 rk, .int .i64 rv, .bool ru] 31))
              have HVx : Hid (FV w wx N M (.pointer (some ⟨g, 0, none⟩)) (.pointer (some ⟨gp, 0, none⟩)) n U O cl) := by rw [Hx.out]; exact HV.out.below ((Below.refl _ _).alloc (Nat.le_refl _) _)
              have hmr := HV.out.mw
              have hnm := HV.out.nm
              clear HV
              go_wp2_with fail
              rw [← Hx.out]
              clear c0 c1 c2 hbl
              obtain ⟨lu, Hlu⟩ := hid_exr (U).length
              obtain ⟨lo, Hlo⟩ := hid_exr (O).length
              have hlu : lu ≤ 64 := by rw [Hlu.out]; obtain ⟨_, _, _, _, q⟩ := HVx.out.rf; have := q.lu; have := q.n64; omega
              have hlo : lo ≤ 64 := by rw [Hlo.out]; obtain ⟨_, _, _, _, q⟩ := HVx.out.rf; have := q.lo; have := q.n64; omega
              refine (len_any _ HVx.out.fd.fd).mono ?_
              rintro e w6 ⟨rfl, hf6, hb6⟩
              have HV6 := (show Hid _ from HVx.out.below hb6)
              obtain ⟨gp', v1, v2, eq, hrf⟩ := HV6.out.rf
              cases eq
              obtain ⟨_, q1, q2, _, _⟩ := hrf.cells
              obtain ⟨a1, k1, e1⟩ := hrf.r1.form
              obtain ⟨a2, k2, e2⟩ := hrf.r2.form
              rw [e1, ← Hlu.out] at q1
              rw [e2, ← Hlo.out] at q2
              rw [← Hlu.out, ← Hlo.out]
              clear hf6 hb6 e1 e2 hrf
              go_wp2_with fail
              go_roundw
              case rel => exact ⟨k + 1, _, _, _, _, by omega, by go_num, HV6.out⟩
              case measure => simp [intOf]; omega
      · have hend : (k < L.length ∧ ¬ (k : Int) < 300) ∨ ¬ k < L.length := by omega
        clear hlt
        rcases hend with ⟨hlt, h300⟩ | hlt
        all_goals
          go_wp2_with fail
          refine (alive_any _).mono ?_
          rintro e w7 ⟨rfl, hb2⟩
          have HB7 : Hid (Below w.heap.size w w7) := HV.out.bl.trans (hb2.mono HV.out.bl.size)
          clear hb2
          go_wp2_with fail
          go_ret
          exact ⟨rfl, HB7.out⟩
end Go.Proofs.Ytkamambgpcdonaa
