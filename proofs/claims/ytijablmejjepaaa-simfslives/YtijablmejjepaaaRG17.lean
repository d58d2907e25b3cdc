/- The document's file system: what is pending is settled; SyncDir. -/
import Derived.Test.YtijablmejjepaaaRG16
namespace Go.Proofs.Ytijablmejjepaaa
open Go.RowKit Go.Maps Go.Sort

theorem flat3a : ∀ (l : List SfA) (j : Nat) (hj : j < l.length) (i : Nat), i < 3 → (l.flatMap acV)[j * 3 + i]? = (acV l[j])[i]?
  | a :: l, 0, _, i, hi => by
    rw [List.flatMap_cons, List.getElem?_append_left (by simp [acV]; omega)]
    simp
  | a :: l, j + 1, hj, i, hi => by
    rw [List.flatMap_cons, List.getElem?_append_right (by simp [acV]; omega)]
    have := flat3a l j (by simpa using hj) i hi
    rw [show (j + 1) * 3 + i - (acV a).length = j * 3 + i by simp [acV]; omega, this]
    simp
theorem act_at {w : World} {q n cap : Nat} {l : List SfA} (h : GOwn w 82 3 (.slice (some ⟨q, 0, none⟩) n cap) l.length (l.flatMap acV)) (j : Nat) (hj : j < l.length) : w.cell? ⟨q, j * 3, none⟩ = some (.string ⟨(l[j]).gone.toArray⟩) ∧ w.cell? ⟨q, j * 3 + 1, none⟩ = some (.string ⟨(l[j]).name.toArray⟩) ∧ w.cell? ⟨q, j * 3 + 2, none⟩ = some (.int .i64 (rfN (l[j]).file)) := by
  have key : ∀ i u, i < 3 → (acV l[j])[i]? = some u → w.cell? ⟨q, j * 3 + i, none⟩ = some u := fun i u hi hu => by
    have := GOwn.cells h (g := q) rfl (j * 3 + i) u (by rw [flat3a l j hj i hi]; exact hu)
    have ea : (⟨q, 0, none⟩ : Addr).add (j * 3 + i) = ⟨q, j * 3 + i, none⟩ := by simp [Addr.add]; omega
    rw [ea] at this
    exact this
  exact ⟨key 0 _ (by decide) rfl, key 1 _ (by decide) rfl, key 2 _ (by decide) rfl⟩
def sfOld (s : SfS) (j : Nat) : SfS := { s with old := (s.pend.take j).foldl sfDo s.old }
theorem old_succ {s : SfS} {j : Nat} (hj : j < s.pend.length) : (s.pend.take (j + 1)).foldl sfDo s.old = sfDo ((s.pend.take j).foldl sfDo s.old) s.pend[j] := by
  rw [List.take_add_one, List.getElem?_eq_getElem hj, List.foldl_append]
  rfl
set_option maxRecDepth 100000 in
set_option maxHeartbeats 8000000 in
theorem refSettle_any {w : World} {O : Nat → Prop} {g : Nat} {vf vd vo vp : Value} {af ee : Int} {fb : Nat → Nat} {va vb : Nat → Value} {s : SfS} (h : RfAt w O g vf vd vo vp af ee fb va vb s) (hw : SfWf s) (n : Int) (hpn : s.pend.length < 1000000) :
    Calls Try.prog 45 #[.pointer (some ⟨g, 0, none⟩), .int .i64 n] w fun e w' => (∃ u, e = .returned u) ∧ (∃ vo', RfAt w' (Grw O w w') g vf vd vo' (.slice none 0 0) af ee fb va vb (sfSettle s (max n 0).toNat)) ∧ Onl O w w' := by
  have HLt : Hid (∀ k, O k → k < w.heap.size) := h.lt
  have HLn : Hid (∀ j, ((s.pend.take j).foldl sfDo s.old).length < 1000000) := fun j => by have := hw.ln j; omega
  have HR : Hid (RfAt w O g vf vd vo vp af ee fb va vb s) := h
  obtain ⟨pa, pc, hvp, _⟩ := GOwn.form h.hp
  obtain ⟨PL, HPL⟩ : ∃ n, Hid (s.pend.length = n) := ⟨_, rfl⟩
  rw [HPL.out] at hvp hpn
  subst hvp
  have HR0 : Hid (RfAt w (Grw O w w) g vf vd vo (.slice pa PL pc) af ee fb va vb (sfOld s 0)) := h.wider (fun k q => .inl q) (Grw.lt h.lt (Nat.le_refl _))
  clear h hw
  go_enter Try.func45, Try.ntmps45
  go_wp2_with fail
  go_loopw [4] (fun i wr => ∃ (j : Nat), i = .int .i64 (j : Int) ∧ j ≤ PL ∧ j ≤ (max n 0).toNat ∧ Hid (∃ vo', RfAt wr (Grw O w wr) g vf vd vo' (.slice pa PL pc) af ee fb va vb (sfOld s j)) ∧ Hid (Onl O w wr)) (fun i _ => PL - (intOf i).toNat)
  case atStart => exact ⟨0, rfl, by omega, by omega, ⟨_, HR0.out⟩, Onl.refl _ _⟩
  case round =>
    obtain ⟨j, rfl, hj, hjn, HRx, HO⟩ := hrel
    obtain ⟨vo1, hr1⟩ := HRx.out
    have HR1 : Hid (RfAt wr (Grw O w wr) g vf vd vo1 (.slice pa PL pc) af ee fb va vb (sfOld s j)) := hr1
    obtain ⟨k1, k2, k3, k4, _⟩ := hr1.c1
    have hgl : g < wr.heap.size := hr1.lt g hr1.og
    clear hr1 HRx
    by_cases hlt : j < PL
    · have hlt' : (j : Int) < (PL : Int) := by omega
      by_cases hn : (j : Int) < n
      · have hjp : j < s.pend.length := by rw [HPL.out]; exact hlt
        obtain ⟨a, Ha⟩ := hid_ex s.pend[j]
        have HSt : Hid ((s.pend.take (j + 1)).foldl sfDo s.old = sfDo ((s.pend.take j).foldl sfDo s.old) a) := by unfold Hid; rw [Ha.out]; exact old_succ hjp
        have hhp : GOwn wr 82 3 (.slice pa PL pc) s.pend.length (s.pend.flatMap acV) := HR1.out.hp
        cases pa with
        | none =>
          obtain ⟨a', cap', e, _, _, _, h4⟩ := GOwn.form hhp
          simp only [Value.slice.injEq] at e
          have := (h4 e.1.symm).1
          omega
        | some p =>
          obtain ⟨p, rfl⟩ : ∃ b : Nat, p = ⟨b, 0, none⟩ := by
            obtain ⟨a', cap', e, _, _, h3, _⟩ := GOwn.form hhp
            simp only [Value.slice.injEq] at e
            exact ⟨_, h3 p e.1.symm⟩
          obtain ⟨x0, x1, x2⟩ := act_at hhp j hjp
          rw [← Ha.out] at x0 x1 x2
          obtain ⟨cp, hpb⟩ := hhp.block (k := p) rfl
          have hpl := (Array.getElem?_eq_some_iff.1 hpb).1
          have hgp : g ≠ p := ty_ne HR1.out.c hpb (by decide)
          obtain ⟨oa, oc, hvo, _⟩ := GOwn.form HR1.out.ho
          obtain ⟨OL, HOL⟩ : ∃ n, Hid ((sfOld s j).old.length = n) := ⟨_, rfl⟩
          rw [HOL.out] at hvo
          subst hvo
          have HX : Hid (∀ w' : World, w'.heap[p]? = wr.heap[p]? → w'.cell? ⟨p, j * 3, none⟩ = some (.string ⟨a.gone.toArray⟩) ∧ w'.cell? ⟨p, j * 3 + 1, none⟩ = some (.string ⟨a.name.toArray⟩) ∧ w'.cell? ⟨p, j * 3 + 2, none⟩ = some (.int .i64 (rfN a.file))) := fun w' h => ⟨(World.cell?_of_block (a := ⟨p, j * 3, none⟩) h).trans x0, (World.cell?_of_block (a := ⟨p, j * 3 + 1, none⟩) h).trans x1, (World.cell?_of_block (a := ⟨p, j * 3 + 2, none⟩) h).trans x2⟩
          have HAp : Hid (Calls Try.prog 49 #[.slice oa OL oc, .agg #[.string ⟨a.gone.toArray⟩, .string ⟨a.name.toArray⟩, .int .i64 (rfN a.file)]] wr.drew _) := apply_any (w := wr.drew) (show NOwn wr.drew (.slice oa OL oc) ((s.pend.take j).foldl sfDo s.old) from GOwn.keep HR1.out.ho (fun _ _ => rfl)) a (HLn.out j)
          have HC : Hid (wr.cell? ⟨g, 3, none⟩ = some (.slice oa OL oc)) := k3
          have HLs : Hid (g < wr.heap.size ∧ p < wr.heap.size ∧ g ≠ p) := ⟨hgl, hpl, hgp⟩
          have H4 : Hid (wr.cell? ⟨g, 4, none⟩ = some (.slice (some ⟨p, 0, none⟩) PL pc)) := k4
          have hpn' : (j : Int) < n := hn
          clear x0 x1 x2 hpb hhp hpl hgp k1 k2 k3 hgl Ha
          go_wp2_with fail
          refine wp_region_noPanic ?_
          refine wp_region_S 15 (fun w' => w'.cell? ⟨g, 4, none⟩ = some (.slice (some ⟨p, 0, none⟩) PL pc) ∧ w'.cell? ⟨p, j * 3, none⟩ = some (.string ⟨a.gone.toArray⟩) ∧ w'.cell? ⟨p, j * 3 + 1, none⟩ = some (.string ⟨a.name.toArray⟩) ∧ w'.cell? ⟨p, j * 3 + 2, none⟩ = some (.int .i64 (rfN a.file))) (fun w' => w'.cell? ⟨g, 3, none⟩ = some (.slice oa OL oc)) (by kernel_rfl) ?_ ?_ (fun hHeld => ?_)
          · exact ⟨H4.out, HX.out wr.drew rfl⟩
          · exact HC.out
          refine wpAnyS_take (i := 0) (v := .pointer (some ⟨g, 0, none⟩)) _ rfl (by kernel_rfl) (by kernel_rfl) (by kernel_rfl) (by kernel_rfl) (by kernel_rfl) rfl (fun _ _ _ h => h) (Or.inl ⟨by rfl, ?_⟩) hHeld (fun hHeld => ?_)
          · (intro w1 hSw; have hSw := hSw.1; (try dsimp only at hSw); go_simp)
          simp only [List.getElem_toArray, List.getElem_cons_zero, Act.put, List.setIfInBounds_toArray, List.set_cons_zero, List.set_cons_succ]
          refine wpAnyS_take (i := 1) (v := .pointer (some ⟨g, 0, none⟩)) _ rfl (by kernel_rfl) (by kernel_rfl) (by kernel_rfl) (by kernel_rfl) (by kernel_rfl) rfl (fun _ _ _ h => h) (Or.inl ⟨by rfl, ?_⟩) hHeld (fun hHeld => ?_)
          · (intro w1 hSw; have hSw := hSw.1; (try dsimp only at hSw); go_simp)
          simp only [List.getElem_toArray, List.getElem_cons_succ, List.getElem_cons_zero, Act.put, List.setIfInBounds_toArray, List.set_cons_zero, List.set_cons_succ]
          refine wpAnyS_take (i := 2) (v := .pointer (some ⟨g, 0, none⟩)) _ rfl (by kernel_rfl) (by kernel_rfl) (by kernel_rfl) (by kernel_rfl) (by kernel_rfl) rfl (fun _ _ _ h => h) (Or.inl ⟨by rfl, ?_⟩) hHeld (fun hHeld => ?_)
          · (intro w1 hSw; have hSw := hSw.1; (try dsimp only at hSw); go_simp)
          simp only [List.getElem_toArray, List.getElem_cons_succ, List.getElem_cons_zero, Act.put, List.setIfInBounds_toArray, List.set_cons_zero, List.set_cons_succ]
          refine wpAnyS_take (i := 3) (v := .pointer (some ⟨g, 3, none⟩)) _ rfl (by kernel_rfl) (by kernel_rfl) (by kernel_rfl) (by kernel_rfl) (by kernel_rfl) rfl (fun _ _ _ h => h) (Or.inl ⟨by rfl, ?_⟩) hHeld (fun hHeld => ?_)
          · (intro w1 hSw; have hSw := hSw.1; (try dsimp only at hSw); go_simp)
          simp only [List.getElem_toArray, List.getElem_cons_succ, List.getElem_cons_zero, Act.put, List.setIfInBounds_toArray, List.set_cons_zero, List.set_cons_succ]
          refine wpAnyS_take (i := 4) (v := .slice oa OL oc) true rfl (by kernel_rfl) (by kernel_rfl) (by kernel_rfl) (by kernel_rfl) (by kernel_rfl) (by kernel_rfl) (fun _ _ _ h => h) (Or.inl ⟨by rfl, ?_⟩) hHeld (fun hHeld => ?_)
          · (intro w1 hSw; have hSw2 := hSw.2 rfl; have hSw := hSw.1; (try dsimp only at hSw hSw2); go_simp)
          simp only [List.getElem_toArray, List.getElem_cons_succ, List.getElem_cons_zero, Act.put, List.setIfInBounds_toArray, List.set_cons_zero, List.set_cons_succ]
          refine wpAnyS_take (i := 5) (v := .pointer (some ⟨g, 0, none⟩)) _ rfl (by kernel_rfl) (by kernel_rfl) (by kernel_rfl) (by kernel_rfl) (by kernel_rfl) rfl (fun _ _ _ h => h) (Or.inl ⟨by rfl, ?_⟩) hHeld (fun hHeld => ?_)
          · (intro w1 hSw; have hSw := hSw.1; (try dsimp only at hSw); go_simp)
          simp only [List.getElem_toArray, List.getElem_cons_succ, List.getElem_cons_zero, Act.put, List.setIfInBounds_toArray, List.set_cons_zero, List.set_cons_succ]
          refine wpAnyS_take (i := 6) (v := .pointer (some ⟨g, 0, none⟩)) _ rfl (by kernel_rfl) (by kernel_rfl) (by kernel_rfl) (by kernel_rfl) (by kernel_rfl) rfl (fun _ _ _ h => h) (Or.inl ⟨by rfl, ?_⟩) hHeld (fun hHeld => ?_)
          · (intro w1 hSw; have hSw := hSw.1; (try dsimp only at hSw); go_simp)
          simp only [List.getElem_toArray, List.getElem_cons_succ, List.getElem_cons_zero, Act.put, List.setIfInBounds_toArray, List.set_cons_zero, List.set_cons_succ]
          refine wpAnyS_take (i := 7) (v := .pointer (some ⟨g, 4, none⟩)) _ rfl (by kernel_rfl) (by kernel_rfl) (by kernel_rfl) (by kernel_rfl) (by kernel_rfl) rfl (fun _ _ _ h => h) (Or.inl ⟨by rfl, ?_⟩) hHeld (fun hHeld => ?_)
          · (intro w1 hSw; have hSw := hSw.1; (try dsimp only at hSw); go_simp)
          simp only [List.getElem_toArray, List.getElem_cons_succ, List.getElem_cons_zero, Act.put, List.setIfInBounds_toArray, List.set_cons_zero, List.set_cons_succ]
          refine wpAnyS_take (i := 8) (v := .slice (some ⟨p, 0, none⟩) PL pc) _ rfl (by kernel_rfl) (by kernel_rfl) (by kernel_rfl) (by kernel_rfl) (by kernel_rfl) rfl (fun _ _ _ h => h) (Or.inl ⟨by rfl, ?_⟩) hHeld (fun hHeld => ?_)
          · (intro w1 hSw; have hSw := hSw.1; (try dsimp only at hSw); go_simp)
          simp only [List.getElem_toArray, List.getElem_cons_succ, List.getElem_cons_zero, Act.put, List.setIfInBounds_toArray, List.set_cons_zero, List.set_cons_succ]
          refine wpAnyS_take (i := 9) (v := .int .i64 (j : Int)) _ rfl (by kernel_rfl) (by kernel_rfl) (by kernel_rfl) (by kernel_rfl) (by kernel_rfl) rfl (fun _ _ _ h => h) (Or.inl ⟨by rfl, ?_⟩) hHeld (fun hHeld => ?_)
          · (intro w1 hSw; have hSw := hSw.1; (try dsimp only at hSw); go_simp)
          simp only [List.getElem_toArray, List.getElem_cons_succ, List.getElem_cons_zero, Act.put, List.setIfInBounds_toArray, List.set_cons_zero, List.set_cons_succ]
          refine wpAnyS_take (i := 10) (v := .pointer (some ⟨p, j * 3, none⟩)) _ rfl (by kernel_rfl) (by kernel_rfl) (by kernel_rfl) (by kernel_rfl) (by kernel_rfl) rfl (fun _ _ _ h => h) (Or.inl ⟨by rfl, ?_⟩) hHeld (fun hHeld => ?_)
          · (intro w1 hSw; have hSw := hSw.1; (try dsimp only at hSw); go_simp)
          simp only [List.getElem_toArray, List.getElem_cons_succ, List.getElem_cons_zero, Act.put, List.setIfInBounds_toArray, List.set_cons_zero, List.set_cons_succ]
          refine wpAnyS_take (i := 11) (v := .agg #[.string ⟨a.gone.toArray⟩, .string ⟨a.name.toArray⟩, .int .i64 (rfN a.file)]) _ rfl (by kernel_rfl) (by kernel_rfl) (by kernel_rfl) (by kernel_rfl) (by kernel_rfl) rfl (fun _ _ _ h => h) (Or.inl ⟨by rfl, ?_⟩) hHeld (fun hHeld => ?_)
          · (intro w1 hSw; have hSw := hSw.1; (try dsimp only at hSw); go_simp)
          simp only [List.getElem_toArray, List.getElem_cons_succ, List.getElem_cons_zero, Act.put, List.setIfInBounds_toArray, List.set_cons_zero, List.set_cons_succ]
          refine wpAnyS_ready (i := 12) (by kernel_rfl) rfl (fun K hK => ?_)
          go_simp
          refine HAp.out.mono ?_
          clear HAp
          rintro e w2 ⟨v2, rfl, hn2, hk2, hb2⟩
          have hb12 : Below wr.heap.size wr w2 := (Below.refl wr.heap.size wr).drew.trans hb2
          have hg2 := hb12.block g HLs.out.1
          have hp2 := hb12.block p HLs.out.2.1
          have HC2 : Hid (w2.cell? ⟨g, 3, none⟩ = some (.slice oa OL oc)) := (World.cell?_of_block (a := ⟨g, 3, none⟩) hg2).trans HC.out
          have HS2 : Hid (w2.cell? ⟨g, 4, none⟩ = some (.slice (some ⟨p, 0, none⟩) PL pc) ∧ w2.cell? ⟨p, j * 3, none⟩ = some (.string ⟨a.gone.toArray⟩) ∧ w2.cell? ⟨p, j * 3 + 1, none⟩ = some (.string ⟨a.name.toArray⟩) ∧ w2.cell? ⟨p, j * 3 + 2, none⟩ = some (.int .i64 (rfN a.file))) := ⟨(World.cell?_of_block (a := ⟨g, 4, none⟩) hg2).trans H4.out, HX.out w2 hp2⟩
          have hc2 : RfC w2 g s.room vf vd (.slice oa OL oc) (.slice (some ⟨p, 0, none⟩) PL pc) af ee := hg2.trans HR1.out.c
          obtain ⟨da2, dc2, hv2, _⟩ := GOwn.form hn2
          obtain ⟨D2, HD2⟩ : ∃ n, Hid ((sfDo ((s.pend.take j).foldl sfDo s.old) a).length = n) := ⟨_, rfl⟩
          rw [HD2.out] at hv2
          subst hv2
          obtain ⟨w3, HW3⟩ := hid_ex (w2.setCell ⟨g, 3, none⟩ (.slice da2 D2 dc2))
          have hc3 : RfC w3 g s.room vf vd (.slice da2 D2 dc2) (.slice (some ⟨p, 0, none⟩) PL pc) af ee := by rw [HW3.out]; exact hc2.s3 _
          have hs3 : w3.heap.size = w2.heap.size := by rw [HW3.out]; simp [World.setCell]
          have hk3 : ∀ k, k ≠ g → w3.heap[k]? = w2.heap[k]? := fun k hk => by rw [HW3.out, Go.heap_setCell_other _ _ _ _ hk]
          have hkr : ∀ k, k < wr.heap.size → k ≠ g → w3.heap[k]? = wr.heap[k]? := fun k hk hg => (hk3 k hg).trans (hb12.block k hk)
          have hon : Onl O w w3 := by
            have h12 : Onl (Grw O w wr) wr w3 := by
              rw [HW3.out]
              exact (onl_of_below hb12 : Onl (Grw O w wr) wr w2).then (Onl.set HR1.out.og _)
            exact HO.out.trans h12
          have hs12 := hb12.size
          have hsw := HO.out.size
          have HR3 : Hid (RfAt w3 (Grw O w w3) g vf vd (.slice da2 D2 dc2) (.slice (some ⟨p, 0, none⟩) PL pc) af ee fb va vb (sfOld s (j + 1))) := by
            have hO13 : ∀ k, Grw O w wr k → Grw O w w3 k := fun k hk => by
              rcases hk with q | q
              · exact .inl q
              · exact .inr (by omega)
            have hrow : ∀ {v : Value} {e : TypeId} {n m : Nat} {xs : List Value}, GOwn wr e m v n xs → (∀ k, v.ownBlock = some k → Grw O w wr k) → e ≠ 48 → GOwn w3 e m v n xs := fun hg ho h1 => hg.keep fun k hk' => by
              obtain ⟨cur, hb⟩ := hg.block hk'
              exact hkr k (Array.getElem?_eq_some_iff.1 hb).1 (ty_ne hb HR1.out.c h1)
            have := HR1.out.re (D := s.dir) (P := (s.pend.take (j + 1)).foldl sfDo s.old) (A := s.pend) (L := s.left) (F := s.fault) hO13 (Grw.lt HLt.out hon.size) (fun k ho hg _ => hkr k (HR1.out.lt k ho) hg) hc3 HR1.out.pl (hrow HR1.out.hd HR1.out.od (by decide)) (by
              rw [HSt.out]
              exact GOwn.keep hn2 fun k hk => hk3 k (fun e => by subst e; exact absurd HLs.out.1 (Nat.not_lt.2 (hk2 _ hk).1))) (hrow HR1.out.hp HR1.out.op (by decide)) (fun k hk => hO13 k (HR1.out.od k hk)) (fun k hk => by
                obtain ⟨q1, q2⟩ := hk2 k hk
                have q3 : wr.heap.size ≤ k := q1
                exact .inr (by omega)) (fun k hk => hO13 k (HR1.out.op k hk))
            exact this
          have HO3 : Hid (Onl O w w3) := hon
          have e3 := HC2.out
          have f3 : w2.frozen? ⟨g, 3, none⟩ = false := hc2.fz 3
          have HS3 : Hid (w3.cell? ⟨g, 4, none⟩ = some (.slice (some ⟨p, 0, none⟩) PL pc) ∧ w3.cell? ⟨p, j * 3, none⟩ = some (.string ⟨a.gone.toArray⟩) ∧ w3.cell? ⟨p, j * 3 + 1, none⟩ = some (.string ⟨a.name.toArray⟩) ∧ w3.cell? ⟨p, j * 3 + 2, none⟩ = some (.int .i64 (rfN a.file))) := ⟨cell_of hc3 4 _ rfl, HX.out w3 (hkr p HLs.out.2.1 HLs.out.2.2.symm)⟩
          clear hb2 hb12 hg2 hp2 hc2 hc3 hs3 hk3 hkr hon hs12 hsw hn2 hk2 k4
          go_simp
          refine hK.out _ _ ⟨?_, fun _ => ?_⟩ (fun hHeld => ?_)
          · exact HS2.out
          · exact HC2.out
          clear hK K
          refine wpAnyS_take (i := 13) (v := .pointer (some ⟨g, 0, none⟩)) _ rfl (by kernel_rfl) (by kernel_rfl) (by kernel_rfl) (by kernel_rfl) (by kernel_rfl) rfl (fun _ _ _ h => h) (Or.inl ⟨by rfl, ?_⟩) hHeld (fun hHeld => ?_)
          · (intro w1 hSw; have hSw := hSw.1; (try dsimp only at hSw); go_simp)
          simp only [List.getElem_toArray, List.getElem_cons_succ, List.getElem_cons_zero, Act.put, List.setIfInBounds_toArray, List.set_cons_zero, List.set_cons_succ]
          refine wpAnyS_take (i := 14) (v := .pointer (some ⟨g, 3, none⟩)) _ rfl (by kernel_rfl) (by kernel_rfl) (by kernel_rfl) (by kernel_rfl) (by kernel_rfl) rfl (fun _ _ _ h => h) (Or.inl ⟨by rfl, ?_⟩) hHeld (fun hHeld => ?_)
          · (intro w1 hSw; have hSw := hSw.1; (try dsimp only at hSw); go_simp)
          simp only [List.getElem_toArray, List.getElem_cons_succ, List.getElem_cons_zero, Act.put, List.setIfInBounds_toArray, List.set_cons_zero, List.set_cons_succ]
          refine wpAnyS_ready (i := 15) (by kernel_rfl) rfl (fun K hK => ?_)
          go_simp
          rw [← HW3.out]
          refine hK.out _ _ ⟨?_, fun hno => absurd hno (by decide)⟩ (fun hHeld => ?_)
          · exact HS3.out
          clear hK K
          refine wpAnyS_done (by kernel_rfl) ?_ _
          refine NoPanic.normal ?_
          clear hHeld HW3 e3 f3
          go_wp2_with fail
          go_roundw
          case rel => exact ⟨j + 1, by go_num, by omega, by omega, ⟨_, HR3.out⟩, HO3⟩
          case measure => simp [intOf]; omega
      · have hn' : ¬ (j : Int) < n := hn
        have HEq : Hid ((s.pend.take j).foldl sfDo s.old = (s.pend.take (max n 0).toNat).foldl sfDo s.old) := by
          unfold Hid
          congr 1
          rw [List.take_eq_take_iff]
          rw [HPL.out]
          omega
        have hc4 : RfC (wr.setCell ⟨g, 4, none⟩ (.slice none 0 0)) g s.room vf vd vo1 (.slice none 0 0) af ee := RfC.s4 HR1.out.c _
        have hs4 : (wr.setCell ⟨g, 4, none⟩ (.slice none 0 0)).heap.size = wr.heap.size := by simp [World.setCell]
        have hon : Onl O w (wr.setCell ⟨g, 4, none⟩ (.slice none 0 0)) := HO.out.trans (Onl.set HR1.out.og _)
        have HO4 : Hid (Onl O w (wr.setCell ⟨g, 4, none⟩ (.slice none 0 0))) := hon
        have HR4 : Hid (RfAt (wr.setCell ⟨g, 4, none⟩ (.slice none 0 0)) (Grw O w (wr.setCell ⟨g, 4, none⟩ (.slice none 0 0))) g vf vd vo1 (.slice none 0 0) af ee fb va vb (sfSettle s (max n 0).toNat)) := by
          have hO13 : ∀ k, Grw O w wr k → Grw O w (wr.setCell ⟨g, 4, none⟩ (.slice none 0 0)) k := fun k hk => by
            rcases hk with q | q
            · exact .inl q
            · exact .inr (by rw [hs4]; exact q)
          have hrow : ∀ {v : Value} {e : TypeId} {n m : Nat} {xs : List Value}, GOwn wr e m v n xs → e ≠ 48 → GOwn (wr.setCell ⟨g, 4, none⟩ (.slice none 0 0)) e m v n xs := fun hg h1 => hg.keep fun k hk' => by
            obtain ⟨cur, hb⟩ := hg.block hk'
            exact Go.heap_setCell_other _ _ _ _ (ty_ne hb HR1.out.c h1)
          have := HR1.out.re (D := s.dir) (P := (s.pend.take (max n 0).toNat).foldl sfDo s.old) (A := []) (L := s.left) (F := s.fault) hO13 (Grw.lt HLt.out hon.size) (fun k _ hg _ => Go.heap_setCell_other _ _ _ _ hg) hc4 HR1.out.pl (hrow HR1.out.hd (by decide)) (by rw [← HEq.out]; exact hrow HR1.out.ho (by decide)) (GOwn.nil _ _ _) (fun k hk => hO13 k (HR1.out.od k hk)) (fun k hk => hO13 k (HR1.out.oo k hk)) (fun k hk => by simp [Value.ownBlock] at hk)
          exact this
        have f4 : wr.frozen? ⟨g, 4, none⟩ = false := HR1.out.c.fz 4
        clear hc4 hs4 hon HEq k1 k2 k3 hgl
        go_wp2_with fail
        refine bodyPost_end (results_none rfl _ _ _) rfl ?_
        exact ⟨⟨_, rfl⟩, ⟨_, HR4.out⟩, HO4.out⟩
    · have hlt' : ¬ (j : Int) < (PL : Int) := by omega
      have HEq : Hid ((s.pend.take j).foldl sfDo s.old = (s.pend.take (max n 0).toNat).foldl sfDo s.old) := by
        unfold Hid
        congr 1
        rw [List.take_eq_take_iff]
        rw [HPL.out]
        omega
      have hc4 : RfC (wr.setCell ⟨g, 4, none⟩ (.slice none 0 0)) g s.room vf vd vo1 (.slice none 0 0) af ee := RfC.s4 HR1.out.c _
      have hs4 : (wr.setCell ⟨g, 4, none⟩ (.slice none 0 0)).heap.size = wr.heap.size := by simp [World.setCell]
      have hon : Onl O w (wr.setCell ⟨g, 4, none⟩ (.slice none 0 0)) := HO.out.trans (Onl.set HR1.out.og _)
      have HO4 : Hid (Onl O w (wr.setCell ⟨g, 4, none⟩ (.slice none 0 0))) := hon
      have HR4 : Hid (RfAt (wr.setCell ⟨g, 4, none⟩ (.slice none 0 0)) (Grw O w (wr.setCell ⟨g, 4, none⟩ (.slice none 0 0))) g vf vd vo1 (.slice none 0 0) af ee fb va vb (sfSettle s (max n 0).toNat)) := by
        have hO13 : ∀ k, Grw O w wr k → Grw O w (wr.setCell ⟨g, 4, none⟩ (.slice none 0 0)) k := fun k hk => by
          rcases hk with q | q
          · exact .inl q
          · exact .inr (by rw [hs4]; exact q)
        have hrow : ∀ {v : Value} {e : TypeId} {n m : Nat} {xs : List Value}, GOwn wr e m v n xs → e ≠ 48 → GOwn (wr.setCell ⟨g, 4, none⟩ (.slice none 0 0)) e m v n xs := fun hg h1 => hg.keep fun k hk' => by
          obtain ⟨cur, hb⟩ := hg.block hk'
          exact Go.heap_setCell_other _ _ _ _ (ty_ne hb HR1.out.c h1)
        have := HR1.out.re (D := s.dir) (P := (s.pend.take (max n 0).toNat).foldl sfDo s.old) (A := []) (L := s.left) (F := s.fault) hO13 (Grw.lt HLt.out hon.size) (fun k _ hg _ => Go.heap_setCell_other _ _ _ _ hg) hc4 HR1.out.pl (hrow HR1.out.hd (by decide)) (by rw [← HEq.out]; exact hrow HR1.out.ho (by decide)) (GOwn.nil _ _ _) (fun k hk => hO13 k (HR1.out.od k hk)) (fun k hk => hO13 k (HR1.out.oo k hk)) (fun k hk => by simp [Value.ownBlock] at hk)
        exact this
      have f4 : wr.frozen? ⟨g, 4, none⟩ = false := HR1.out.c.fz 4
      clear hc4 hs4 hon HEq k1 k2 k3 hgl
      go_wp2_with fail
      refine bodyPost_end (results_none rfl _ _ _) rfl ?_
      exact ⟨⟨_, rfl⟩, ⟨_, HR4.out⟩, HO4.out⟩
set_option maxRecDepth 100000 in
set_option maxHeartbeats 4000000 in
theorem refSyncDir_any {w : World} {O : Nat → Prop} {g : Nat} {vf vd vo vp : Value} {af ee : Int} {fb : Nat → Nat} {va vb : Nat → Value} {s : SfS} (h : RfAt w O g vf vd vo vp af ee fb va vb s) (hw : SfWf s) (hpn : s.pend.length < 1000000) :
    Calls Try.prog 26 #[.pointer (some ⟨g, 0, none⟩)] w fun e w' => e = .returned (.int .i64 (sfSyncDir s).1) ∧ RfTo w w' O g (sfSyncDir s).2 := by
  have HLt : Hid (∀ k, O k → k < w.heap.size) := h.lt
  have HPl : Hid (Calls Try.prog 44 #[.pointer (some ⟨g, 0, none⟩)] w _) := refPlanR h hw
  have HRm : Hid (sfSyncDir s = if (sfPlan s).1 = 0 then (0, sfSettle (sfPlan s).2 s.pend.length) else sfPlan s) := rfl
  have hde : (sfPlan s).2.pend = s.pend := by unfold sfPlan; split; rfl; split <;> rfl
  have HPn : Hid ((sfPlan s).2.pend.length = s.pend.length) := by unfold Hid; rw [hde]
  obtain ⟨R, HRe⟩ := hid_ex (sfSyncDir s)
  rw [← HRe.out] at HRm ⊢
  obtain ⟨E, HE⟩ := hid_ex (sfPlan s).1
  obtain ⟨S1, HS1⟩ := hid_ex (sfPlan s).2
  have HWp : Hid (SfWf S1) := by rw [HS1.out]; exact wf_plan hw
  have HPr : Hid (sfPlan s = (E, S1)) := by rw [HE.out, HS1.out]; rfl
  rw [← HE.out, ← HS1.out] at HPl
  rw [← HE.out, ← HS1.out, HPr.out] at HRm
  rw [← HS1.out] at HPn
  obtain ⟨PL, HPL⟩ : ∃ n, Hid (s.pend.length = n) := ⟨_, rfl⟩
  rw [HPL.out] at HRm HPn hpn
  clear h hw hde HRe HE HS1 HPr HPL
  go_enter Try.func26, Try.ntmps26
  go_wp2_with fail
  refine HPl.out.mono ?_
  clear HPl
  rintro e w1 ⟨rfl, ⟨af1, ee1, hr1⟩, ho1, hz1⟩
  have HR1 : Hid (RfAt w1 O g vf vd vo vp af1 ee1 fb va vb S1) := hr1
  have HO1 : Hid (Onl O w w1) := ho1
  have HZ1 : Hid (w1.heap.size = w.heap.size) := hz1
  obtain ⟨pa, pc, hvp, _⟩ := GOwn.form hr1.hp
  rw [HPn.out] at hvp
  subst hvp
  obtain ⟨_, _, _, k4, _⟩ := hr1.c1
  clear hr1 ho1 hz1
  by_cases hE : E = 0
  · subst hE
    have HRq : Hid (R = (0, sfSettle S1 PL)) := by unfold Hid; rw [HRm.out, if_pos rfl]
    have hst := refSettle_any HR1.out HWp.out (PL : Int) (by rw [HPn.out]; exact hpn)
    rw [show (max (PL : Int) 0).toNat = PL by omega] at hst
    have HSt : Hid (Calls Try.prog 45 #[.pointer (some ⟨g, 0, none⟩), .int .i64 (PL : Int)] w1 _) := hst
    clear HRm hst
    go_wp2_with fail
    refine HSt.out.mono ?_
    clear HSt
    rintro e w2 ⟨⟨u, rfl⟩, ⟨vo', hr2⟩, ho2⟩
    have HEnd : Hid (RfTo w w2 O g (sfSettle S1 PL)) := by
      have hO2 := HO1.out.then ho2
      exact ⟨⟨_, _, _, _, _, _, _, _, _, hr2.wider (fun k hk => by
        rcases hk with q | q
        · exact .inl q
        · exact .inr (by have := HZ1.out; omega)) (Grw.lt HLt.out hO2.size)⟩, hO2⟩
    clear hr2 ho2 k4
    go_wp2_with fail
    go_ret
    rw [HRq.out]
    exact ⟨rfl, HEnd.out⟩
  · have hEb : (E == 0) = false := by simpa using hE
    have HRq : Hid (R = (E, S1)) := by unfold Hid; rw [HRm.out, if_neg hE]
    clear HRm
    go_wp2_with fail
    go_ret
    rw [HRq.out]
    exact ⟨rfl, ⟨⟨_, _, _, _, _, _, _, _, _, HR1.out.wider (fun _ q => .inl q) (Grw.lt HLt.out HO1.out.size)⟩, HO1.out⟩⟩
end Go.Proofs.Ytijablmejjepaaa
