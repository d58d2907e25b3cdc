/- WR2 WX3 WX4 WX5 FCt, joined. -/
import Derived.Test.YtegcomopcoapjaaGreatDoorTG19
import Derived.Test.YtegcomopcoapjaaGreatDoorTG21
import Derived.Test.YtegcomopcoapjaaGreatDoorTG23
/- law12's Great and As. -/
namespace Go.Proofs.YtegcomopcoapjaaGreatDoor
open Go.RowKit Go.Shelf

set_option maxRecDepth 100000 in
theorem as_any (r : Rc) (w : World) (h : RcOk w r) : Calls Tryz.prog 34 #[r.val] w fun e w' => e = .returned r.val ∧ Below w.heap.size w w' := by
  obtain ⟨a, cap, hv, _⟩ := h.f.form
  unfold Rc.val
  rw [hv]
  clear h hv
  go_enter Tryz.func34, Tryz.ntmps34
  go_wp2_with fail
  exact bodyPost_ret (v := .agg #[.slice a r.fs.length cap, .int .i64 r.m]) (by simp [results, Tryz.results34, go_sem]) rfl ⟨rfl, ((((Below.refl _ _).alloc (Nat.le_refl _) _).alloc (by simp) _))⟩
def GrPost (w : World) (e : Ending) (w' : World) : Prop := ∃ g, e = .returned (.bool g) ∧ Below w.heap.size w w'
set_option maxRecDepth 100000 in
set_option maxHeartbeats 2000000 in
theorem great_any (r : Rc) (w : World) (h : RcOk w r) : Calls Tryz.prog 8 #[r.val] w (GrPost w) := by
  obtain ⟨a, cap, hv, hl1, hl2⟩ := h.f.form
  unfold maxLen at hl2
  have HB : Hid (Below w.heap.size w (w.alloc (.cells #[.slice a r.fs.length cap, .int .i64 r.m] 37))) := (Below.refl _ _).alloc (Nat.le_refl _) _
  have HF : Hid (FReads (w.alloc (.cells #[.slice a r.fs.length cap, .int .i64 r.m] 37)) (.slice a r.fs.length cap) r.fs) := by
    have := h.f.below HB.out
    rw [hv] at this
    exact this
  unfold Rc.val
  rw [hv]
  clear hv h
  obtain ⟨rv, fs, m⟩ := r
  simp only at *
  by_cases h40 : (40 : Int) < (fs.length : Int)
  · go_enter Tryz.func8, Tryz.ntmps8
    go_wp2_with fail
    go_ret
    exact ⟨_, rfl, HB.out⟩
  · go_enter Tryz.func8, Tryz.ntmps8
    go_wp2_with fail
    go_loop [3] (fun i => ∃ k : Nat, k ≤ fs.length ∧ i = .int .i64 (k : Int)) (fun i => fs.length - (intOf i).toNat)
    case atStart => exact ⟨0, by omega, rfl⟩
    case round =>
      obtain ⟨k, hk, rfl⟩ := hrel
      by_cases hlt : k < fs.length
      · obtain ⟨b, off, rfl, hb⟩ := HF.out.ptr (by omega)
        obtain ⟨f, Hf⟩ := hid_ex fs[k]
        obtain ⟨d0, d1, d2, hfr⟩ := HF.out.three hlt f Hf.out
        obtain ⟨fa, fcp, hfv, hfm⟩ := hfr.r.form
        unfold maxLen at hfm
        rw [hfv] at d0
        have HR : Hid (SReads (w.alloc (.cells #[.slice (some ⟨b, off, none⟩) fs.length cap, .int .i64 m] 37)) (.slice fa f.D.length fcp) f.D) := by rw [← hfv]; exact hfr.r
        clear hfr hfv d1 d2
        by_cases h8 : (8 : Int) < (f.D.length : Int)
        · go_wp2_with fail
          go_ret
          exact ⟨_, rfl, HB.out⟩
        · go_wp2_with fail
          go_loop [4] (fun i => ∃ j : Nat, j ≤ f.D.length ∧ i = .int .i64 (j : Int)) (fun i => f.D.length - (intOf i).toNat)
          case atStart => exact ⟨0, by omega, rfl⟩
          case round =>
            obtain ⟨j, hj, rfl⟩ := hrel
            by_cases hjl : j < f.D.length
            · obtain ⟨b3, o3, rfl, _, hs⟩ := HR.out.at j hjl
              have hsz := HR.out.size _ (List.getElem_mem hjl)
              unfold maxLen at hsz
              generalize f.D[j] = s at *
              by_cases h100 : (100 : Int) < (s.size : Int)
              · go_wp2_with fail
                go_ret
                exact ⟨_, rfl, HB.out⟩
              · go_wp2_with fail
                go_round
                case rel => exact ⟨j + 1, by omega, by go_num⟩
                case measure => simp [intOf]; omega
            · go_wp2_with fail
              go_round
              case rel => exact ⟨k + 1, by omega, by go_num⟩
              case measure => simp [intOf]; omega
      · go_wp2_with fail
        go_ret
        exact ⟨_, rfl, HB.out⟩
end Go.Proofs.YtegcomopcoapjaaGreatDoor

/- wal: Log.Sync and Log.Add. -/
namespace Go.Proofs.YtegcomopcoapjaaGreatDoor
open Go.RowKit Go.Shelf

theorem LgAt.onl {w w' : World} {O : Nat → Prop} {g : Nat} {p : Value} {nm : List UInt8} (h : LgAt w g p nm) (ho : Onl O w w') (hg : ¬ O g) : LgAt w' g p nm :=
  (ho.block g (Array.getElem?_eq_some_iff.1 h).1 hg).trans h
theorem LgAt.c0 {w : World} {g : Nat} {p : Value} {nm : List UInt8} (h : LgAt w g p nm) : w.cell? ⟨g, 0, none⟩ = some p := cellW h 0 (by simp)
theorem LgAt.c1 {w : World} {g : Nat} {p : Value} {nm : List UInt8} (h : LgAt w g p nm) : w.cell? ⟨g, 1, none⟩ = some (.string ⟨nm.toArray⟩) := cellW h 1 (by simp)
set_option maxRecDepth 100000 in
set_option maxHeartbeats 1000000 in
theorem logSync_any {w : World} {O : Nat → Prop} {p : Value} {s : SfS} {g : Nat} {nm : List UInt8} (hF : Fs w O p s) (hL : LgAt w g p nm) (hg : ¬ O g) (hn : nm.length ≤ maxLen) :
    Calls Tryz.prog 10 #[.pointer (some ⟨g, 0, none⟩)] w (FsR w O p (sfSync s nm)) := by
  obtain ⟨q, rfl⟩ := hF.ptr
  have HL : Hid (LgAt w g (.pointer (some ⟨q, 0, none⟩)) nm) := hL
  have HG : Hid (¬ O g) := hg
  have HC : Hid (Calls Tryz.prog 26 #[.pointer (some ⟨q, 0, none⟩), .string ⟨nm.toArray⟩] w.drew (FsR w O (.pointer (some ⟨q, 0, none⟩)) (sfSync s nm))) :=
    ((hF.below (Below.refl _ _).drew).sync nm hn).mono fun e w' ⟨h1, h2, h3⟩ => ⟨h1, h2, (onl_of_below (Below.refl _ _).drew).then h3⟩
  obtain ⟨R, HR⟩ := hid_ex (sfSync s nm)
  rw [← HR.out] at HC ⊢
  clear hF hL hg HR
  go_enter Tryz.func10, Tryz.ntmps10
  go_wp2_with fail
  refine (made_yes g q nm _ HL.out).mono ?_
  rintro e w1 ⟨rfl, hw⟩
  subst w1
  go_wp2_with fail
  refine wp_region_noPanic ?_
  refine wp_region_held_drew (S := (fun w' => Onl O w w')) (by kernel_rfl) ?_ (fun hHeld => ?_)
  · exact onl_of_below (Below.refl _ _).drew
  refine wpAnyH_take (i := 0) (v := .pointer (some ⟨g, 0, none⟩)) rfl (by kernel_rfl) (by kernel_rfl) (by kernel_rfl) (fun _ _ _ h => h) (Or.inl ⟨by rfl, ?_⟩) (by assumption) ?_
  · (intro w1 hSw; (try dsimp only at hSw); go_simp)
  simp only [List.getElem_toArray, List.getElem_cons_zero, Act.put, List.setIfInBounds_toArray, List.set_cons_zero, List.set_cons_succ]
  refine wpAnyH_take (i := 1) (v := .pointer (some ⟨g, 0, none⟩)) rfl (by kernel_rfl) (by kernel_rfl) (by kernel_rfl) (fun _ _ _ h => h) (Or.inl ⟨by rfl, ?_⟩) (by assumption) ?_
  · (intro w1 hSw; (try dsimp only at hSw); go_simp)
  simp only [List.getElem_toArray, List.getElem_cons_succ, List.getElem_cons_zero, Act.put, List.setIfInBounds_toArray, List.set_cons_zero, List.set_cons_succ]
  refine wpAnyH_take (i := 2) (v := .pointer (some ⟨g, 0, none⟩)) rfl (by kernel_rfl) (by kernel_rfl) (by kernel_rfl) (fun _ _ _ h => h) (Or.inl ⟨by rfl, ?_⟩) (by assumption) ?_
  · (intro w1 hSw; (try dsimp only at hSw); go_simp)
  simp only [List.getElem_toArray, List.getElem_cons_succ, List.getElem_cons_zero, Act.put, List.setIfInBounds_toArray, List.set_cons_zero, List.set_cons_succ]
  refine wpAnyH_take (i := 3) (v := .pointer (some ⟨q, 0, none⟩)) rfl (by kernel_rfl) (by kernel_rfl) (by kernel_rfl) (fun _ _ _ h => h) (Or.inl ⟨by rfl, ?_⟩) (by assumption) ?_
  · (intro w1 hSw; (try dsimp only at hSw); have h0 := (HL.out.onl hSw HG.out).c0; go_simp)
  simp only [List.getElem_toArray, List.getElem_cons_succ, List.getElem_cons_zero, Act.put, List.setIfInBounds_toArray, List.set_cons_zero, List.set_cons_succ]
  refine wpAnyH_take (i := 4) (v := .pointer (some ⟨g, 0, none⟩)) rfl (by kernel_rfl) (by kernel_rfl) (by kernel_rfl) (fun _ _ _ h => h) (Or.inl ⟨by rfl, ?_⟩) (by assumption) ?_
  · (intro w1 hSw; (try dsimp only at hSw); go_simp)
  simp only [List.getElem_toArray, List.getElem_cons_succ, List.getElem_cons_zero, Act.put, List.setIfInBounds_toArray, List.set_cons_zero, List.set_cons_succ]
  refine wpAnyH_take (i := 5) (v := .pointer (some ⟨g, 0, none⟩)) rfl (by kernel_rfl) (by kernel_rfl) (by kernel_rfl) (fun _ _ _ h => h) (Or.inl ⟨by rfl, ?_⟩) (by assumption) ?_
  · (intro w1 hSw; (try dsimp only at hSw); go_simp)
  simp only [List.getElem_toArray, List.getElem_cons_succ, List.getElem_cons_zero, Act.put, List.setIfInBounds_toArray, List.set_cons_zero, List.set_cons_succ]
  refine wpAnyH_take (i := 6) (v := .pointer (some ⟨g, 1, none⟩)) rfl (by kernel_rfl) (by kernel_rfl) (by kernel_rfl) (fun _ _ _ h => h) (Or.inl ⟨by rfl, ?_⟩) (by assumption) ?_
  · (intro w1 hSw; (try dsimp only at hSw); go_simp)
  simp only [List.getElem_toArray, List.getElem_cons_succ, List.getElem_cons_zero, Act.put, List.setIfInBounds_toArray, List.set_cons_zero, List.set_cons_succ]
  refine wpAnyH_take (i := 7) (v := .string ⟨nm.toArray⟩) rfl (by kernel_rfl) (by kernel_rfl) (by kernel_rfl) (fun _ _ _ h => h) (Or.inl ⟨by rfl, ?_⟩) (by assumption) ?_
  · (intro w1 hSw; (try dsimp only at hSw); have h0 := (HL.out.onl hSw HG.out).c1; go_simp)
  simp only [List.getElem_toArray, List.getElem_cons_succ, List.getElem_cons_zero, Act.put, List.setIfInBounds_toArray, List.set_cons_zero, List.set_cons_succ]
  refine wpAnyH_ready (rs := [8]) (by kernel_rfl) (by simp) ?_
  refine AllReadyH.cons (o := _) rfl (fun K hK => ?_) AllReadyH.nil
  go_simp
  refine HC.out.mono ?_
  rintro e w2 ⟨rfl, hf2, ho2⟩
  have HF2 : Hid (Fs w2 (Grw O w w2) (.pointer (some ⟨q, 0, none⟩)) R.2) := hf2
  have HO2 : Hid (Onl O w w2) := ho2
  clear hf2 ho2
  refine hK.out _ _ ?_ (fun hHeld => ?_)
  · exact HO2.out
  clear hK K
  refine wpAnyH_take (i := 9) (v := .int .i64 R.1) rfl (by kernel_rfl) (by kernel_rfl) (by kernel_rfl) (fun _ _ _ h => h) (Or.inl ⟨by rfl, ?_⟩) (by assumption) ?_
  · (intro w1 hSw; (try dsimp only at hSw); go_simp)
  simp only [List.getElem_toArray, List.getElem_cons_succ, List.getElem_cons_zero, Act.put, List.setIfInBounds_toArray, List.set_cons_zero, List.set_cons_succ]
  refine wpAnyH_done (by kernel_rfl) ?_ _
  refine NoPanic.normal ?_
  go_wp2_with fail
  go_ret
  exact ⟨rfl, HF2.out, HO2.out⟩
/-- What Add does. -/
def lgAdd (s : SfS) (nm : List UInt8) (r : Rc) : Int × SfS := if rightR r.p r.m = true then sfAppend s nm (frm (wrR r.p r.m)) else (90, s)
def AdPost (w : World) (O : Nat → Prop) (p : Value) (R : Int × SfS) (e : Ending) (w' : World) : Prop := ∃ O', e = .returned (.int .i64 R.1) ∧ Fs w' O' p R.2 ∧ (∀ k, O' k → Grw O w w' k) ∧ Onl O w w'
set_option maxRecDepth 100000 in
set_option maxHeartbeats 1000000 in
theorem logAdd_any {w : World} {O : Nat → Prop} {p : Value} {s : SfS} {g : Nat} {nm : List UInt8} (hF : Fs w O p s) (hL : LgAt w g p nm) (hg : ¬ O g) (hn : nm.length ≤ maxLen) (r : Rc) (hr : RcOk w r) :
    Calls Tryz.prog 9 #[.pointer (some ⟨g, 0, none⟩), r.val] w (AdPost w O p (lgAdd s nm r)) := by
  obtain ⟨q, rfl⟩ := hF.ptr
  obtain ⟨a, cap, hv, _⟩ := hr.f.form
  obtain ⟨rv, fs, m⟩ := r
  simp only at hv
  subst hv
  simp only at *
  have HLw : Hid (LgAt w g (.pointer (some ⟨q, 0, none⟩)) nm) := hL
  have HG : Hid (¬ O g) := hg
  have HN : Hid (nm.length ≤ maxLen) := hn
  have HFw : Hid (Fs w O (.pointer (some ⟨q, 0, none⟩)) s) := hF
  have HB0 : Hid (Below w.heap.size w (w.alloc (.cells #[.slice a fs.length cap, .int .i64 m] 37))) := (Below.refl _ _).alloc (Nat.le_refl _) _
  have HL : Hid (LgAt (w.alloc (.cells #[.slice a fs.length cap, .int .i64 m] 37)) g (.pointer (some ⟨q, 0, none⟩)) nm) := hL.onl (O := O) (onl_of_below HB0.out) hg
  have hx := World.alloc_heap_new w (.cells #[.slice a fs.length cap, .int .i64 m] 37)
  have x0 := cellW hx 0 (by simp)
  have x1 := cellW hx 1 (by simp)
  simp only [List.getElem_toArray, List.getElem_cons_succ, List.getElem_cons_zero] at x0 x1
  have HW : Hid (Calls Tryz.prog 23 #[.agg #[.slice a fs.length cap, .int .i64 m]] (w.alloc (.cells #[.slice a fs.length cap, .int .i64 m] 37)) fun e w' => ∃ v, e = .returned (.tuple #[v, .int .i64 (wrE ⟨.slice a fs.length cap, fs, m⟩)]) ∧ Own w' (w.alloc (.cells #[.slice a fs.length cap, .int .i64 m] 37)).heap.size v (wrB ⟨.slice a fs.length cap, fs, m⟩) ∧ Below (w.alloc (.cells #[.slice a fs.length cap, .int .i64 m] 37)).heap.size (w.alloc (.cells #[.slice a fs.length cap, .int .i64 m] 37)) w') := walWrite_any ⟨.slice a fs.length cap, fs, m⟩ _ (hr.below HB0.out)
  obtain ⟨R, HR⟩ := hid_ex (lgAdd s nm ⟨.slice a fs.length cap, fs, m⟩)
  rw [← HR.out]
  obtain ⟨E, HE⟩ := hid_ex (wrE ⟨.slice a fs.length cap, fs, m⟩)
  obtain ⟨L, HLb⟩ := hid_ex (wrB ⟨.slice a fs.length cap, fs, m⟩)
  rw [← HE.out, ← HLb.out] at HW
  unfold Rc.val
  simp only
  clear hF hL hg hr hx
  go_enter Tryz.func9, Tryz.ntmps9
  go_wp2_with fail
  refine (made_yes g q nm _ HL.out).mono ?_
  rintro e w1 ⟨rfl, hw⟩
  subst w1
  go_wp2_with fail
  refine HW.out.mono ?_
  rintro e w1 ⟨vb, rfl, how, hb1⟩
  have HB1 : Hid (Below w.heap.size w w1) := HB0.out.trans (hb1.mono (by simp))
  have HOw : Hid (Own w1 (w.heap.size + 1) vb L) := by unfold Hid; simpa using how
  have hz1 : w.heap.size + 1 ≤ w1.heap.size := by have := hb1.size; simpa using this
  obtain ⟨va, vc, hvv, _⟩ := how.form
  subst hvv
  clear how hb1 HW x0 x1
  by_cases hrt : rightR (⟨.slice a fs.length cap, fs, m⟩ : Rc).p m = true
  · have hE : E = 0 := by rw [HE.out]; unfold wrE; rw [if_pos hrt]
    have HLr : Hid (L = wrR (⟨.slice a fs.length cap, fs, m⟩ : Rc).p m) := by unfold Hid; rw [HLb.out]; unfold wrB; rw [if_pos hrt]
    have HLl : Hid (L.length ≤ 65535) := by
      unfold Hid; rw [HLr.out]
      have := wrR_len hrt
      omega
    have HRr : Hid (R = sfAppend s nm (frm L)) := by unfold Hid; rw [HR.out, HLr.out]; unfold lgAdd; rw [if_pos hrt]
    subst hE
    clear hrt HE HLb HR HLr
    go_wp2_with fail
    refine (frame_any _ L HLl.out _ HOw.out.reads).mono ?_
    rintro e w2 ⟨vf, rfl, hof, hb2⟩
    have hz2 := hb2.size
    have HB2 : Hid (Below w.heap.size w w2) := HB1.out.trans (hb2.mono HB1.out.size)
    have HL2 : Hid (LgAt w2 g (.pointer (some ⟨q, 0, none⟩)) nm) := HLw.out.onl (O := O) (onl_of_below HB2.out) HG.out
    have HF2 : Hid (Fs w2.drew O (.pointer (some ⟨q, 0, none⟩)) s) := (HFw.out.below HB2.out).below (Below.refl _ _).drew
    have HRD : Hid (∀ w', Onl O w2.drew w' → Reads w' vf (frm L)) := fun w' ho => Own.reads (row_new hof (fun k h1 h2 => ho.block k h2 (fun z => by have := HFw.out.lt k z; omega)))
    have HC : Hid (Calls Tryz.prog 25 #[.pointer (some ⟨q, 0, none⟩), .string ⟨nm.toArray⟩, vf] w2.drew (FsR w2.drew O (.pointer (some ⟨q, 0, none⟩)) (sfAppend s nm (frm L)))) := HF2.out.append nm HN.out vf (frm L) HRD.out
    rw [← HRr.out] at HC
    obtain ⟨fa, fcp, hvv, _⟩ := hof.form
    subst hvv
    clear hof hb2 HF2 HRD
    go_wp2_with fail
    refine wp_region_noPanic ?_
    refine wp_region_held_drew (S := (fun w' => Onl O w2 w')) (by kernel_rfl) ?_ (fun hHeld => ?_)
    · exact onl_of_below (Below.refl _ _).drew
    refine wpAnyH_take (i := 0) (v := .pointer (some ⟨g, 0, none⟩)) rfl (by kernel_rfl) (by kernel_rfl) (by kernel_rfl) (fun _ _ _ h => h) (Or.inl ⟨by rfl, ?_⟩) (by assumption) ?_
    · (intro w1 hSw; (try dsimp only at hSw); go_simp)
    simp only [List.getElem_toArray, List.getElem_cons_zero, Act.put, List.setIfInBounds_toArray, List.set_cons_zero, List.set_cons_succ]
    refine wpAnyH_take (i := 1) (v := .pointer (some ⟨g, 0, none⟩)) rfl (by kernel_rfl) (by kernel_rfl) (by kernel_rfl) (fun _ _ _ h => h) (Or.inl ⟨by rfl, ?_⟩) (by assumption) ?_
    · (intro w1 hSw; (try dsimp only at hSw); go_simp)
    simp only [List.getElem_toArray, List.getElem_cons_succ, List.getElem_cons_zero, Act.put, List.setIfInBounds_toArray, List.set_cons_zero, List.set_cons_succ]
    refine wpAnyH_take (i := 2) (v := .pointer (some ⟨g, 0, none⟩)) rfl (by kernel_rfl) (by kernel_rfl) (by kernel_rfl) (fun _ _ _ h => h) (Or.inl ⟨by rfl, ?_⟩) (by assumption) ?_
    · (intro w1 hSw; (try dsimp only at hSw); go_simp)
    simp only [List.getElem_toArray, List.getElem_cons_succ, List.getElem_cons_zero, Act.put, List.setIfInBounds_toArray, List.set_cons_zero, List.set_cons_succ]
    refine wpAnyH_take (i := 3) (v := .pointer (some ⟨q, 0, none⟩)) rfl (by kernel_rfl) (by kernel_rfl) (by kernel_rfl) (fun _ _ _ h => h) (Or.inl ⟨by rfl, ?_⟩) (by assumption) ?_
    · (intro w1 hSw; (try dsimp only at hSw); have h0 := (HL2.out.onl hSw HG.out).c0; go_simp)
    simp only [List.getElem_toArray, List.getElem_cons_succ, List.getElem_cons_zero, Act.put, List.setIfInBounds_toArray, List.set_cons_zero, List.set_cons_succ]
    refine wpAnyH_take (i := 4) (v := .pointer (some ⟨g, 0, none⟩)) rfl (by kernel_rfl) (by kernel_rfl) (by kernel_rfl) (fun _ _ _ h => h) (Or.inl ⟨by rfl, ?_⟩) (by assumption) ?_
    · (intro w1 hSw; (try dsimp only at hSw); go_simp)
    simp only [List.getElem_toArray, List.getElem_cons_succ, List.getElem_cons_zero, Act.put, List.setIfInBounds_toArray, List.set_cons_zero, List.set_cons_succ]
    refine wpAnyH_take (i := 5) (v := .pointer (some ⟨g, 0, none⟩)) rfl (by kernel_rfl) (by kernel_rfl) (by kernel_rfl) (fun _ _ _ h => h) (Or.inl ⟨by rfl, ?_⟩) (by assumption) ?_
    · (intro w1 hSw; (try dsimp only at hSw); go_simp)
    simp only [List.getElem_toArray, List.getElem_cons_succ, List.getElem_cons_zero, Act.put, List.setIfInBounds_toArray, List.set_cons_zero, List.set_cons_succ]
    refine wpAnyH_take (i := 6) (v := .pointer (some ⟨g, 1, none⟩)) rfl (by kernel_rfl) (by kernel_rfl) (by kernel_rfl) (fun _ _ _ h => h) (Or.inl ⟨by rfl, ?_⟩) (by assumption) ?_
    · (intro w1 hSw; (try dsimp only at hSw); go_simp)
    simp only [List.getElem_toArray, List.getElem_cons_succ, List.getElem_cons_zero, Act.put, List.setIfInBounds_toArray, List.set_cons_zero, List.set_cons_succ]
    refine wpAnyH_take (i := 7) (v := .string ⟨nm.toArray⟩) rfl (by kernel_rfl) (by kernel_rfl) (by kernel_rfl) (fun _ _ _ h => h) (Or.inl ⟨by rfl, ?_⟩) (by assumption) ?_
    · (intro w1 hSw; (try dsimp only at hSw); have h0 := (HL2.out.onl hSw HG.out).c1; go_simp)
    simp only [List.getElem_toArray, List.getElem_cons_succ, List.getElem_cons_zero, Act.put, List.setIfInBounds_toArray, List.set_cons_zero, List.set_cons_succ]
    refine wpAnyH_take (i := 8) (v := .slice fa (frm L).length fcp) rfl (by kernel_rfl) (by kernel_rfl) (by kernel_rfl) (fun _ _ _ h => h) (Or.inl ⟨by rfl, ?_⟩) (by assumption) ?_
    · (intro w1 hSw; (try dsimp only at hSw); go_simp)
    simp only [List.getElem_toArray, List.getElem_cons_succ, List.getElem_cons_zero, Act.put, List.setIfInBounds_toArray, List.set_cons_zero, List.set_cons_succ]
    refine wpAnyH_ready (rs := [9]) (by kernel_rfl) (by simp) ?_
    refine AllReadyH.cons (o := _) rfl (fun K hK => ?_) AllReadyH.nil
    go_simp
    refine HC.out.mono ?_
    rintro e w3 ⟨rfl, hf3, ho3⟩
    have HF3 : Hid (Fs w3 (Grw O w2 w3) (.pointer (some ⟨q, 0, none⟩)) R.2) := hf3
    have HO3 : Hid (Onl O w2 w3) := (onl_of_below (Below.refl _ _).drew).then ho3
    clear hf3 ho3
    refine hK.out _ _ ?_ (fun hHeld => ?_)
    · exact HO3.out
    clear hK K
    refine wpAnyH_take (i := 10) (v := .int .i64 R.1) rfl (by kernel_rfl) (by kernel_rfl) (by kernel_rfl) (fun _ _ _ h => h) (Or.inl ⟨by rfl, ?_⟩) (by assumption) ?_
    · (intro w1 hSw; (try dsimp only at hSw); go_simp)
    simp only [List.getElem_toArray, List.getElem_cons_succ, List.getElem_cons_zero, Act.put, List.setIfInBounds_toArray, List.set_cons_zero, List.set_cons_succ]
    refine wpAnyH_done (by kernel_rfl) ?_ _
    refine NoPanic.normal ?_
    go_wp2_with fail
    go_ret
    exact ⟨_, rfl, HF3.out, fun k hk => hk.elim .inl (fun h => .inr ⟨by omega, h.2⟩), (onl_of_below HB2.out).then HO3.out⟩
  · have hE : E = 90 := by rw [HE.out]; unfold wrE; rw [if_neg hrt]
    have HRr : Hid (R = (90, s)) := by unfold Hid; rw [HR.out]; unfold lgAdd; rw [if_neg hrt]
    subst hE
    clear hrt HE HLb HR
    go_wp2_with fail
    go_ret
    exact ⟨O, by rw [HRr.out]; rfl, by rw [HRr.out]; exact HFw.out.below HB1.out, fun k hk => .inl hk, onl_of_below HB1.out⟩
end Go.Proofs.YtegcomopcoapjaaGreatDoor

/- law12's AsAll; the reference's SameAll. -/
namespace Go.Proofs.YtegcomopcoapjaaGreatDoor
open Go.RowKit Go.Shelf

theorem RsR.two {w : World} {a : Option Addr} {n cap : Nat} {L : List Rc} (h : RsR w (.slice a n cap) L) {j : Nat} (hj : j < L.length) {x : Rc} (hx : x = L[j]) : ∃ b off, a = some ⟨b, off, none⟩ ∧ b < w.heap.size ∧ w.cell? ⟨b, off + j * 2, none⟩ = some x.v ∧ w.cell? ⟨b, off + j * 2 + 1, none⟩ = some (.int .i64 x.m) ∧ RcOk w x := by
  subst hx
  obtain ⟨b, off, h1, h2, h3, h4⟩ := h.at hj
  exact ⟨b, off, h1, h2, h3 0 (by decide), by have := h3 1 (by decide); rw [← Nat.add_assoc] at this; exact this, h4⟩
set_option maxRecDepth 100000 in
set_option maxHeartbeats 2000000 in
theorem asAll_any (v : Value) (L : List Rc) (hl : L.length ≤ 100000) (w : World) (h : RsR w v L) : Calls Tryz.prog 14 #[v] w fun e w' => ∃ v', e = .returned v' ∧ RsR w' v' L ∧ Below w.heap.size w w' := by
  obtain ⟨a, cap, rfl, _⟩ := h.form
  have HV : Hid (RsR w (.slice a L.length cap) L) := h
  clear h
  go_enter Tryz.func14, Tryz.ntmps14
  go_wp2_with fail
  go_loopw [3, 4] (fun o i wr => ∃ j : Nat, i = .int .i64 (j : Int) ∧ j ≤ L.length ∧ Hid (GOwn wr 76 2 o (L.take j).length ((L.take j).flatMap c2r)) ∧ Hid (∀ k, o.ownBlock = some k → w.heap.size ≤ k ∧ k < wr.heap.size) ∧ Hid (Below w.heap.size w wr)) (fun _ i _ => L.length - (intOf i).toNat)
  case atStart => exact ⟨0, rfl, by omega, GOwn.nil _ _ _, fun k hk => by simp [Value.ownBlock] at hk, Below.refl _ _⟩
  case round =>
    obtain ⟨j, rfl, hj, HO, HK, HB⟩ := hrel
    by_cases hlt : j < L.length
    · have hlt' : (j : Int) < (L.length : Int) := by omega
      obtain ⟨x, Hx⟩ := hid_ex L[j]
      obtain ⟨b, off, rfl, hbw, c0, c1, hok⟩ := (HV.out.below HB.out).two hlt Hx.out
      obtain ⟨xa, xc, hxv, _⟩ := hok.f.form
      have HA : Hid (Calls Tryz.prog 34 #[x.val] wr fun e w' => e = .returned x.val ∧ Below wr.heap.size wr w') := as_any x wr hok
      have HT : Hid (L.take (j + 1) = L.take j ++ [x]) := by unfold Hid; rw [List.take_add_one, List.getElem?_eq_getElem hlt, Hx.out]; rfl
      have HXs : Hid (∃ a n c, x.v = .slice a n c) := hok.slice
      obtain ⟨xv, xfs, xm⟩ := x
      simp only at hxv
      subst hxv
      unfold Rc.val at HA
      simp only at HA c0 c1
      clear hok Hx
      obtain ⟨oa, oc, hov, -⟩ := GOwn.form HO.out
      have hln : (L.take j).length = j := by simp; omega
      rw [hln] at hov
      subst hov
      go_wp2_with fail
      refine HA.out.mono ?_
      rintro e w2 ⟨rfl, hb2⟩
      have ho2 : GOwn w2 76 2 (.slice oa j oc) (L.take j).length ((L.take j).flatMap c2r) := HO.out.keep fun k hk => hb2.block k (HK.out k hk).2
      obtain ⟨v', w3, hrun, ho3, hgr, hloc⟩ := run_appRc rtyR 44 (.slice oa j oc) (L.take j) ⟨.slice xa xfs.length xc, xfs, xm⟩ HXs.out ho2 (fun k hk => Nat.lt_of_lt_of_le (HK.out k hk).2 hb2.size) (by omega)
      have HO3 : Hid (GOwn w3 76 2 v' (L.take (j + 1)).length ((L.take (j + 1)).flatMap c2r)) := by unfold Hid; rw [HT.out]; exact ho3
      have hsz := hgr.size
      simp only [World.size_alloc] at hsz
      have HB3 : Hid (Below w.heap.size w w3) := by
        have h1 : Below w.heap.size w w2 := HB.out.trans (hb2.mono HB.out.size)
        have hba : Below w.heap.size w (w2.alloc (.cells #[.slice xa xfs.length xc, .int .i64 xm] 76)) := h1.alloc h1.size _
        exact hba.grown hgr (by have := h1.size; simp; omega) (fun k hk => (HK.out k hk).1)
      have HK3 : Hid (∀ k, v'.ownBlock = some k → w.heap.size ≤ k ∧ k < w3.heap.size) := fun k hk => by
        have hb := HB.out.size
        have hc := hb2.size
        rcases hloc k hk with q' | q'
        · have := HK.out k q'; omega
        · omega
      clear ho2 ho3 hgr hloc hb2
      go_wp2_with (at_builtin; refine wpList_app_runG rfl _ _ 44 44 rfl rfl _ _ _ rfl rfl hrun ?_)
      go_roundw
      case rel => exact ⟨j + 1, by go_num, by omega, HO3, HK3, HB3⟩
      case measure => simp [intOf]; omega
    · have hlt' : ¬ (j : Int) < (L.length : Int) := by omega
      have HE : Hid (RsR wr u3 L) := by
        have := HO.out
        rw [List.take_of_length_le (by omega)] at this
        exact rsr_of this fun x hx => (HV.out.ok x hx).below HB.out
      go_wp2_with fail
      go_ret
      exact ⟨_, rfl, HE.out, HB.out⟩
/-- Are two rows alike? -/
def eqRs : List Rc → List Rc → Bool
  | [], [] => true
  | a :: l, b :: m => eqR a b && eqRs l m
  | _, _ => false
theorem eqRs_iff : ∀ (l m : List Rc), eqRs l m = true ↔ l.map Rc.q = m.map Rc.q
  | [], [] => by simp [eqRs]
  | [], b :: m => by simp [eqRs]
  | a :: l, [] => by simp [eqRs]
  | a :: l, b :: m => by
    have ih := eqRs_iff l m
    simp only [eqRs, Bool.and_eq_true, ih, List.map_cons, List.cons.injEq]
    unfold eqR Rc.q
    simp only [decide_eq_true_eq, Prod.mk.injEq]
    exact ⟨fun ⟨⟨h1, h2⟩, h3⟩ => ⟨⟨h2, h1⟩, h3⟩, fun ⟨⟨h1, h2⟩, h3⟩ => ⟨⟨h2, h1⟩, h3⟩⟩
/-- SameAll of rows that are alike. -/
theorem map_q_at {l m : List Rc} (h : l.map Rc.q = m.map Rc.q) {k : Nat} (h1 : k < l.length) (h2 : k < m.length) : eqR l[k] m[k] = true := by
  have := congrArg (fun z => z[k]?) h
  simp only [List.getElem?_map, List.getElem?_eq_getElem h1, List.getElem?_eq_getElem h2, Option.map_some, Option.some.injEq] at this
  unfold Rc.q at this
  unfold eqR
  simp only [Prod.mk.injEq] at this
  exact decide_eq_true ⟨this.2, this.1⟩
set_option maxRecDepth 100000 in
set_option maxHeartbeats 2000000 in
theorem sameAll_true (v1 v2 : Value) (L M : List Rc) (hq : L.map Rc.q = M.map Rc.q) (w : World) (h1 : RsR w v1 L) (h2 : RsR w v2 M) : Calls Tryz.prog 13 #[v1, v2] w fun e w' => e = .returned (.bool true) ∧ Below w.heap.size w w' := by
  obtain ⟨a1, cap1, rfl, hm1⟩ := h1.form
  obtain ⟨a2, cap2, rfl, hm2⟩ := h2.form
  unfold maxLen at hm1 hm2
  have hlen : L.length = M.length := by have := congrArg List.length hq; simpa using this
  have HV1 : Hid (RsR w (.slice a1 L.length cap1) L) := h1
  have HV2 : Hid (RsR w (.slice a2 M.length cap2) M) := h2
  have HQ : Hid (L.map Rc.q = M.map Rc.q) := hq
  clear h1 h2 hq
  have hl' : ((L.length : Int) != (M.length : Int)) = false := by simp [hlen]
  have hl2 : ¬ (L.length : Int) ≠ (M.length : Int) := by simp [hlen]
  rw [hlen]
  rw [hlen] at HV1 hm1 hl' hl2
  have HLM : Hid (L.length = M.length) := hlen
  clear hlen
  go_enter Tryz.func13, Tryz.ntmps13
  go_wp2_with fail
  go_loopw [5] (fun i wr => ∃ j : Nat, i = .int .i64 (j : Int) ∧ j ≤ M.length ∧ Hid (Below w.heap.size w wr)) (fun i _ => M.length - (intOf i).toNat)
  case atStart => exact ⟨0, rfl, by omega, Below.refl _ _⟩
  case round =>
    obtain ⟨j, rfl, hj, HB⟩ := hrel
    by_cases hlt : j < M.length
    · have hlt' : (j : Int) < (M.length : Int) := by omega
      have hL : j < L.length := by rw [HLM.out]; exact hlt
      obtain ⟨x, Hx⟩ := hid_ex L[j]
      obtain ⟨y, Hy⟩ := hid_ex M[j]
      have HEq : Hid (eqR x y = true) := by unfold Hid; rw [Hx.out, Hy.out]; exact map_q_at HQ.out hL hlt
      obtain ⟨b1, o1, rfl, hb1, c0, c1, hk1⟩ := (HV1.out.below HB.out).two hL Hx.out
      obtain ⟨b2, o2, rfl, hb2, d0, d1, hk2⟩ := (HV2.out.below HB.out).two hlt Hy.out
      have HSm : Hid (∀ W : World, RcOk W x → RcOk W y → Calls Tryz.prog 33 #[x.val, y.val] W fun e w' => e = .returned (.bool true) ∧ Below W.heap.size W w') := fun W p1 p2 => by
        have := refSame_any x y W p1 p2
        rw [HEq.out] at this
        exact this
      obtain ⟨xa, xc, hxv, _⟩ := hk1.f.form
      obtain ⟨ya, yc, hyv, _⟩ := hk2.f.form
      have HK1 : Hid (RcOk wr x) := hk1
      have HK2 : Hid (RcOk wr y) := hk2
      obtain ⟨xv, xfs, xm⟩ := x
      obtain ⟨yv, yfs, ym⟩ := y
      simp only at hxv hyv
      subst hxv hyv
      unfold Rc.val at HSm
      simp only at HSm c0 c1 d0 d1
      have HC0 : Hid (wr.cell? ⟨b1, o1 + j * 2, none⟩ = some (.slice xa xfs.length xc)) := c0
      have HC1 : Hid (wr.cell? ⟨b1, o1 + j * 2 + 1, none⟩ = some (.int .i64 xm)) := c1
      have HD0 : Hid (wr.cell? ⟨b2, o2 + j * 2, none⟩ = some (.slice ya yfs.length yc)) := d0
      have HD1 : Hid (wr.cell? ⟨b2, o2 + j * 2 + 1, none⟩ = some (.int .i64 ym)) := d1
      have HP1 : Hid (b1 < wr.heap.size) := hb1
      have HP2 : Hid (b2 < wr.heap.size) := hb2
      clear hk1 hk2 Hx Hy c0 c1 d0 d1 hb1 hb2
      go_wp2_with fail
      refine wp_region_noPanic ?_
      refine wp_region_held_drew (S := (fun w' => Below wr.heap.size wr w')) (by kernel_rfl) ?_ (fun hHeld => ?_)
      · exact (Below.refl _ _).drew
      refine wpAnyH_take (i := 0) (v := .slice (some ⟨b1, o1, none⟩) M.length cap1) rfl (by kernel_rfl) (by kernel_rfl) (by kernel_rfl) (fun _ _ _ h => h) (Or.inl ⟨by rfl, ?_⟩) (by assumption) ?_
      · (intro w1 hSw; (try dsimp only at hSw); go_simp)
      simp only [List.getElem_toArray, List.getElem_cons_zero, Act.put, List.setIfInBounds_toArray, List.set_cons_zero, List.set_cons_succ]
      refine wpAnyH_take (i := 1) (v := .int .i64 (j : Int)) rfl (by kernel_rfl) (by kernel_rfl) (by kernel_rfl) (fun _ _ _ h => h) (Or.inl ⟨by rfl, ?_⟩) (by assumption) ?_
      · (intro w1 hSw; (try dsimp only at hSw); go_simp)
      simp only [List.getElem_toArray, List.getElem_cons_succ, List.getElem_cons_zero, Act.put, List.setIfInBounds_toArray, List.set_cons_zero, List.set_cons_succ]
      refine wpAnyH_take (i := 2) (v := .pointer (some ⟨b1, o1 + j * 2, none⟩)) rfl (by kernel_rfl) (by kernel_rfl) (by kernel_rfl) (fun _ _ _ h => h) (Or.inl ⟨by rfl, ?_⟩) (by assumption) ?_
      · (intro w1 hSw; (try dsimp only at hSw); go_simp)
      simp only [List.getElem_toArray, List.getElem_cons_succ, List.getElem_cons_zero, Act.put, List.setIfInBounds_toArray, List.set_cons_zero, List.set_cons_succ]
      refine wpAnyH_take (i := 3) (v := .agg #[.slice xa xfs.length xc, .int .i64 xm]) rfl (by kernel_rfl) (by kernel_rfl) (by kernel_rfl) (fun _ _ _ h => h) (Or.inl ⟨by rfl, ?_⟩) (by assumption) ?_
      · (intro w1 hSw; (try dsimp only at hSw); have h0 := (hSw.cell (p := ⟨b1, o1 + j * 2, none⟩) HP1.out).trans HC0.out; have h1 := (hSw.cell (p := ⟨b1, o1 + j * 2 + 1, none⟩) HP1.out).trans HC1.out; go_simp)
      simp only [List.getElem_toArray, List.getElem_cons_succ, List.getElem_cons_zero, Act.put, List.setIfInBounds_toArray, List.set_cons_zero, List.set_cons_succ]
      refine wpAnyH_take (i := 4) (v := .slice (some ⟨b2, o2, none⟩) M.length cap2) rfl (by kernel_rfl) (by kernel_rfl) (by kernel_rfl) (fun _ _ _ h => h) (Or.inl ⟨by rfl, ?_⟩) (by assumption) ?_
      · (intro w1 hSw; (try dsimp only at hSw); go_simp)
      simp only [List.getElem_toArray, List.getElem_cons_succ, List.getElem_cons_zero, Act.put, List.setIfInBounds_toArray, List.set_cons_zero, List.set_cons_succ]
      refine wpAnyH_take (i := 5) (v := .int .i64 (j : Int)) rfl (by kernel_rfl) (by kernel_rfl) (by kernel_rfl) (fun _ _ _ h => h) (Or.inl ⟨by rfl, ?_⟩) (by assumption) ?_
      · (intro w1 hSw; (try dsimp only at hSw); go_simp)
      simp only [List.getElem_toArray, List.getElem_cons_succ, List.getElem_cons_zero, Act.put, List.setIfInBounds_toArray, List.set_cons_zero, List.set_cons_succ]
      refine wpAnyH_take (i := 6) (v := .pointer (some ⟨b2, o2 + j * 2, none⟩)) rfl (by kernel_rfl) (by kernel_rfl) (by kernel_rfl) (fun _ _ _ h => h) (Or.inl ⟨by rfl, ?_⟩) (by assumption) ?_
      · (intro w1 hSw; (try dsimp only at hSw); go_simp)
      simp only [List.getElem_toArray, List.getElem_cons_succ, List.getElem_cons_zero, Act.put, List.setIfInBounds_toArray, List.set_cons_zero, List.set_cons_succ]
      refine wpAnyH_take (i := 7) (v := .agg #[.slice ya yfs.length yc, .int .i64 ym]) rfl (by kernel_rfl) (by kernel_rfl) (by kernel_rfl) (fun _ _ _ h => h) (Or.inl ⟨by rfl, ?_⟩) (by assumption) ?_
      · (intro w1 hSw; (try dsimp only at hSw); have h0 := (hSw.cell (p := ⟨b2, o2 + j * 2, none⟩) HP2.out).trans HD0.out; have h1 := (hSw.cell (p := ⟨b2, o2 + j * 2 + 1, none⟩) HP2.out).trans HD1.out; go_simp)
      simp only [List.getElem_toArray, List.getElem_cons_succ, List.getElem_cons_zero, Act.put, List.setIfInBounds_toArray, List.set_cons_zero, List.set_cons_succ]
      refine wpAnyH_ready (rs := [8]) (by kernel_rfl) (by simp) ?_
      refine AllReadyH.cons (o := _) rfl (fun K hK => ?_) AllReadyH.nil
      go_simp
      refine (HSm.out _ (HK1.out.below (Below.refl _ _).drew) (HK2.out.below (Below.refl _ _).drew)).mono ?_
      rintro e w3 ⟨rfl, hb3⟩
      have HB3 : Hid (Below wr.heap.size wr w3) := (Below.refl wr.heap.size wr).drew.trans hb3
      clear hb3
      refine hK.out _ _ ?_ (fun hHeld => ?_)
      · exact HB3.out
      clear hK K
      refine wpAnyH_take (i := 9) (v := .bool false) rfl (by kernel_rfl) (by kernel_rfl) (by kernel_rfl) (fun _ _ _ h => h) (Or.inl ⟨by rfl, ?_⟩) (by assumption) ?_
      · (intro w1 hSw; (try dsimp only at hSw); go_simp)
      simp only [List.getElem_toArray, List.getElem_cons_succ, List.getElem_cons_zero, Act.put, List.setIfInBounds_toArray, List.set_cons_zero, List.set_cons_succ]
      refine wpAnyH_done (by kernel_rfl) ?_ _
      refine NoPanic.normal ?_
      go_wp2_with fail
      go_roundw
      case rel => exact ⟨j + 1, by go_num, by omega, HB.out.trans (HB3.out.mono HB.out.size)⟩
      case measure => simp [intOf]; omega
    · have hlt' : ¬ (j : Int) < (M.length : Int) := by omega
      go_wp2_with fail
      go_ret
      exact ⟨rfl, HB.out⟩
end Go.Proofs.YtegcomopcoapjaaGreatDoor

/- wal: Replay. -/
namespace Go.Proofs.YtegcomopcoapjaaGreatDoor
open Go.RowKit Go.Shelf

/-- A slice of slices of bytes. -/
def DsR (w : World) (v : Value) (ds : List (List UInt8)) : Prop :=
  ∃ a cap, v = .slice a ds.length cap ∧ ds.length ≤ maxLen ∧ ∀ j (hj : j < ds.length), ∃ g u, a = some ⟨g, 0, none⟩ ∧ g < w.heap.size ∧ w.cell? ⟨g, j, none⟩ = some u ∧ Reads w u ds[j]
theorem DsR.form {w : World} {v : Value} {ds : List (List UInt8)} (h : DsR w v ds) : ∃ a cap, v = .slice a ds.length cap ∧ ds.length ≤ maxLen := by
  obtain ⟨a, cap, h1, h2, _⟩ := h
  exact ⟨a, cap, h1, h2⟩
theorem DsR.at {w : World} {a : Option Addr} {n cap : Nat} {ds : List (List UInt8)} (h : DsR w (.slice a n cap) ds) {j : Nat} (hj : j < ds.length) {d : List UInt8} (hd : d = ds[j]) : ∃ g u, a = some ⟨g, 0, none⟩ ∧ g < w.heap.size ∧ w.cell? ⟨g, j, none⟩ = some u ∧ Reads w u d := by
  subst hd
  obtain ⟨a', cap', e, _, h3⟩ := h
  cases e
  exact h3 j hj
theorem DsR.below {w w' : World} {v : Value} {ds : List (List UInt8)} (h : DsR w v ds) (hb : Below w.heap.size w w') : DsR w' v ds := by
  obtain ⟨a, cap, h1, h2, h3⟩ := h
  refine ⟨a, cap, h1, h2, fun j hj => ?_⟩
  obtain ⟨g, u, q1, q2, q3, q4⟩ := h3 j hj
  exact ⟨g, u, q1, Nat.lt_of_lt_of_le q2 hb.size, (hb.cell (p := ⟨g, j, none⟩) q2).trans q3, q4.below hb⟩
theorem dsr_of {w : World} {base : Nat} {vl : Value} {xs : List Fr} (h : w.ownsRow base 61 1 vl xs.length (xs.map Fr.v)) (hx : ∀ x ∈ xs, Own w base x.v x.D) : DsR w vl (xs.map Fr.D) := by
  have h' : w.ownsRow base 61 1 vl (xs.map Fr.v).length (xs.map Fr.v) := by rw [List.length_map]; exact h
  rcases Nat.eq_zero_or_pos xs.length with h0 | h0
  · obtain ⟨a, c, hv⟩ := row_formS h
    have : xs = [] := List.length_eq_zero_iff.1 h0
    subst this
    exact ⟨a, c, hv, Nat.zero_le _, fun j hj => by simp at hj⟩
  · obtain ⟨g, cap, hv, _, hg, hc⟩ := row_at h' (by simpa using h0)
    have hm : xs.length ≤ maxLen := by
      rcases h.2 with ⟨_, q⟩ | ⟨g', cap', cur, _, _, _, q1, q2, _⟩
      · rw [q]; exact Nat.zero_le _
      · exact Nat.le_trans q1 q2
    refine ⟨_, cap, by simpa using hv, by simpa using hm, fun j hj => ?_⟩
    simp only [List.length_map] at hj
    refine ⟨g, xs[j].v, rfl, hg, by have := hc j (by simpa using hj); simpa using this, ?_⟩
    have := (hx xs[j] (List.getElem_mem hj)).reads
    simpa using this
theorem fm_of {xs : List Fr} {bs : List UInt8} (h : xs.map Fr.p = alF (bs.length + 1) bs) : xs.map Fr.D = fmS bs := by
  unfold fmS
  rw [← h, List.map_map]
  rfl
theorem rc_step {ds : List (List UInt8)} {L : List Rc} {k : Nat} (hk : k < ds.length) (h : rcF ds = L.map Rc.q ++ rcF (ds.drop k)) {d : List UInt8} (hd : d = ds[k]) :
    (rdR d = none → rcF ds = L.map Rc.q) ∧ (∀ r : Rc, rdR d = some r.q → rcF ds = (L ++ [r]).map Rc.q ++ rcF (ds.drop (k + 1))) := by
  subst hd
  rw [List.drop_eq_getElem_cons hk] at h
  constructor
  · intro hn
    rw [h, rcF_none hn, List.append_nil]
  · intro r hr
    rw [h, rcF_some hr]
    simp
theorem alF_cnt : ∀ (k : Nat) (l : List UInt8), (alF k l).length ≤ k
  | 0, _ => by simp [alF]
  | k + 1, l => by
    rw [alF]
    split
    · have := alF_cnt k (l.drop (nxF l).2.1)
      simp only [List.length_cons]; omega
    · simp
theorem fmS_cnt (b : List UInt8) : (fmS b).length ≤ b.length + 1 := by unfold fmS; rw [List.length_map]; exact alF_cnt _ _
/-- What Replay tells. -/
def RpPost (w : World) (b : List UInt8) (e : Ending) (w' : World) : Prop := ∃ v L, e = .returned (.tuple #[v, .int .i64 0]) ∧ RsR w' v L ∧ (∀ B : World, (∀ k, w.heap.size ≤ k → k < w'.heap.size → B.heap[k]? = w'.heap[k]?) → RsR B v L) ∧ L.map Rc.q = rcF (fmS b) ∧ Below w.heap.size w w'
set_option maxRecDepth 100000 in
set_option maxHeartbeats 2000000 in
theorem replay_any {w : World} {O : Nat → Prop} {p : Value} {s : SfS} (h : Fs w O p s) (n : Int) (hno : isNo n = true) (hT : n < 100 ∨ Tb w) {b : List UInt8} (hlk : sfFe (sfLook (nmF seg n) s.dir) = 0) (hrd : sfRead s (nmF seg n) = b) (hbl : b.length ≤ 1000000) (hfm : ∀ d ∈ fmS b, d.length ≤ 5000) :
    Calls Tryz.prog 12 #[p, .int .i64 n] w (RpPost w b) := by
  obtain ⟨g0, rfl⟩ := h.ptr
  have HFs : Hid (Fs w O (.pointer (some ⟨g0, 0, none⟩)) s) := h
  have HT : Hid (n < 100 ∨ Tb w) := hT
  have HN : Hid (isNo n = true) := hno
  obtain ⟨NM, HNM⟩ := hid_ex (nmF seg n)
  have HNl : Hid (NM.length ≤ 17) := by rw [HNM.out]; exact nm_len
  have HLk : Hid (sfFe (sfLook NM s.dir) = 0) := by rw [HNM.out]; exact hlk
  have HRd : Hid (sfRead s NM = b) := by rw [HNM.out]; exact hrd
  have HFm : Hid (∀ d ∈ fmS b, d.length ≤ 5000) := hfm
  clear h hT hno hlk hrd hfm
  go_enter Tryz.func12, Tryz.ntmps12
  go_wp2_with fail
  refine (isNumber_any n w).mono ?_
  rintro e w1 ⟨rfl, hw⟩
  subst w1
  rw [HN.out]
  go_wp2_with fail
  refine (name_any seg (by decide) n w HT.out).mono ?_
  rintro e w1 ⟨rfl, hb1⟩
  rw [← HNM.out]
  have HF1 : Hid (Fs w1 O (.pointer (some ⟨g0, 0, none⟩)) s) := HFs.out.below hb1
  have HB1 : Hid (Below w.heap.size w w1) := hb1
  clear hb1
  go_wp2_with fail
  refine (HF1.out.read NM (by have := HNl.out; unfold maxLen; omega)).mono ?_
  rintro e w2 ⟨vr, rfl, how, hb2⟩
  rw [HLk.out]
  rw [HRd.out] at how
  have HB2 : Hid (Below w.heap.size w w2) := HB1.out.trans (hb2.mono HB1.out.size)
  have HOw : Hid (Reads w2 vr b) := how.reads
  obtain ⟨ra, rc, hrv, _⟩ := how.form
  subst hrv
  clear how hb2 HF1
  go_wp2_with fail
  refine (all_any _ b hbl w2 HOw.out).mono ?_
  rintro e w3 ⟨vl, xs, rfl, hxs, hrow, hown, hb3⟩
  have HB3 : Hid (Below w.heap.size w w3) := HB2.out.trans (hb3.mono HB2.out.size)
  have hds : DsR w3 vl (xs.map Fr.D) := dsr_of hrow hown
  rw [fm_of hxs] at hds
  obtain ⟨ds, HDs⟩ := hid_ex (fmS b)
  have hcnt := fmS_cnt b
  rw [← HDs.out] at hcnt
  unfold RpPost
  rw [← HDs.out] at hds HFm ⊢
  obtain ⟨da, dc, rfl, hdm⟩ := hds.form
  unfold maxLen at hdm
  have HD : Hid (DsR w3 (.slice da ds.length dc) ds) := hds
  generalize ksum (alF (b.length + 1) b) = KS
  clear hds hxs hrow hown hb3
  go_wp2_with fail
  go_loopw [10, 35] (fun o i wr => ∃ (k : Nat) (L : List Rc), i = .int .i64 (k : Int) ∧ k ≤ ds.length ∧ L.length = k ∧ Hid (RB 37 w3.heap.size wr o L) ∧ Hid (rcF ds = L.map Rc.q ++ rcF (ds.drop k)) ∧ Hid (Below w3.heap.size w3 wr)) (fun _ i _ => ds.length - (intOf i).toNat)
  case atStart => exact ⟨0, [], rfl, by omega, rfl, RB.nil _ _ _, rfl, Below.refl _ _⟩
  case round =>
    obtain ⟨k, L, rfl, hk, hLk, HR, HQ, HB⟩ := hrel
    by_cases hlt : k < ds.length
    · have hlt' : (k : Int) < (ds.length : Int) := by omega
      obtain ⟨d, Hd⟩ := hid_ex ds[k]
      have HSt := rc_step hlt HQ.out Hd.out
      have hdl : d.length ≤ 5000 := HFm.out d (by rw [Hd.out]; exact List.getElem_mem hlt)
      obtain ⟨g, u, rfl, hg, c0, hrd⟩ := (HD.out.below HB.out).at hlt Hd.out
      have HC : Hid (Calls Tryz.prog 32 #[u] wr (RdW wr d)) := walRead_any u d hdl wr hrd
      obtain ⟨ua, uc, rfl, _⟩ := hrd.form
      have HS1 : Hid (rdR d = none → rcF ds = L.map Rc.q) := HSt.1
      have HS2 : Hid (∀ r : Rc, rdR d = some r.q → rcF ds = (L ++ [r]).map Rc.q ++ rcF (ds.drop (k + 1))) := HSt.2
      clear HSt hrd
      obtain ⟨oa, oc, hov, -⟩ := GOwn.form HR.out.o
      rw [hLk] at hov
      subst hov
      go_wp2_with fail
      refine HC.out.mono ?_
      rintro e w4 ⟨hb4, r, rfl, hok, hag, hp, hm⟩
      obtain ⟨xa, xc, hxv, _⟩ := hok.f.form
      have HAg : Hid (∀ B : World, (∀ k, wr.heap.size ≤ k → k < w4.heap.size → B.heap[k]? = w4.heap[k]?) → RcOk B r) := hag
      have HB4 : Hid (Below wr.heap.size wr w4) := hb4
      have hq : rdR d = none ∨ (rdR d = some r.q ∧ rdE d = 0) := by
        cases hc : rdR d with
        | none => exact .inl rfl
        | some z =>
          refine .inr ⟨?_, by unfold rdE; rw [hc]; rfl⟩
          unfold Rc.q
          rw [hp, hm]
          unfold rdV
          rw [hc]; rfl
      clear hok hag hb4 hp hm
      rcases hq with hn | ⟨hs, hz⟩
      · have hz : rdE d = 90 := by unfold rdE; rw [hn]; rfl
        have HQE : Hid (rcF ds = L.map Rc.q) := HS1.out hn
        rw [hz]
        obtain ⟨xv, xfs, xm⟩ := r
        simp only at hxv
        subst hxv
        unfold Rc.val
        simp only
        clear HS1 HS2 hn hz
        go_wp2_with fail
        go_ret2
        exact ⟨_, L, rfl, (HR.out.below (HB4.out.alloc HB4.out.size _)).rsr, fun B hB => (HR.out.below (HB4.out.alloc HB4.out.size _)).far B fun k h1 h2 => hB k (Nat.le_trans HB3.out.size h1) h2, by rw [← HDs.out]; exact HQE.out.symm, HB3.out.trans ((HB.out.trans ((HB4.out.alloc HB4.out.size _).mono HB.out.size)).mono HB3.out.size)⟩
      · have HQ2 : Hid (rcF ds = (L ++ [r]).map Rc.q ++ rcF (ds.drop (k + 1))) := HS2.out r hs
        rw [hz]
        obtain ⟨xv, xfs, xm⟩ := r
        simp only at hxv
        subst hxv
        unfold Rc.val
        simp only
        clear HS1 HS2 hs hz
        obtain ⟨v', w5, hrun, hrb, hb5⟩ := RB.app rtyW (W := w4.alloc (.cells #[.slice xa xfs.length xc, .int .i64 xm] 37)) HR.out (HB4.out.alloc HB4.out.size _) HB.out.size ⟨.slice xa xfs.length xc, xfs, xm⟩ (fun B hB => HAg.out B fun k h1 h2 => (hB k h1 (by simp; omega)).trans (Below.heap_alloc _ _ _ h2)) 33 (by omega)
        have HR5 : Hid (RB 37 w3.heap.size w5 v' (L ++ [⟨.slice xa xfs.length xc, xfs, xm⟩])) := hrb
        have HB5 : Hid (Below w3.heap.size w3 w5) := (HB.out.trans ((HB4.out.alloc HB4.out.size _).mono HB.out.size)).trans hb5
        clear hrb hb5 HAg
        simp only [World.size_alloc] at hrun
        go_wp2_with (at_builtin; refine wpList_app_runG rfl _ _ 33 33 rfl rfl _ _ _ rfl rfl hrun ?_)
        go_roundw
        case rel => exact ⟨k + 1, L ++ [⟨.slice xa xfs.length xc, xfs, xm⟩], by go_num, by omega, by simp; omega, HR5, HQ2, HB5⟩
        case measure => simp [intOf]; omega
    · have hlt' : ¬ (k : Int) < (ds.length : Int) := by omega
      have HE : Hid (RsR wr u10 L) := HR.out.rsr
      have HQE : Hid (L.map Rc.q = rcF ds) := by
        have := HQ.out
        rw [List.drop_of_length_le (by omega)] at this
        unfold Hid
        rw [this]; simp [rcF]
      go_wp2_with fail
      go_ret2
      exact ⟨_, L, rfl, HE.out, fun B hB => HR.out.far B fun k h1 h2 => hB k (Nat.le_trans HB3.out.size h1) h2, by rw [← HDs.out]; exact HQE.out, HB3.out.trans (HB.out.mono HB3.out.size)⟩
end Go.Proofs.YtegcomopcoapjaaGreatDoor

/- Frames one behind the other, cut anywhere: the pure half of F6, for seats that have no list of slices. -/
namespace Go.Proofs.YtegcomopcoapjaaGreatDoor
open Go.RowKit

def cat : List (List UInt8) → List UInt8
  | [] => []
  | l :: L => frm l ++ cat L
def en (L : List (List UInt8)) (k : Nat) : Nat := (cat (L.take k)).length
def pr (l : List UInt8) : List UInt8 × Nat := (l, l.length + 8)
theorem en_zero (L : List (List UInt8)) : en L 0 = 0 := rfl
theorem en_cons (l : List UInt8) (L : List (List UInt8)) (k : Nat) : en (l :: L) (k + 1) = l.length + 8 + en L k := by
  unfold en; rw [List.take_succ_cons, cat, List.length_append, frm_len]
theorem cat_append (A B : List (List UInt8)) : cat (A ++ B) = cat A ++ cat B := by
  induction A with
  | nil => rfl
  | cons a A ih => rw [List.cons_append, cat, cat, ih, List.append_assoc]
theorem cat_snoc (L : List (List UInt8)) (k : Nat) (h : k < L.length) : cat (L.take (k + 1)) = cat (L.take k) ++ frm L[k] := by
  rw [List.take_add_one, List.getElem?_eq_getElem h, cat_append]
  simp [cat]
theorem en_snoc (L : List (List UInt8)) (k : Nat) (h : k < L.length) : en L (k + 1) = en L k + (L[k].length + 8) := by
  unfold en; rw [cat_snoc L k h, List.length_append, frm_len]
theorem en_ge (L : List (List UInt8)) : ∀ k, k ≤ L.length → 8 * k ≤ en L k := by
  intro k
  induction k with
  | zero => intro _; simp [en_zero]
  | succ k ih => intro h; rw [en_snoc L k (by omega)]; have := ih (by omega); omega
theorem nx_cut (l : List UInt8) (hl : l.length ≤ 65535) (c : Nat) (hc : c < l.length + 8) : (nxF ((frm l).take c)).2.2 ≠ 0 := by
  have hlen : ((frm l).take c).length = c := by rw [List.length_take, frm_len]; omega
  unfold nxF
  by_cases h4 : c < 4
  · rw [if_pos (by omega)]; simp
  · have e4 : ((frm l).take c).take 4 = four l.length := by
      rw [List.take_take, Nat.min_eq_left (by omega)]; unfold frm; rw [List.append_assoc]; rfl
    rw [e4, vle_four' _ (by omega), if_neg (by omega), if_neg (by omega), if_pos (by omega)]; simp
theorem alF_stop (f : Nat) (l : List UInt8) (h : (nxF l).2.2 ≠ 0) : alF f l = [] := by
  cases f with
  | zero => rfl
  | succ f => rw [alF, if_neg h]
theorem al_cut : ∀ (k : Nat) (L : List (List UInt8)) (c f : Nat), k ≤ L.length → (∀ l ∈ L, l.length ≤ 65535) → en L k ≤ c → (k = L.length ∨ c < en L (k + 1)) → k ≤ f → alF f ((cat L).take c) = (L.take k).map pr
  | 0, [], c, f, _, _, _, _, _ => by
    rw [cat, List.take_nil]; exact alF_stop _ _ (by simp [nxF])
  | 0, l :: L, c, f, _, hl, _, h, _ => by
    have hc : c < l.length + 8 := by
      rcases h with h | h
      · simp at h
      · rw [en_cons, en_zero] at h; omega
    rw [cat, List.take_append_of_le_length (by rw [frm_len]; omega)]
    exact alF_stop _ _ (nx_cut l (hl l (List.mem_cons_self ..)) c hc)
  | k + 1, [], _, _, h, _, _, _, _ => by simp at h
  | k + 1, l :: L, c, f, h1, hl, h2, h3, h4 => by
    obtain ⟨f, rfl⟩ : ∃ f', f = f' + 1 := ⟨f - 1, by omega⟩
    rw [en_cons] at h2
    rw [cat, List.take_append, List.take_of_length_le (by rw [frm_len]; omega), alF_frm f l _ (hl l (List.mem_cons_self ..)), frm_len, List.take_succ_cons, List.map_cons,
      al_cut k L (c - (l.length + 8)) f (by simpa using h1) (fun x hx => hl x (List.mem_cons_of_mem _ hx)) (by omega) (by
        rcases h3 with h3 | h3
        · exact .inl (by simpa using h3)
        · rw [en_cons] at h3; exact .inr (by omega)) (by omega)]
    rfl
end Go.Proofs.YtegcomopcoapjaaGreatDoor
