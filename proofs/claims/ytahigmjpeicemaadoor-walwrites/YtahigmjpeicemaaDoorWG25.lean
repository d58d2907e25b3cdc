/- WR2 WAp, joined. -/
import Derived.Test.YtahigmjpeicemaaDoorWG23
import Derived.Test.YtahigmjpeicemaaDoorWG24
/- law12's Great and As. -/
namespace Go.Proofs.YtahigmjpeicemaaDoor
open Go.RowKit Go.Shelf

set_option maxRecDepth 100000 in
theorem as_any (r : Rc) (w : World) (h : RcOk w r) : Calls Tryd.prog 9 #[r.val] w fun e w' => e = .returned r.val ∧ Below w.heap.size w w' := by
  obtain ⟨a, cap, hv, _⟩ := h.f.form
  unfold Rc.val
  rw [hv]
  clear h hv
  go_enter Tryd.func9, Tryd.ntmps9
  go_wp2_with fail
  exact bodyPost_ret (v := .agg #[.slice a r.fs.length cap, .int .i64 r.m]) (by simp [results, Tryd.results9, go_sem]) rfl ⟨rfl, ((((Below.refl _ _).alloc (Nat.le_refl _) _).alloc (by simp) _))⟩
def GrPost (w : World) (e : Ending) (w' : World) : Prop := ∃ g, e = .returned (.bool g) ∧ Below w.heap.size w w'
set_option maxRecDepth 100000 in
set_option maxHeartbeats 2000000 in
theorem great_any (r : Rc) (w : World) (h : RcOk w r) : Calls Tryd.prog 5 #[r.val] w (GrPost w) := by
  obtain ⟨a, cap, hv, hl1, hl2⟩ := h.f.form
  unfold maxLen at hl2
  have HB : Hid (Below w.heap.size w (w.alloc (.cells #[.slice a r.fs.length cap, .int .i64 r.m] 24))) := (Below.refl _ _).alloc (Nat.le_refl _) _
  have HF : Hid (FReads (w.alloc (.cells #[.slice a r.fs.length cap, .int .i64 r.m] 24)) (.slice a r.fs.length cap) r.fs) := by
    have := h.f.below HB.out
    rw [hv] at this
    exact this
  unfold Rc.val
  rw [hv]
  clear hv h
  obtain ⟨rv, fs, m⟩ := r
  simp only at *
  by_cases h40 : (40 : Int) < (fs.length : Int)
  · go_enter Tryd.func5, Tryd.ntmps5
    go_wp2_with fail
    go_ret
    exact ⟨_, rfl, HB.out⟩
  · go_enter Tryd.func5, Tryd.ntmps5
    go_wp2_with fail
    go_loop [3] (fun i => ∃ k : Nat, k ≤ fs.length ∧ i = .int .i64 (k : Int)) (fun i => fs.length - (intOf i).toNat)
    case atStart => exact ⟨0, by omega, rfl⟩
    case round =>
      obtain ⟨k, hk, rfl⟩ := hrel
      by_cases hlt : k < fs.length
      · obtain ⟨b, off, rfl, hb⟩ := HF.out.ptr (by omega)
        obtain ⟨f, Hf⟩ := hid_ex fs[k]
        obtain ⟨d0, d1, d2, hfr⟩ := HF.out.three hlt f Hf.out
        obtain ⟨fa, fcp, hfv, hfm⟩ := hfr.r.form
        unfold maxLen at hfm
        rw [hfv] at d0
        have HR : Hid (SReads (w.alloc (.cells #[.slice (some ⟨b, off, none⟩) fs.length cap, .int .i64 m] 24)) (.slice fa f.D.length fcp) f.D) := by rw [← hfv]; exact hfr.r
        clear hfr hfv d1 d2
        by_cases h8 : (8 : Int) < (f.D.length : Int)
        · go_wp2_with fail
          go_ret
          exact ⟨_, rfl, HB.out⟩
        · go_wp2_with fail
          go_loop [4] (fun i => ∃ j : Nat, j ≤ f.D.length ∧ i = .int .i64 (j : Int)) (fun i => f.D.length - (intOf i).toNat)
          case atStart => exact ⟨0, by omega, rfl⟩
          case round =>
            obtain ⟨j, hj, rfl⟩ := hrel
            by_cases hjl : j < f.D.length
            · obtain ⟨b3, o3, rfl, _, hs⟩ := HR.out.at j hjl
              have hsz := HR.out.size _ (List.getElem_mem hjl)
              unfold maxLen at hsz
              generalize f.D[j] = s at *
              by_cases h100 : (100 : Int) < (s.size : Int)
              · go_wp2_with fail
                go_ret
                exact ⟨_, rfl, HB.out⟩
              · go_wp2_with fail
                go_round
                case rel => exact ⟨j + 1, by omega, by go_num⟩
                case measure => simp [intOf]; omega
            · go_wp2_with fail
              go_round
              case rel => exact ⟨k + 1, by omega, by go_num⟩
              case measure => simp [intOf]; omega
      · go_wp2_with fail
        go_ret
        exact ⟨_, rfl, HB.out⟩
end Go.Proofs.YtahigmjpeicemaaDoor

/- The walk of WalApart. -/
namespace Go.Proofs.YtahigmjpeicemaaDoor
open Go.RowKit Go.Shelf

theorem FcB_p {w : World} {r : Rc} (h : RcOk w r) : ∀ f ∈ r.p, FcB f := h.pb
theorem wr_eq {w : World} {r s : Rc} (hr : RcOk w r) (hs : RcOk w s) (h1 : rightR r.p r.m = true) (h2 : rightR s.p s.m = true) : decide (wrB r = wrB s) = eqR r s := by
  unfold wrB eqR
  rw [if_pos h1, if_pos h2, Bool.eq_iff_iff]
  simp only [decide_eq_true_eq]
  constructor
  · intro h
    obtain ⟨a, b⟩ := wrR_inj h1 hr.pb h2 hs.pb h
    exact ⟨b, a⟩
  · rintro ⟨a, b⟩
    rw [a, b]
theorem wrE_yes {r : Rc} (h : rightR r.p r.m = true) : wrE r = 0 := by unfold wrE; rw [if_pos h]
theorem wrE_no {r : Rc} (h : rightR r.p r.m = false) : wrE r = 90 := by unfold wrE; rw [if_neg (by rw [h]; simp)]
def AlE (W : World) (e : Ending) (w' : World) : Prop := e = .returned (.bool true) ∧ Below W.heap.size W w'
end Go.Proofs.YtahigmjpeicemaaDoor
