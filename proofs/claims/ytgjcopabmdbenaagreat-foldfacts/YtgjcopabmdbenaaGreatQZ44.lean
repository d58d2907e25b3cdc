/- FK1, joined. -/
import Derived.Test.YtgjcopabmdbenaaGreatQZ43
/- What is known of all that comes together: the pure half of FoldKeeps; the contract of law15's Many. -/
namespace Go.Proofs.YtgjcopabmdbenaaGreat
open Go.RowKit

/-- All that is known, from behind. -/
def smr (L : List En) : Ag := L.foldr (fun x a => mrg x.2 a) agZ
theorem smr_cons (x : En) (L : List En) : smr (x :: L) = mrg x.2 (smr L) := rfl
theorem smr_gd : ∀ {L : List En}, GdE L → Gd (smr L)
  | [], _ => Gd.zero
  | x :: L, h => by
    obtain ⟨h1, h2⟩ := GdE.cons.1 h
    exact h1.mrg (smr_gd h2)
theorem smr_ins {x : En} (hx : Gd x.2) : ∀ {L : List En}, GdE L → smr (ins x L) = mrg x.2 (smr L)
  | [], _ => rfl
  | y :: L, h => by
    obtain ⟨h1, h2⟩ := GdE.cons.1 h
    have hs := smr_gd h2
    rcases ltK_tri x.1 y.1 with q | q | q
    · rw [ins_lt q]; rfl
    · rw [ins_eq q, smr_cons, smr_cons]
      exact gd_assoc hx h1 hs
    · rw [ins_gt q, smr_cons, smr_cons, smr_ins hx h2, ← gd_assoc h1 hx hs, gd_comm h1 hx, gd_assoc hx h1 hs]
theorem smr_can : ∀ {A : List En}, GdE A → smr (can A) = smr A
  | [], _ => rfl
  | x :: A, h => by
    obtain ⟨h1, h2⟩ := GdE.cons.1 h
    show smr (ins x (can A)) = _
    rw [smr_ins h1 (can_gd h2), smr_can h2]
    rfl
/-- All that is known, from the front: as a loop has it. -/
def sml (z : Ag) (L : List En) : Ag := L.foldl (fun a x => mrg a x.2) z
theorem sml_smr : ∀ {L : List En} {z : Ag}, Gd z → GdE L → sml z L = mrg z (smr L)
  | [], z, hz, _ => (gd_right hz).symm
  | x :: L, z, hz, h => by
    obtain ⟨h1, h2⟩ := GdE.cons.1 h
    show sml (mrg z x.2) L = _
    rw [sml_smr (hz.mrg h1) h2, smr_cons]
    exact gd_assoc hz h1 (smr_gd h2)
/-- What is wanted, as its loop has it. -/
def wtF (R : Rl) (wm : Int) (z : Ag) (fs : List Fa) : Ag := fs.foldl (fun a f => if goneB R wm f.t then a else mrg a (oneF f.x)) z
theorem fc_gone {R : Rl} (hR : RightP R) {t : Int} (wm : Int) : goneB R wm (t - t % R.sz 0) = goneB R wm t := by
  have hl : 0 < R.len := by have := hR.1; omega
  have hs := (isS_iff _).1 (sz_ok hR (i := 0) hl)
  have hq : (t - t % R.sz 0) / R.sz 0 = t / R.sz 0 := by
    have := in_bucket (t := t) (s := R.sz 0) (y := 0) hs.1 (Int.le_refl _) (by omega)
    rw [Int.add_zero] at this
    exact this
  unfold goneB
  rw [end_same hR hq (j := R.len - 1) (by omega) (by omega)]
theorem fcE_gd (R : Rl) (fs : List Fa) : GdE (fs.map (fcE R)) := fun y hy => by
  obtain ⟨f, _, rfl⟩ := List.mem_map.1 hy
  exact oneF_gd f.x
theorem wt_fm {R : Rl} (hR : RightP R) {wm : Int} : ∀ {fs : List Fa} {z : Ag}, (∀ f ∈ fs, mayF f = true) → wtF R wm z fs = sml z (fm (fk R wm) (fs.map (fcE R)))
  | [], _, _ => rfl
  | f :: fs, z, h => by
    have hf := h f (List.mem_cons_self ..)
    have hI := fcI_ok hR hf
    have ht : isT f.t = true := by unfold mayF at hf; simp at hf; exact hf.1
    have hk := fk_it (wm := wm) hI
    rw [fcI_E] at hk
    have hg : goneB R wm (fcI R f).f = goneB R wm f.t := fc_gone hR wm
    rw [hg] at hk
    have ih := fun z => wt_fm hR (wm := wm) (fs := fs) (z := z) (fun g hg => h g (List.mem_cons_of_mem _ hg))
    rw [List.map_cons, fm_cons, hk]
    show wtF R wm (if goneB R wm f.t then z else mrg z (oneF f.x)) fs = _
    cases goneB R wm f.t with
    | true => exact ih z
    | false => exact ih (mrg z (oneF f.x))
theorem keeps_pure {R : Rl} (hR : RightP R) {wm : Int} {fs : List Fa} (h : fs.all mayF = true) : wtF R wm agZ fs = sml agZ (foldF R wm (fs.map (fcE R))) := by
  have hg := fcE_gd R fs
  have hm : ∀ f ∈ fs, mayF f = true := fun f hf => List.all_eq_true.1 h f hf
  rw [wt_fm hR hm, sml_smr Gd.zero (fm_gd _ hg), sml_smr Gd.zero (foldF_gd hg)]
  unfold foldF
  rw [smr_can (fm_gd _ hg)]
theorem wt_next {R : Rl} {wm : Int} {fs : List Fa} {k : Nat} (hk : k < fs.length) : wtF R wm agZ (fs.take (k + 1)) = if goneB R wm fs[k].t then wtF R wm agZ (fs.take k) else mrg (wtF R wm agZ (fs.take k)) (oneF fs[k].x) := by
  unfold wtF
  rw [List.take_add_one, List.getElem?_eq_getElem hk, List.foldl_append]
  rfl
theorem sm_next {L : List En} {k : Nat} (hk : k < L.length) : sml agZ (L.take (k + 1)) = mrg (sml agZ (L.take k)) L[k].2 := by
  unfold sml
  rw [List.take_add_one, List.getElem?_eq_getElem hk, List.foldl_append]
  rfl
theorem wt_gd {R : Rl} {wm : Int} : ∀ {fs : List Fa} {z : Ag}, Gd z → Gd (wtF R wm z fs)
  | [], _, h => h
  | f :: fs, z, h => by
    show Gd (wtF R wm (if goneB R wm f.t then z else mrg z (oneF f.x)) fs)
    cases goneB R wm f.t with
    | true => exact wt_gd h
    | false => exact wt_gd (h.mrg (oneF_gd f.x))
theorem sml_gd : ∀ {L : List En} {z : Ag}, Gd z → GdE L → Gd (sml z L)
  | [], _, h, _ => h
  | x :: L, z, h, hL => by
    obtain ⟨h1, h2⟩ := GdE.cons.1 hL
    exact sml_gd (L := L) (h.mrg h1) h2
def Mn15 (fs : List Fa) (w : World) (e : Ending) (w' : World) : Prop := ∃ g, e = .returned (.bool g) ∧ (g = false → fs.length ≤ 60) ∧ w' = w
set_option maxRecDepth 100000 in
set_option maxHeartbeats 2000000 in
theorem many15_any (v : Value) (fs : List Fa) (w : World) (hF : FReads w v fs) : Calls Tryz.prog 4 #[v] w (Mn15 fs w) := by
  have HF : Hid (FReads w v fs) := hF
  obtain ⟨a, cap, rfl, hm1, hm2⟩ := hF.form
  unfold maxLen at hm2
  clear hF
  by_cases h60 : fs.length ≤ 60
  · go_enter Tryz.func4, Tryz.ntmps4
    go_wp2_with fail
    go_loopw [3] (fun i wr => ∃ k : Nat, k ≤ fs.length ∧ i = .int .i64 (k : Int) ∧ Hid (wr = w)) (fun i _ => fs.length - (intOf i).toNat)
    case atStart => exact ⟨0, by omega, rfl, rfl⟩
    case round =>
      obtain ⟨k, hk, rfl, HW⟩ := hrel
      obtain rfl := HW.out
      clear HW
      by_cases hlt : k < fs.length
      · obtain ⟨b, off, rfl, hbw, hcw, hsr, _⟩ := HF.out.at hlt
        have c0 := hcw 0 (by decide)
        simp only [c3, List.getElem_cons_zero, Nat.add_zero] at c0
        obtain ⟨D, HD⟩ := hid_ex fs[k].D
        rw [← HD.out] at hsr
        obtain ⟨va, vc, hvd, hdm⟩ := hsr.form
        have HSR : Hid (SReads wr (.slice va D.length vc) D) := by rw [← hvd]; exact hsr
        rw [hvd] at c0
        unfold maxLen at hdm
        have HSZ : Hid _ := hsr.size
        clear hcw hsr hvd HD
        by_cases h20 : D.length ≤ 20
        · go_wp2_with fail
          go_loopw [4] (fun i wq => ∃ m : Nat, m ≤ D.length ∧ i = .int .i64 (m : Int) ∧ Hid (wq = wr)) (fun i _ => D.length - (intOf i).toNat)
          case atStart => exact ⟨0, by omega, rfl, rfl⟩
          case round =>
            obtain ⟨m, hm, rfl, HW⟩ := hrel
            obtain rfl := HW.out
            clear HW
            by_cases hmt : m < D.length
            · obtain ⟨db, doff, rfl, _, d0⟩ := HSR.out.at m hmt
              have hz := HSZ.out D[m] (List.getElem_mem hmt)
              unfold maxLen at hz
              obtain ⟨X, HX⟩ := hid_ex D[m]
              rw [← HX.out] at d0 hz
              by_cases h100 : X.size ≤ 100
              · clear HX
                go_wp2_with fail
                go_roundw
                case rel => exact ⟨m + 1, by omega, by go_num, trivial⟩
                case measure => simp [intOf]; omega
              · clear HX
                go_wp2_with fail
                go_ret
                exact ⟨true, rfl, fun h => (by cases h), rfl⟩
            · obtain rfl : m = D.length := by omega
              go_wp2_with fail
              go_roundw
              case rel => exact ⟨k + 1, by omega, by go_num, trivial⟩
              case measure => simp [intOf]; omega
        · go_wp2_with fail
          go_ret
          exact ⟨true, rfl, fun h => (by cases h), rfl⟩
      · obtain rfl : k = fs.length := by omega
        go_wp2_with fail
        go_ret
        exact ⟨false, rfl, fun _ => h60, rfl⟩
  · go_enter Tryz.func4, Tryz.ntmps4
    go_wp2_with fail
    go_ret
    exact ⟨true, rfl, fun h => (by cases h), rfl⟩
end Go.Proofs.YtgjcopabmdbenaaGreat
