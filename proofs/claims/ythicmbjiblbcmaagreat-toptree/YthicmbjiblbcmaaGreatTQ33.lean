/- PT5 PT6 PT7 PT8, joined. -/
import Derived.Test.YthicmbjiblbcmaaGreatTQ3
import Derived.Test.YthicmbjiblbcmaaGreatTQ23
import Derived.Test.YthicmbjiblbcmaaGreatTQ28
import Derived.Test.YthicmbjiblbcmaaGreatTQ32
/- TopTree: alive08; the end of the walk. -/
namespace Go.Proofs.YthicmbjiblbcmaaGreat
open Go.RowKit

def L18 : List Rn := [⟨1, 0, 1, true⟩]
theorem okr18 : okR L18 := by unfold okR one apart L18; decide
theorem off18 : (offT L18).s = true := by
  cases hs : (offT L18).s with
  | true => rfl
  | false =>
    have := (offT_zero okr18 hs).2.1 ⟨1, 0, 1, true⟩ (by simp [L18])
    cases this
theorem reads18 (w : World) : NReads (w.alloc (.cells #[.int .i64 1, .int .i64 0, .int .i64 1, .bool true] 47)) (.slice (some ⟨w.heap.size, 0, none⟩) 1 1) L18 := by
  have hh : (w.alloc (.cells #[.int .i64 1, .int .i64 0, .int .i64 1, .bool true] 47)).heap[w.heap.size]? = some (.cells #[.int .i64 1, .int .i64 0, .int .i64 1, .bool true] 47) := heap_alloc_new _ _
  refine gown_nreads (T := 47) (xs := L18) ⟨rfl, .inr ⟨w.heap.size, 1, _, rfl, hh, Nat.le_refl _, by decide, Nat.le_refl _, rfl⟩⟩ (fun k hk => ?_) (fun r hr => ?_)
  · simp only [Value.ownBlock, Option.some.injEq] at hk
    subst hk
    simp
  · obtain rfl := List.mem_singleton.1 hr
    constructor <;> simp
theorem offer18 (w : World) (B : Nat) (hB : B = w.heap.size) : Calls Tryz.prog 8 #[.slice (some ⟨B, 0, none⟩) 1 1] (w.alloc (.cells #[.int .i64 1, .int .i64 0, .int .i64 1, .bool true] 47)) fun e w' => Below w.heap.size w w' ∧ ∃ (a : Option Addr) (n cap : Nat) (lv : Int), e = .returned (.tuple #[.agg #[.slice a n cap, .int .i64 lv], .bool true, .int .i64 0]) := by
  subst hB
  have hb : Below w.heap.size w (w.alloc (.cells #[.int .i64 1, .int .i64 0, .int .i64 1, .bool true] 47)) := (Below.refl _ _).alloc (Nat.le_refl _) _
  refine (offer_any _ L18 _ (reads18 w)).mono ?_
  rintro e w' ⟨h1, h2, _⟩
  obtain ⟨v', rfl, hO⟩ := h2 (okB_true okr18)
  rw [off18]
  obtain ⟨a, cap, rfl, _⟩ := hO.form
  exact ⟨hb.trans (h1.mono hb.size), a, _, cap, _, rfl⟩
theorem chk18 (b : Nat) : chkF (rl15 b) 0 [] = 0 := chkF_of (fE_of (right15 b) (by decide) (by decide)) SrtE.nil (fun x hx => by cases hx)
theorem rr_none (w : World) : RReads w (.slice none 0 0) [] := ⟨none, 0, rfl, by simp, by simp, .inl rfl⟩
set_option maxRecDepth 100000 in
set_option maxHeartbeats 2000000 in
theorem alive08_any (w : World) : Calls Tryz.prog 5 #[] w fun e w' => e = .returned (.bool true) ∧ Below w.heap.size w w' := by
  go_enter Tryz.func5, Tryz.ntmps5
  go_wp2_with fail
  refine (offer18 w _ rfl).mono ?_
  rintro e w1 ⟨hb1, a, n, cap, lv, rfl⟩
  obtain ⟨w2, HW2⟩ := hid_ex (w1.alloc (.cells #[.slice a n cap, .int .i64 lv] 38))
  have HB2 : Hid (Below w.heap.size w w2) := by
    rw [HW2.out]
    exact hb1.trans ((new_below _ _).mono hb1.size)
  clear hb1
  go_wp2_with fail
  rw [← HW2.out]
  clear HW2
  refine (rules_any _).mono ?_
  rintro e w3 ⟨b, rfl, hL3, hb3⟩
  have HL3 : Hid (Lies (rl15 b) w3.heap.size w3) := hL3
  have HB3 : Hid (Below w.heap.size w w3) := HB2.out.trans (hb3.mono HB2.out.size)
  have HFO : Hid (Calls Tryz.prog 12 #[.agg #[.slice (some ⟨b, 0, none⟩) 2 2, .int .i64 100], .int .i64 0, .slice none 0 0] w3 fun e w' => ∃ a cap, e = .returned (.tuple #[.slice a 0 cap, .int .i64 0]) ∧ EReads w' (.slice a 0 cap) [] ∧ Below w3.heap.size w3 w') :=
    fold_ok (rl15 b) 0 _ [] w3 HL3.out (eReads_none _) (by simp) (fun x hx => by cases hx) (chk18 b) [] rfl
  clear hL3 hb3 HL3
  go_wp2_with fail
  refine HFO.out.mono ?_
  clear HFO
  rintro e w4 ⟨a4, c4, rfl, -, hb4⟩
  have HB4 : Hid (Below w.heap.size w w4) := HB3.out.trans (hb4.mono HB3.out.size)
  clear hb4
  go_wp2_with fail
  refine (all_ok _ [] _ (rr_none _) (by simp) (fun r hr => by cases hr) (fun r hr => by cases hr) rfl [] (by rw [allF_can (rs := []) rfl (fun r hr => by cases hr)]; rfl)).mono ?_
  rintro e w5 ⟨a5, c5, rfl, -, hb5⟩
  have HB5 : Hid (Below w.heap.size w w5) := HB4.out.trans (hb5.mono HB4.out.size)
  clear hb5
  go_wp2_with fail
  go_ret
  exact ⟨rfl, HB5.out⟩
end Go.Proofs.YthicmbjiblbcmaaGreat

/- TopTree: behind its middle loop (written by mkpt.py). -/
namespace Go.Proofs.YthicmbjiblbcmaaGreat
open Go.RowKit

def cT18 : Code → Code
  | .seq _ b => b
  | c => c
noncomputable def treeEnd : Code := (cT18 (cT18 (cT18 (cT18 (cT18 (cT18 (cT18 (Tryz.f3.body.getD .skip))))))))
noncomputable def treeTail : Code := (cT18 (cT18 (cT18 (Tryz.f3.body.getD .skip))))
set_option maxRecDepth 100000 in
set_option maxHeartbeats 16000000 in
theorem tree_end (R : Rl) (wm : Int) (base p : Nat) (va : Option Addr) (vn vc : Nat) (w W0 : World) (rv gv : Value) (L : List Rn) (GV : List (Value × List En))
    (HT : Hid (TrAt R wm base p W0 rv gv L GV)) (HI : Hid (TInv R wm L (GV.map Prod.snd) 480)) (HB : Hid (Below w.heap.size w W0)) (HL : Hid (Lies R w.heap.size w)) (HRB : Hid (W0.heap[w.heap.size]? = some (.cells #[.slice R.a R.len R.cap, .int .i64 R.kp] 24))) (hst : ∀ r ∈ L, r.s = false) (x4 x5 x6 x8 x9 x10 x11 x12 x13 x14 x15 x16 x17 x18 x19 x20 x21 x22 x23 x24 x25 x26 x27 x28 x29 x30 x31 x32 x33 x34 x35 x36 x37 x38 x39 x40 x41 x42 x43 x44 x45 x46 x47 x48 x49 x50 x51 x52 x53 x54 x55 x56 x57 x58 x59 x60 x61 x62 x63 x64 x65 x66 x67 x68 x69 x70 x71 x72 x73 x74 x75 x76 x77 x78 x79 x80 x81 x82 x83 x84 x85 x86 x87 x88 x89 x90 x91 x92 x93 x94 x95 x96 x97 x98 x99 x100 x101 x102 x103 x104 x105 x106 x107 x108 x109 x110 x111 x112 x113 x114 x115 x116 x117 x118 x119 x120 x121 x122 x123 x124 x125 x126 x127 x128 x129 x130 x131 x132 x133 x134 x135 x136 x137 x138 x139 x140 x141 x142 x143 x144 x145 x146 x147 x148 : Value) :
    Code.wp Tryz.prog treeEnd (bodyPost Tryz.prog Tryz.f3 (fun e w' => e = .returned (.bool true) ∧ Below w.heap.size w w')) { tmps := #[.agg #[.slice R.a R.len R.cap, .int .i64 R.kp], .int .i64 wm, .slice va vn vc, .pointer (some ⟨w.heap.size, 0, none⟩), x4, x5, x6, .pointer (some ⟨p, 0, none⟩), x8, x9, x10, x11, x12, x13, x14, x15, x16, x17, x18, x19, x20, x21, x22, x23, x24, x25, x26, x27, x28, x29, x30, x31, x32, x33, x34, x35, x36, x37, x38, x39, x40, x41, x42, x43, x44, x45, x46, x47, x48, x49, x50, x51, x52, x53, x54, x55, x56, x57, x58, x59, x60, x61, x62, x63, x64, x65, x66, x67, x68, x69, x70, x71, x72, x73, x74, x75, x76, x77, x78, x79, x80, x81, x82, x83, x84, x85, x86, x87, x88, x89, x90, x91, x92, x93, x94, x95, x96, x97, x98, x99, x100, x101, x102, x103, x104, x105, x106, x107, x108, x109, x110, x111, x112, x113, x114, x115, x116, x117, x118, x119, x120, x121, x122, x123, x124, x125, x126, x127, x128, x129, x130, x131, x132, x133, x134, x135, x136, x137, x138, x139, x140, x141, x142, x143, x144, x145, x146, x147, x148], defers := [] } W0 := by
  unfold treeEnd
  simp only [Tryz.f3, Option.getD_some, cT18]
  have HRR : Hid (RReads W0 gv (GV.map Prod.snd)) := HT.out.rreads
  have HNR : Hid (NReads W0 rv L) := HT.out.nreads
  have HBX := (show Hid _ from HT.out.bx)
  have hpl := (HT.out.lo p (.inl rfl)).2
  have hwl := (Array.getElem?_eq_some_iff.1 HRB.out).1
  obtain ⟨G, HG⟩ := hid_ex (GV.map Prod.snd)
  rw [← HG.out] at HRR HI
  obtain ⟨ra, rc, rfl, hr1, hr2⟩ := HNR.out.form
  obtain ⟨ga, gc, rfl, hg1, hg2⟩ := rr_form HRR.out
  unfold maxLen at hr2 hg2
  have h64 : L.length ≤ 64 := HI.out.ok.1
  have HRS : Hid (∀ r ∈ rowsT L G, chkF R wm r = 0 ∧ GdE r) := HI.out.rows
  have HSM : Hid _ := rows_small HRS.out HI.out.n
  have HST : Hid (∀ r ∈ L, r.s = false) := hst
  obtain ⟨n, Hn⟩ := hid_ex L.length
  obtain ⟨gn, Hgn⟩ := hid_ex G.length
  rw [← Hn.out] at hr1 h64 HBX HNR
  rw [← Hgn.out] at hg1 HBX HRR
  clear HT hst HG
  go_wp2_with fail
  go_loopw [18] (fun i wr => ∃ k : Nat, k ≤ n ∧ i = .int .i64 (k : Int) ∧ Hid (Below W0.heap.size W0 wr)) (fun i _ => n - (intOf i).toNat)
  case atStart => exact ⟨0, by omega, rfl, Below.refl _ _⟩
  case round =>
    obtain ⟨k, hk, rfl, HW⟩ := hrel
    have HXr : Hid (wr.heap[p]? = some (.cells #[.slice R.a R.len R.cap, .int .i64 R.kp, .int .i64 wm, .slice ra n rc, .slice ga gn gc] 29)) := (HW.out.block _ hpl).trans HBX.out
    have d3 := (cell_row HXr.out 3 (by simp)).1
    simp only [List.getElem_toArray, List.getElem_cons_zero, List.getElem_cons_succ] at d3
    by_cases hlt : k < n
    · have hlt' : (k : Int) < (n : Int) := by omega
      have hkL : k < L.length := by rw [← Hn.out]; exact hlt
      have hro := HI.out.ro L[k] (List.getElem_mem hkL)
      have hon := HI.out.ok.2.1 L[k] (List.getElem_mem hkL)
      have hsf := HST.out L[k] (List.getElem_mem hkL)
      have hrm : rwT G L[k].f ∈ rowsT L G := List.mem_map_of_mem (List.getElem_mem hkL)
      obtain ⟨f, hf⟩ : ∃ f : Nat, L[k].f = (f : Int) := ⟨L[k].f.toNat, by have := hon.1; omega⟩
      have hfG : f < G.length := by have := hro.f; rw [hf] at this; simpa using this
      have hfg : (f : Int) < (gn : Int) := by rw [Hgn.out]; omega
      obtain ⟨rb, ro, rfl, hrb⟩ := HNR.out.ptr (by omega)
      obtain ⟨gb, go, rfl, hgb⟩ := rr_ptr HRR.out (by omega)
      have c1 := (HNR.out.four hkL _ rfl).1
      rw [hf] at c1
      obtain ⟨ev, d1, hev⟩ := rReads_at HRR.out hfG
      obtain ⟨ea, ec, rfl, hle1, hle2⟩ := hev.form
      have hrw : rwT G L[k].f = G[f] := by
        rw [hf]
        unfold rwT
        rw [List.getD_eq_getElem?_getD, Int.toNat_natCast, List.getElem?_eq_getElem hfG]
        rfl
      have hck := hro.k
      have hss := hro.s
      rw [hsf] at hss
      rw [hrw] at hrm hck hss
      have HSL : Hid (∀ W, Below W0.heap.size W0 W → Calls Tryz.prog 11 #[.agg #[.slice R.a R.len R.cap, .int .i64 R.kp], .int .i64 wm, .slice ea G[f].length ec] W fun e w' => e = .returned (.tuple #[.bool false, .int .i64 0]) ∧ Below W.heap.size W w') := fun W hW => by
        have h1 := stale_any R wm _ G[f] W (HL.out.at (HB.out.trans (hW.mono HB.out.size))) (hev.below hW) (HSM.out.1 _ hrm) (fun x hx => by
          obtain ⟨_, _, _, _, h5⟩ := chkF_ok hck
          exact fit_short (h5 x hx).k)
        unfold SlPost stB at h1
        rw [if_pos hck, hck, ← hss] at h1
        exact h1
      obtain ⟨rn, Hrn⟩ := hid_ex G[f].length
      rw [← Hrn.out] at d1 HSL
      have HC1 : Hid _ := c1
      have HD1 : Hid _ := d1
      have HRr : Hid (wr.heap[w.heap.size]? = some (.cells #[.slice R.a R.len R.cap, .int .i64 R.kp] 24)) := (HW.out.block _ hwl).trans HRB.out
      have hpr := (Array.getElem?_eq_some_iff.1 HXr.out).1
      have hwr := (Array.getElem?_eq_some_iff.1 HRr.out).1
      clear hev hle1 hle2 Hrn hro hon hf hfG c1 d1 hck hss hrm hrw hsf
      go_wp2_with fail
      refine wp_region_noPanic ?_
      refine wp_region_held_drew (S := (fun w' => Below wr.heap.size wr w')) (by kernel_rfl) ?_ (fun hHeld => ?_)
      · exact (Below.refl _ _).drew
      refine wpAnyH_take (i := 0) (v := .agg #[.slice R.a R.len R.cap, .int .i64 R.kp]) rfl (by kernel_rfl) (by kernel_rfl) (by kernel_rfl) (fun _ _ _ h => h) (Or.inl ⟨by rfl, ?_⟩) (by assumption) ?_
      · (intro w1 hSw; (try dsimp only at hSw); have gx := (hSw.block _ hwr).trans HRr.out; have g0 := (cell_row gx 0 (by simp)).1; have g1 := (cell_row gx 1 (by simp)).1; simp only [List.getElem_toArray, List.getElem_cons_zero, List.getElem_cons_succ] at g0 g1; go_simp)
      simp only [List.getElem_toArray, List.getElem_cons_zero, Act.put, List.setIfInBounds_toArray, List.set_cons_zero, List.set_cons_succ]
      refine wpAnyH_take (i := 1) (v := .int .i64 wm) rfl (by kernel_rfl) (by kernel_rfl) (by kernel_rfl) (fun _ _ _ h => h) (Or.inl ⟨by rfl, ?_⟩) (by assumption) ?_
      · (intro w1 hSw; (try dsimp only at hSw); go_simp)
      simp only [List.getElem_toArray, List.getElem_cons_succ, List.getElem_cons_zero, Act.put, List.setIfInBounds_toArray, List.set_cons_zero, List.set_cons_succ]
      refine wpAnyH_take (i := 2) (v := .pointer (some ⟨p, 0, none⟩)) rfl (by kernel_rfl) (by kernel_rfl) (by kernel_rfl) (fun _ _ _ h => h) (Or.inl ⟨by rfl, ?_⟩) (by assumption) ?_
      · (intro w1 hSw; (try dsimp only at hSw); go_simp)
      simp only [List.getElem_toArray, List.getElem_cons_succ, List.getElem_cons_zero, Act.put, List.setIfInBounds_toArray, List.set_cons_zero, List.set_cons_succ]
      refine wpAnyH_take (i := 3) (v := .pointer (some ⟨p, 0, none⟩)) rfl (by kernel_rfl) (by kernel_rfl) (by kernel_rfl) (fun _ _ _ h => h) (Or.inl ⟨by rfl, ?_⟩) (by assumption) ?_
      · (intro w1 hSw; (try dsimp only at hSw); go_simp)
      simp only [List.getElem_toArray, List.getElem_cons_succ, List.getElem_cons_zero, Act.put, List.setIfInBounds_toArray, List.set_cons_zero, List.set_cons_succ]
      refine wpAnyH_take (i := 4) (v := .pointer (some ⟨p, 4, none⟩)) rfl (by kernel_rfl) (by kernel_rfl) (by kernel_rfl) (fun _ _ _ h => h) (Or.inl ⟨by rfl, ?_⟩) (by assumption) ?_
      · (intro w1 hSw; (try dsimp only at hSw); go_simp)
      simp only [List.getElem_toArray, List.getElem_cons_succ, List.getElem_cons_zero, Act.put, List.setIfInBounds_toArray, List.set_cons_zero, List.set_cons_succ]
      refine wpAnyH_take (i := 5) (v := .slice (some ⟨gb, go, none⟩) gn gc) rfl (by kernel_rfl) (by kernel_rfl) (by kernel_rfl) (fun _ _ _ h => h) (Or.inl ⟨by rfl, ?_⟩) (by assumption) ?_
      · (intro w1 hSw; (try dsimp only at hSw); have gx := (hSw.block _ hpr).trans HXr.out; have g0 := (cell_row gx 4 (by simp)).1; simp only [List.getElem_toArray, List.getElem_cons_zero, List.getElem_cons_succ] at g0; go_simp)
      simp only [List.getElem_toArray, List.getElem_cons_succ, List.getElem_cons_zero, Act.put, List.setIfInBounds_toArray, List.set_cons_zero, List.set_cons_succ]
      refine wpAnyH_take (i := 6) (v := .pointer (some ⟨p, 0, none⟩)) rfl (by kernel_rfl) (by kernel_rfl) (by kernel_rfl) (fun _ _ _ h => h) (Or.inl ⟨by rfl, ?_⟩) (by assumption) ?_
      · (intro w1 hSw; (try dsimp only at hSw); go_simp)
      simp only [List.getElem_toArray, List.getElem_cons_succ, List.getElem_cons_zero, Act.put, List.setIfInBounds_toArray, List.set_cons_zero, List.set_cons_succ]
      refine wpAnyH_take (i := 7) (v := .pointer (some ⟨p, 0, none⟩)) rfl (by kernel_rfl) (by kernel_rfl) (by kernel_rfl) (fun _ _ _ h => h) (Or.inl ⟨by rfl, ?_⟩) (by assumption) ?_
      · (intro w1 hSw; (try dsimp only at hSw); go_simp)
      simp only [List.getElem_toArray, List.getElem_cons_succ, List.getElem_cons_zero, Act.put, List.setIfInBounds_toArray, List.set_cons_zero, List.set_cons_succ]
      refine wpAnyH_take (i := 8) (v := .pointer (some ⟨p, 3, none⟩)) rfl (by kernel_rfl) (by kernel_rfl) (by kernel_rfl) (fun _ _ _ h => h) (Or.inl ⟨by rfl, ?_⟩) (by assumption) ?_
      · (intro w1 hSw; (try dsimp only at hSw); go_simp)
      simp only [List.getElem_toArray, List.getElem_cons_succ, List.getElem_cons_zero, Act.put, List.setIfInBounds_toArray, List.set_cons_zero, List.set_cons_succ]
      refine wpAnyH_take (i := 9) (v := .slice (some ⟨rb, ro, none⟩) n rc) rfl (by kernel_rfl) (by kernel_rfl) (by kernel_rfl) (fun _ _ _ h => h) (Or.inl ⟨by rfl, ?_⟩) (by assumption) ?_
      · (intro w1 hSw; (try dsimp only at hSw); have gx := (hSw.block _ hpr).trans HXr.out; have g0 := (cell_row gx 3 (by simp)).1; simp only [List.getElem_toArray, List.getElem_cons_zero, List.getElem_cons_succ] at g0; go_simp)
      simp only [List.getElem_toArray, List.getElem_cons_succ, List.getElem_cons_zero, Act.put, List.setIfInBounds_toArray, List.set_cons_zero, List.set_cons_succ]
      refine wpAnyH_take (i := 10) (v := .int .i64 (k : Int)) rfl (by kernel_rfl) (by kernel_rfl) (by kernel_rfl) (fun _ _ _ h => h) (Or.inl ⟨by rfl, ?_⟩) (by assumption) ?_
      · (intro w1 hSw; (try dsimp only at hSw); go_simp)
      simp only [List.getElem_toArray, List.getElem_cons_succ, List.getElem_cons_zero, Act.put, List.setIfInBounds_toArray, List.set_cons_zero, List.set_cons_succ]
      refine wpAnyH_take (i := 11) (v := .pointer (some ⟨rb, ro + k * 4, none⟩)) rfl (by kernel_rfl) (by kernel_rfl) (by kernel_rfl) (fun _ _ _ h => h) (Or.inl ⟨by rfl, ?_⟩) (by assumption) ?_
      · (intro w1 hSw; (try dsimp only at hSw); go_simp)
      simp only [List.getElem_toArray, List.getElem_cons_succ, List.getElem_cons_zero, Act.put, List.setIfInBounds_toArray, List.set_cons_zero, List.set_cons_succ]
      refine wpAnyH_take (i := 12) (v := .pointer (some ⟨rb, ro + k * 4, none⟩)) rfl (by kernel_rfl) (by kernel_rfl) (by kernel_rfl) (fun _ _ _ h => h) (Or.inl ⟨by rfl, ?_⟩) (by assumption) ?_
      · (intro w1 hSw; (try dsimp only at hSw); go_simp)
      simp only [List.getElem_toArray, List.getElem_cons_succ, List.getElem_cons_zero, Act.put, List.setIfInBounds_toArray, List.set_cons_zero, List.set_cons_succ]
      refine wpAnyH_take (i := 13) (v := .int .i64 (f : Int)) rfl (by kernel_rfl) (by kernel_rfl) (by kernel_rfl) (fun _ _ _ h => h) (Or.inl ⟨by rfl, ?_⟩) (by assumption) ?_
      · (intro w1 hSw; (try dsimp only at hSw); have g0 := ((HW.out.trans (hSw.mono HW.out.size)).cell (p := ⟨rb, _, none⟩) hrb).trans HC1.out; go_simp)
      simp only [List.getElem_toArray, List.getElem_cons_succ, List.getElem_cons_zero, Act.put, List.setIfInBounds_toArray, List.set_cons_zero, List.set_cons_succ]
      refine wpAnyH_take (i := 14) (v := .pointer (some ⟨gb, go + f, none⟩)) rfl (by kernel_rfl) (by kernel_rfl) (by kernel_rfl) (fun _ _ _ h => h) (Or.inl ⟨by rfl, ?_⟩) (by assumption) ?_
      · (intro w1 hSw; (try dsimp only at hSw); go_simp)
      simp only [List.getElem_toArray, List.getElem_cons_succ, List.getElem_cons_zero, Act.put, List.setIfInBounds_toArray, List.set_cons_zero, List.set_cons_succ]
      refine wpAnyH_take (i := 15) (v := .slice ea rn ec) rfl (by kernel_rfl) (by kernel_rfl) (by kernel_rfl) (fun _ _ _ h => h) (Or.inl ⟨by rfl, ?_⟩) (by assumption) ?_
      · (intro w1 hSw; (try dsimp only at hSw); have g0 := ((HW.out.trans (hSw.mono HW.out.size)).cell (p := ⟨gb, _, none⟩) hgb).trans HD1.out; go_simp)
      simp only [List.getElem_toArray, List.getElem_cons_succ, List.getElem_cons_zero, Act.put, List.setIfInBounds_toArray, List.set_cons_zero, List.set_cons_succ]
      refine wpAnyH_ready (rs := [16]) (by kernel_rfl) (by simp) ?_
      refine AllReadyH.cons (o := _) rfl (fun K hK => ?_) AllReadyH.nil
      go_simp
      refine (HSL.out _ (HW.out.trans ((Below.refl wr.heap.size wr).drew.mono HW.out.size))).mono ?_
      clear HSL
      rintro e W3 ⟨rfl, hb3⟩
      have HW3 : Hid (Below wr.heap.size wr W3) := (Below.refl wr.heap.size wr).drew.trans hb3
      clear hb3
      refine hK.out _ _ ?_ (fun hHeld => ?_)
      · exact HW3.out
      clear hK K
      refine wpAnyH_take (i := 17) (v := .tuple #[.bool false, .int .i64 0]) rfl (by kernel_rfl) (by kernel_rfl) (by kernel_rfl) (fun _ _ _ h => h) (Or.inl ⟨by rfl, ?_⟩) (by assumption) ?_
      · (intro w1 hSw; (try dsimp only at hSw); go_simp)
      simp only [List.getElem_toArray, List.getElem_cons_succ, List.getElem_cons_zero, Act.put, List.setIfInBounds_toArray, List.set_cons_zero, List.set_cons_succ]
      refine wpAnyH_take (i := 18) (v := .bool false) rfl (by kernel_rfl) (by kernel_rfl) (by kernel_rfl) (fun _ _ _ h => h) (Or.inl ⟨by rfl, ?_⟩) (by assumption) ?_
      · (intro w1 hSw; (try dsimp only at hSw); go_simp)
      simp only [List.getElem_toArray, List.getElem_cons_succ, List.getElem_cons_zero, Act.put, List.setIfInBounds_toArray, List.set_cons_zero, List.set_cons_succ]
      refine wpAnyH_take (i := 19) (v := .int .i64 0) rfl (by kernel_rfl) (by kernel_rfl) (by kernel_rfl) (fun _ _ _ h => h) (Or.inl ⟨by rfl, ?_⟩) (by assumption) ?_
      · (intro w1 hSw; (try dsimp only at hSw); go_simp)
      simp only [List.getElem_toArray, List.getElem_cons_succ, List.getElem_cons_zero, Act.put, List.setIfInBounds_toArray, List.set_cons_zero, List.set_cons_succ]
      refine wpAnyH_take (i := 20) (v := .bool false) rfl (by kernel_rfl) (by kernel_rfl) (by kernel_rfl) (fun _ _ _ h => h) (Or.inl ⟨by rfl, ?_⟩) (by assumption) ?_
      · (intro w1 hSw; (try dsimp only at hSw); go_simp)
      simp only [List.getElem_toArray, List.getElem_cons_succ, List.getElem_cons_zero, Act.put, List.setIfInBounds_toArray, List.set_cons_zero, List.set_cons_succ]
      refine wpAnyH_take (i := 21) (v := .int .i64 0) rfl (by kernel_rfl) (by kernel_rfl) (by kernel_rfl) (fun _ _ _ h => h) (Or.inl ⟨by rfl, ?_⟩) (by assumption) ?_
      · (intro w1 hSw; (try dsimp only at hSw); go_simp)
      simp only [List.getElem_toArray, List.getElem_cons_succ, List.getElem_cons_zero, Act.put, List.setIfInBounds_toArray, List.set_cons_zero, List.set_cons_succ]
      clear hHeld
      refine wpAnyH_done (by kernel_rfl) ?_ _
      refine NoPanic.normal ?_
      have HBN : Hid (Below W0.heap.size W0 W3) := HW.out.trans (HW3.out.mono HW.out.size)
      clear HW3 HW HXr HRr HC1 HD1 d3
      go_wp2_with fail
      go_roundw
      case rel => exact ⟨k + 1, by omega, by go_num, HBN⟩
      case measure => simp [intOf]; omega
    · obtain rfl : k = n := by omega
      have hlt' : ¬ (k : Int) < (k : Int) := by omega
      have HBw : Hid (Below w.heap.size w wr) := HB.out.trans (HW.out.mono HB.out.size)
      go_wp2_with fail
      refine (alive08_any wr).mono ?_
      rintro e w6 ⟨rfl, hb6⟩
      have HB6 : Hid (Below w.heap.size w w6) := HBw.out.trans (hb6.mono HBw.out.size)
      clear hb6
      go_wp2_with fail
      go_ret
      exact ⟨rfl, HB6.out⟩
end Go.Proofs.YthicmbjiblbcmaaGreat

/- TopTree: its middle loop (written by mkpt.py). -/
namespace Go.Proofs.YthicmbjiblbcmaaGreat
open Go.RowKit

theorem known_same {R : Rl} {wm : Int} {base p : Nat} {w : World} {rv gv : Value} {L : List Rn} {GV : List (Value × List En)} (h : TrAt R wm base p w rv gv L GV) (hI : TInv R wm L (GV.map Prod.snd) 480) (hL : Lies R w.heap.size w) (hfe : fE R 0 wm = 0) {K : List En} (hK : kowT R wm L (GV.map Prod.snd) = K) :
    Calls Tryz.prog 7 #[.pointer (some ⟨p, 0, none⟩)] w fun e w' => Below w.heap.size w w' ∧ ∃ a c, e = .returned (.tuple #[.slice a K.length c, .bool true]) ∧ EReads w' (.slice a K.length c) K := by
  refine (known_any h hI hL).mono ?_
  rintro e w' ⟨hb, ⟨hne, _⟩ | ⟨_, a, c, xs, he, ho, hm, hc⟩⟩
  · have ho := rows_ok15 hI.rows
    exact absurd (chkF_of hfe ho.sa ho.fa) hne
  · unfold kowT at hK
    have hev := ho.reads hc
    rw [hm, hK] at hev
    have hl : xs.length = K.length := by rw [← hK, ← hm, List.length_map]
    rw [hl] at he hev
    exact ⟨hb, a, c, he, hev⟩
theorem offer_same {L : List Rn} {rv : Value} {w : World} (h : NReads w rv L) (hok : okR L) : Calls Tryz.prog 8 #[rv] w fun e w' => Below w.heap.size w w' ∧ ∃ a c, e = .returned (.tuple #[.agg #[.slice a (offT L).fs.length c, .int .i64 (offT L).lv], .bool (offT L).s, .int .i64 0]) ∧ ReadsP w' (.slice a (offT L).fs.length c) (offT L).fs := by
  refine (offer_any rv L w h).mono ?_
  rintro e w' ⟨h1, h2, _⟩
  obtain ⟨v', rfl, hO⟩ := h2 (okB_true hok)
  have hr := OwnP.reads hO
  obtain ⟨a, c, rfl, _⟩ := hr.form
  exact ⟨h1, a, c, rfl, hr⟩
set_option maxRecDepth 100000 in
set_option maxHeartbeats 16000000 in
theorem tree_tail (R : Rl) (wm : Int) (base p : Nat) (va : Option Addr) (vn vc : Nat) (w W0 : World) (rv gv : Value) (L : List Rn) (GV : List (Value × List En)) (hbw : base = w.heap.size + 1)
    (HT : Hid (TrAt R wm base p W0 rv gv L GV)) (HI : Hid (TInv R wm L (GV.map Prod.snd) 480)) (HB : Hid (Below w.heap.size w W0)) (HL : Hid (Lies R w.heap.size w)) (HRB : Hid (W0.heap[w.heap.size]? = some (.cells #[.slice R.a R.len R.cap, .int .i64 R.kp] 24))) (h8 : L.length ≤ 8) (hG9 : GV.length ≤ 9) (hG1 : 1 ≤ GV.length) (x4 x5 x6 x8 x9 x10 x11 x12 x13 x14 x15 x16 x17 x18 x19 x20 x21 x22 x23 x24 x25 x26 x27 x28 x29 x30 x31 x32 x33 x34 x35 x36 x37 x38 x39 x40 x41 x42 x43 x44 x45 x46 x47 x48 x49 x50 x51 x52 x53 x54 x55 x56 x57 x58 x59 x60 x61 x62 x63 x64 x65 x66 x67 x68 x69 x70 x71 x72 x73 x74 x75 x76 x77 x78 x79 x80 x81 x82 x83 x84 x85 x86 x87 x88 x89 x90 x91 x92 x93 x94 x95 x96 x97 x98 x99 x100 x101 x102 x103 x104 x105 x106 x107 x108 x109 x110 x111 x112 x113 x114 x115 x116 x117 x118 x119 x120 x121 x122 x123 x124 x125 x126 x127 x128 x129 x130 x131 x132 x133 x134 x135 x136 x137 x138 x139 x140 x141 x142 x143 x144 x145 x146 x147 x148 : Value) :
    Code.wp Tryz.prog treeTail (bodyPost Tryz.prog Tryz.f3 (fun e w' => e = .returned (.bool true) ∧ Below w.heap.size w w')) { tmps := #[.agg #[.slice R.a R.len R.cap, .int .i64 R.kp], .int .i64 wm, .slice va vn vc, .pointer (some ⟨w.heap.size, 0, none⟩), x4, x5, x6, .pointer (some ⟨p, 0, none⟩), x8, x9, x10, x11, x12, x13, x14, x15, x16, x17, x18, x19, x20, x21, x22, x23, x24, x25, x26, x27, x28, x29, x30, x31, x32, x33, x34, x35, x36, x37, x38, x39, x40, x41, x42, x43, x44, x45, x46, x47, x48, x49, x50, x51, x52, x53, x54, x55, x56, x57, x58, x59, x60, x61, x62, x63, x64, x65, x66, x67, x68, x69, x70, x71, x72, x73, x74, x75, x76, x77, x78, x79, x80, x81, x82, x83, x84, x85, x86, x87, x88, x89, x90, x91, x92, x93, x94, x95, x96, x97, x98, x99, x100, x101, x102, x103, x104, x105, x106, x107, x108, x109, x110, x111, x112, x113, x114, x115, x116, x117, x118, x119, x120, x121, x122, x123, x124, x125, x126, x127, x128, x129, x130, x131, x132, x133, x134, x135, x136, x137, x138, x139, x140, x141, x142, x143, x144, x145, x146, x147, x148], defers := [] } W0 := by
  unfold treeTail
  simp only [Tryz.f3, Option.getD_some, cT18]
  have HKN : Hid (Calls Tryz.prog 7 #[.pointer (some ⟨p, 0, none⟩)] W0 (KnP R wm (rowsT L (GV.map Prod.snd)) W0)) := known_any HT.out HI.out (HL.out.at HB.out)
  go_wp2_with fail
  refine HKN.out.mono ?_
  clear HKN
  rintro e w1 ⟨hb1, ⟨hne, rfl⟩ | ⟨hz, ka, kc, xs, rfl, hown, hmp, hcn⟩⟩
  · have HB1 : Hid (Below w.heap.size w w1) := HB.out.trans (hb1.mono HB.out.size)
    clear hb1 hne
    go_wp2_with fail
    refine (alive08_any w1).mono ?_
    rintro e w6 ⟨rfl, hb6⟩
    have HB6 : Hid (Below w.heap.size w w6) := HB1.out.trans (hb6.mono HB1.out.size)
    clear hb6
    go_wp2_with fail
    go_ret
    exact ⟨rfl, HB6.out⟩
  · obtain ⟨hfe, hR, _, _, _⟩ := chkF_ok hz
    have HFE : Hid (fE R 0 wm = 0) := hfe
    have HRP : Hid (RightP R) := hR
    obtain ⟨K, HK⟩ := hid_ex (foldF R wm (allF (rowsT L (GV.map Prod.snd))))
    rw [← HK.out] at hmp
    have hxl : xs.length = K.length := by rw [← hmp, List.length_map]
    have hkp := hown.ekeep hcn (X := Xs p rv gv) (fun b hb => (HT.out.lo b hb).2)
    rw [hmp, hxl] at hkp
    rw [hxl]
    have HK1 : Hid (kowT R wm L (GV.map Prod.snd) = K) := HK.out.symm
    have HEV : Hid (EKeep w1 (Xs p rv gv) (.slice ka K.length kc) K) := hkp
    have HT1 : Hid (TrAt R wm base p w1 rv gv L GV) := HT.out.below hb1
    have HB1 : Hid (Below w.heap.size w w1) := HB.out.trans (hb1.mono HB.out.size)
    have HRB1 : Hid (w1.heap[w.heap.size]? = some (.cells #[.slice R.a R.len R.cap, .int .i64 R.kp] 24)) := (hb1.block _ (Array.getElem?_eq_some_iff.1 HRB.out).1).trans HRB.out
    have HL1 : Hid (Lies R w1.heap.size w1) := HL.out.at HB1.out
    obtain ⟨ra, rc, rfl, -, -⟩ := HT1.out.nreads.form
    have HX1 : Hid (w1.heap[p]? = some (.cells #[.slice R.a R.len R.cap, .int .i64 R.kp, .int .i64 wm, .slice ra L.length rc, gv] 29)) := HT1.out.bx
    have hmu := mu_le L
    obtain ⟨n, Hn⟩ := hid_ex L.length
    obtain ⟨kn, Hkn⟩ := hid_ex K.length
    rw [← Hn.out] at HX1 h8 hmu
    rw [← Hkn.out] at HEV ⊢
    rw [← Hn.out] at HEV
    have d3 := (cell_row HX1.out 3 (by simp)).1
    simp only [List.getElem_toArray, List.getElem_cons_zero, List.getElem_cons_succ] at d3
    have hwr0 : IntKind.i64.wrap ((n : Int) + 3) = (n : Int) + 3 := by simp [IntKind.wrap, IntKind.bits, IntKind.signed]; omega
    clear hb1 hz hfe hR hown hmp hcn hxl hkp HT HB HRB HK
    go_wp2_with fail
    clear d3
    go_loopw [12] (fun i wr => ∃ (j : Nat) (rv' gv' : Value) (L' : List Rn) (GV' : List (Value × List En)), i = .int .i64 (j : Int) ∧ j + mu L' ≤ n + 3 ∧ GV'.length ≤ 9 + j ∧ 1 ≤ GV'.length ∧ Hid (TrAt R wm base p wr rv' gv' L' GV') ∧ Hid (TInv R wm L' (GV'.map Prod.snd) 480) ∧ Hid (kowT R wm L' (GV'.map Prod.snd) = K) ∧ Hid (Below base w1 wr) ∧ Hid (EKeep wr (Xs p rv' gv') (.slice ka kn kc) K)) (fun i _ => n + 4 - (intOf i).toNat)
    case atStart => exact ⟨0, _, _, L, GV, by go_num, by omega, by omega, hG1, HT1, HI, HK1, Below.refl _ _, by rw [← Hn.out]; exact HEV⟩
    case round =>
      rename_i K0 hK0
      obtain ⟨j, rv', gv', L', GV', rfl, hj, hg9, hg1, HT', HI', HK', HW, HE'⟩ := hrel
      have HK0 : Hid _ := hK0
      clear hK0
      have hbs : base ≤ w1.heap.size := by have := (Array.getElem?_eq_some_iff.1 HRB1.out).1; omega
      have HLr : Hid (Lies R wr.heap.size wr) := by
        have h1 : Below w.heap.size w wr := HB1.out.trans (HW.out.mono (by omega))
        exact HL.out.at h1
      have HBr : Hid (Below w.heap.size w wr) := HB1.out.trans (HW.out.mono (by omega))
      obtain ⟨ra2, rc2, rfl, -, -⟩ := HT'.out.nreads.form
      have HXr : Hid (wr.heap[p]? = some (.cells #[.slice R.a R.len R.cap, .int .i64 R.kp, .int .i64 wm, .slice ra2 L'.length rc2, gv'] 29)) := HT'.out.bx
      have HOF : Hid (Calls Tryz.prog 8 #[.slice ra2 L'.length rc2] wr fun e w' => Below wr.heap.size wr w' ∧ ∃ a c, e = .returned (.tuple #[.agg #[.slice a (offT L').fs.length c, .int .i64 (offT L').lv], .bool (offT L').s, .int .i64 0]) ∧ ReadsP w' (.slice a (offT L').fs.length c) (offT L').fs) := offer_same HT'.out.nreads HI'.out.ok
      obtain ⟨n2, Hn2⟩ := hid_ex L'.length
      rw [← Hn2.out] at HXr HOF
      have d3 := (cell_row HXr.out 3 (by simp)).1
      simp only [List.getElem_toArray, List.getElem_cons_zero, List.getElem_cons_succ] at d3
      go_wp2_with fail
      refine HOF.out.mono ?_
      clear HOF d3
      rintro e w2 ⟨hb2, fa, fc, rfl, hrd⟩
      obtain ⟨lv, Hlv⟩ := hid_ex (offT L').lv
      obtain ⟨fn, Hfn⟩ := hid_ex (offT L').fs.length
      rw [← Hlv.out, ← Hfn.out]
      rw [← Hfn.out] at hrd
      obtain ⟨w3, HW3⟩ := hid_ex (w2.alloc (.cells #[.slice fa fn fc, .int .i64 lv] 38))
      have hb23 : Below w2.heap.size w2 w3 := by rw [HW3.out]; exact new_below _ _
      have HY3 : Hid (w3.heap[w2.heap.size]? = some (.cells #[.slice fa fn fc, .int .i64 lv] 38)) := by rw [HW3.out]; exact heap_alloc_new _ _
      have HBr3 : Hid (Below wr.heap.size wr w3) := hb2.trans (hb23.mono hb2.size)
      have HT3 : Hid (TrAt R wm base p w3 (.slice ra2 L'.length rc2) gv' L' GV') := HT'.out.below HBr3.out
      have HL3 : Hid (Lies R w3.heap.size w3) := HL.out.at (HBr.out.trans (HBr3.out.mono HBr.out.size))
      have HF3 : Hid (ReadsP w3 (.slice fa fn fc) (offT L').fs) := hrd.below hb23
      have hbr : base ≤ wr.heap.size := Nat.le_trans hbs HW.out.size
      have HB13 : Hid (Below base w1 w3) := HW.out.trans (HBr3.out.mono hbr)
      have hb3s : base ≤ w3.heap.size := Nat.le_trans hbr HBr3.out.size
      obtain ⟨y0, y1⟩ := And.intro (cell_row HY3.out 0 (by simp)).1 (cell_row HY3.out 1 (by simp)).1
      simp only [List.getElem_toArray, List.getElem_cons_zero, List.getElem_cons_succ] at y0 y1
      rw [HW3.out] at y0 y1
      have HE3 : Hid (EKeep w3 (Xs p (.slice ra2 L'.length rc2) gv') (.slice ka kn kc) K) := HE'.out.next HBr3.out.size (fun b hb _ => HBr3.out.block b hb) (fun _ _ q => q)
      clear hb2 hb23 hrd
      obtain ⟨sb, Hsb⟩ := hid_ex (offT L').s
      rw [← Hsb.out]
      cases sb with
      | true =>
        have hs : (offT L').s = true := Hsb.out.symm
        obtain ⟨_, _, _, M0, _, _, _, hmu0⟩ := tree_step HI'.out HFE.out HRP.out hs (by rw [List.length_map]; omega) rfl rfl
        have q1 : ¬ (n : Int) + 3 ≤ (j : Int) := by omega
        have q2 : decide ((n : Int) + 3 ≤ (j : Int)) = false := decide_eq_false q1
        have q3 : ¬ n + 3 ≤ j := by omega
        have q4 : decide (n + 3 ≤ j) = false := decide_eq_false q3
        have HDO : Hid (Calls Tryz.prog 9 #[.pointer (some ⟨p, 0, none⟩), .agg #[.slice fa fn fc, .int .i64 lv]] w3 (DoP R wm base p (.slice ra2 L'.length rc2) gv' L' GV' w3)) := by
          have h1 := doT_any HT3.out HI'.out hb3s HL3.out hs HF3.out HFE.out HRP.out (by omega) hg1
          rw [← Hlv.out] at h1
          exact h1
        clear Hsb hs hmu0 Hlv Hfn HF3
        go_wp2_with fail
        rw [← HW3.out]
        refine HDO.out.mono ?_
        clear HDO y0 y1 q1 q2 q3 q4
        rintro e w4 ⟨rfl, hb4, rv4, gv4, L4, lv4, l4, ht4, hi4, hk4, hm4, hke4⟩
        have HT4 : Hid (TrAt R wm base p w4 rv4 gv4 L4 (GV' ++ [(lv4, l4)])) := ht4
        have HI4 : Hid (TInv R wm L4 ((GV' ++ [(lv4, l4)]).map Prod.snd) 480) := hi4
        have HK4 : Hid (kowT R wm L4 ((GV' ++ [(lv4, l4)]).map Prod.snd) = K) := hk4.trans HK'.out
        have HB14 : Hid (Below base w1 w4) := HB13.out.trans hb4
        have HBw4 : Hid (Below w.heap.size w w4) := HB1.out.trans (HB14.out.mono (by omega))
        have HKN : Hid (Calls Tryz.prog 7 #[.pointer (some ⟨p, 0, none⟩)] w4 fun e w' => Below w4.heap.size w4 w' ∧ ∃ a c, e = .returned (.tuple #[.slice a kn c, .bool true]) ∧ EReads w' (.slice a kn c) K) := by
          rw [Hkn.out]
          exact known_same ht4 hi4 (HL.out.at HBw4.out) HFE.out HK4.out
        have HE4 : Hid (EKeep w4 (Xs p rv4 gv4) (.slice ka kn kc) K) := hke4 _ _ HE3.out
        clear hb4 ht4 hi4 hk4 hke4 HT3 HL3 HBr3 HY3 HW3 HT' HI' HK' HW HXr HE3 HE' HB13
        go_wp2_with fail
        refine HKN.out.mono ?_
        clear HKN
        rintro e w5 ⟨hb5, na, nc, rfl, hev5⟩
        have HE5 : Hid (EKeep w5 (Xs p rv4 gv4) (.slice ka kn kc) K) := HE4.out.next hb5.size (fun b hb _ => hb5.block b hb) (fun _ _ q => q)
        have HT5 : Hid (TrAt R wm base p w5 rv4 gv4 L4 (GV' ++ [(lv4, l4)])) := HT4.out.below hb5
        have hb45 : base ≤ w4.heap.size := Nat.le_trans hbs HB14.out.size
        have HB15 : Hid (Below base w1 w5) := HB14.out.trans (hb5.mono hb45)
        have HSA : Hid (Calls Tryz.prog 10 #[.slice na kn nc, .slice ka kn kc] w5 fun e w' => e = .returned (.bool true) ∧ Below w5.heap.size w5 w') := same_true _ _ K w5 hev5.rd HE5.out.reads.rd
        have hb5s : base ≤ w5.heap.size := Nat.le_trans hb45 hb5.size
        clear hb5 hev5 HT4 HE4 HB14
        go_wp2_with fail
        refine HSA.out.mono ?_
        clear HSA
        rintro e w6 ⟨rfl, hb6⟩
        have HE6 : Hid (EKeep w6 (Xs p rv4 gv4) (.slice ka kn kc) K) := HE5.out.next hb6.size (fun b hb _ => hb6.block b hb) (fun _ _ q => q)
        have HT6 : Hid (TrAt R wm base p w6 rv4 gv4 L4 (GV' ++ [(lv4, l4)])) := HT5.out.below hb6
        have HB16 : Hid (Below base w1 w6) := HB15.out.trans (hb6.mono hb5s)
        have hlen : (GV' ++ [(lv4, l4)]).length = GV'.length + 1 := by simp
        clear hb6 HT5 HE5 HB15
        go_wp2_with fail
        go_roundw
        case rel => exact ⟨j + 1, rv4, gv4, L4, GV' ++ [(lv4, l4)], by go_num, by omega, by omega, by omega, HT6, HI4, HK4, HB16, HE6⟩
        case measure => simp [intOf]; omega
      | false =>
        have hst : ∀ r ∈ L', r.s = false := (offT_zero HI'.out.ok Hsb.out.symm).2.1
        have HST : Hid _ := hst
        have HKN : Hid (Calls Tryz.prog 7 #[.pointer (some ⟨p, 0, none⟩)] w3 fun e w' => Below w3.heap.size w3 w' ∧ ∃ a c, e = .returned (.tuple #[.slice a kn c, .bool true]) ∧ EReads w' (.slice a kn c) K) := by
          rw [Hkn.out]
          exact known_same HT3.out HI'.out HL3.out HFE.out HK'.out
        clear hst Hsb Hlv Hfn HF3 HL3 HBr3 HY3 HT' HW HXr
        go_wp2_with fail
        rw [← HW3.out]
        clear HW3 y0 y1
        refine HKN.out.mono ?_
        clear HKN
        rintro e w5 ⟨hb5, na, nc, rfl, hev5⟩
        have HE5 : Hid (EKeep w5 (Xs p (.slice ra2 L'.length rc2) gv') (.slice ka kn kc) K) := HE3.out.next hb5.size (fun b hb _ => hb5.block b hb) (fun _ _ q => q)
        have HT5 : Hid (TrAt R wm base p w5 (.slice ra2 L'.length rc2) gv' L' GV') := HT3.out.below hb5
        have HB15 : Hid (Below base w1 w5) := HB13.out.trans (hb5.mono hb3s)
        have HSA : Hid (Calls Tryz.prog 10 #[.slice na kn nc, .slice ka kn kc] w5 fun e w' => e = .returned (.bool true) ∧ Below w5.heap.size w5 w') := same_true _ _ K w5 hev5.rd HE5.out.reads.rd
        have hb5s : base ≤ w5.heap.size := Nat.le_trans hb3s hb5.size
        clear hb5 hev5 HT3 HE3 HB13 HE5
        go_wp2_with fail
        refine HSA.out.mono ?_
        clear HSA
        rintro e w6 ⟨rfl, hb6⟩
        have HT6 : Hid (TrAt R wm base p w6 (.slice ra2 L'.length rc2) gv' L' GV') := HT5.out.below hb6
        have HB16 : Hid (Below base w1 w6) := HB15.out.trans (hb6.mono hb5s)
        have HBw6 : Hid (Below w.heap.size w w6) := HB1.out.trans (HB16.out.mono (by omega))
        have HRB6 : Hid (w6.heap[w.heap.size]? = some (.cells #[.slice R.a R.len R.cap, .int .i64 R.kp] 24)) := (HB16.out.block _ (by omega)).trans HRB1.out
        clear hb6 HT5 HB15
        go_wp2_with fail
        refine HK0.out _ _ ?_
        exact tree_end R wm base p va vn vc w w6 _ gv' L' GV' HT6 HI' HBw6 HL HRB6 HST.out _ _ _ _ _ _ _ _ _ _ _ _ _ _ _ _ _ _ _ _ _ _ _ _ _ _ _ _ _ _ _ _ _ _ _ _ _ _ _ _ _ _ _ _ _ _ _ _ _ _ _ _ _ _ _ _ _ _ _ _ _ _ _ _ _ _ _ _ _ _ _ _ _ _ _ _ _ _ _ _ _ _ _ _ _ _ _ _ _ _ _ _ _ _ _ _ _ _ _ _ _ _ _ _ _ _ _ _ _ _ _ _ _ _ _ _ _ _ _ _ _ _ _ _ _ _ _ _ _ _ _ _ _ _ _ _ _ _ _ _ _ _ _ _
end Go.Proofs.YthicmbjiblbcmaaGreat

/- TopTree: the whole walk (written by mkpt.py). -/
namespace Go.Proofs.YthicmbjiblbcmaaGreat
open Go.RowKit

set_option maxRecDepth 100000 in
set_option maxHeartbeats 16000000 in
theorem toptree_walk (R : Rl) (wm : Int) (v : Value) (rs : List (List En)) (w : World) (hL : Lies R w.heap.size w) (hE : RReads w v rs) :
    Calls Tryz.prog 3 #[.agg #[.slice R.a R.len R.cap, .int .i64 R.kp], .int .i64 wm, v] w fun e w' => e = .returned (.bool true) ∧ Below w.heap.size w w' := by
  obtain ⟨va, vc, rfl, hv1, hv2⟩ := rr_form hE
  unfold maxLen at hv2
  have HL : Hid (Lies R w.heap.size w) := hL
  have HE0 : Hid (RReads w (.slice va rs.length vc) rs) := hE
  obtain ⟨n, Hn⟩ := hid_ex rs.length
  rw [← Hn.out] at hv1 HE0 ⊢
  clear hL hE
  obtain ⟨w1, HW1⟩ := hid_ex (w.alloc (.cells #[.slice R.a R.len R.cap, .int .i64 R.kp] 24))
  have HR1 : Hid (w1.heap[w.heap.size]? = some (.cells #[.slice R.a R.len R.cap, .int .i64 R.kp] 24)) := by rw [HW1.out]; exact heap_alloc_new _ _
  have hs1 : w1.heap.size = w.heap.size + 1 := by rw [HW1.out, World.size_alloc]
  obtain ⟨w2, HW2⟩ := hid_ex (w1.alloc (.cells #[.slice none 0 0] 31))
  have HG2 : Hid (w2.heap[w.heap.size + 1]? = some (.cells #[.slice none 0 0] 31)) := by rw [HW2.out, ← hs1]; exact heap_alloc_new _ _
  have HB12 : Hid (Below w1.heap.size w1 w2) := by rw [HW2.out]; exact new_below _ _
  have hs2 : w2.heap.size = w.heap.size + 2 := by rw [HW2.out, World.size_alloc, hs1]
  obtain ⟨w3, HW3⟩ := hid_ex (w2.alloc (.cells #[.slice R.a R.len R.cap, .int .i64 R.kp, .int .i64 wm, .slice none 0 0, .slice (some ⟨w.heap.size + 1, 0, none⟩) 1 1] 29))
  have HB23 : Hid (Below w2.heap.size w2 w3) := by rw [HW3.out]; exact new_below _ _
  have HX3 : Hid (w3.heap[w.heap.size + 2]? = some (.cells #[.slice R.a R.len R.cap, .int .i64 R.kp, .int .i64 wm, .slice none 0 0, .slice (some ⟨w.heap.size + 1, 0, none⟩) 1 1] 29)) := by rw [HW3.out, ← hs2]; exact heap_alloc_new _ _
  have hs3 : w3.heap.size = w.heap.size + 3 := by rw [HW3.out, World.size_alloc, hs2]
  have HR3 : Hid (w3.heap[w.heap.size]? = some (.cells #[.slice R.a R.len R.cap, .int .i64 R.kp] 24)) := by
    show _ = _
    rw [HB23.out.block _ (by omega), HB12.out.block _ (by omega)]
    exact HR1.out
  have HG3 : Hid (w3.heap[w.heap.size + 1]? = some (.cells #[.slice none 0 0] 31)) := by
    show _ = _
    rw [HB23.out.block _ (by omega)]
    exact HG2.out
  have HB3 : Hid (Below w.heap.size w w3) := by
    have h1 : Below w.heap.size w w1 := by rw [HW1.out]; exact new_below _ _
    exact h1.trans ((HB12.out.mono (by omega)).trans (HB23.out.mono (by omega)))
  have HT3 : Hid (TrAt R wm (w.heap.size + 1) (w.heap.size + 2) w3 (.slice none 0 0) (.slice (some ⟨w.heap.size + 1, 0, none⟩) 1 1) [] [(.slice none 0 0, [])]) := by
    refine ⟨HX3.out, GOwn.nil _ _ _, fun r hr => (by cases hr), ⟨rfl, .inr ⟨w.heap.size + 1, 1, _, rfl, HG3.out, Nat.le_refl _, by decide, Nat.le_refl _, rfl⟩⟩, fun x hx => ?_, fun b hb => ?_⟩
    · rw [List.mem_singleton.1 hx]
      exact fun W _ _ => eReads_none W
    · rcases hb with q | q | q
      · subst q; omega
      · simp [Value.ownBlock] at q
      · simp only [Value.ownBlock, Option.some.injEq] at q
        subst q; omega
  have HI3 : Hid (TInv R wm [] ([((.slice none 0 0 : Value), ([] : List En))].map Prod.snd) (60 * 0)) := ⟨⟨by simp, fun r hr => (by cases hr), List.Pairwise.nil⟩, fun r hr => (by cases hr), Nat.le_refl _⟩
  have x0 := (cell_row HR1.out 0 (by simp)).1
  have x1 := (cell_row HR1.out 1 (by simp)).1
  simp only [List.getElem_toArray, List.getElem_cons_zero, List.getElem_cons_succ] at x0 x1
  rw [HW1.out] at x0 x1
  go_enter Tryz.func3, Tryz.ntmps3
  go_wp2_with fail
  rw [← HW1.out, ← HW2.out, ← HW3.out]
  clear x0 x1 HW1 HW2 HW3 HR1 HG2 HB12 HB23 HX3 HG3 hs1 hs2
  go_loopw [8] (fun i wr => ∃ (j : Nat) (rv gv : Value) (L : List Rn) (GV : List (Value × List En)), i = .int .i64 (j : Int) ∧ j ≤ n ∧ j ≤ 8 ∧ L.length ≤ j ∧ 1 ≤ GV.length ∧ GV.length ≤ j + 1 ∧ Hid (TrAt R wm (w.heap.size + 1) (w.heap.size + 2) wr rv gv L GV) ∧ Hid (TInv R wm L (GV.map Prod.snd) (60 * L.length)) ∧ Hid (Below (w.heap.size + 1) w3 wr)) (fun i _ => 8 - (intOf i).toNat)
  case atStart => exact ⟨0, _, _, [], _, by go_num, by omega, by omega, by simp, by simp, by simp, HT3, HI3, Below.refl _ _⟩
  case round =>
    rename_i K0 hK0
    obtain ⟨j, rv, gv, L, GV, rfl, hj, hj8, hlj, hg1, hgj, HT, HI, HW⟩ := hrel
    have HK0 : Hid _ := hK0
    clear hK0
    have HBw : Hid (Below w.heap.size w wr) := HB3.out.trans (HW.out.mono (by omega))
    have HRr : Hid (wr.heap[w.heap.size]? = some (.cells #[.slice R.a R.len R.cap, .int .i64 R.kp] 24)) := (HW.out.block _ (by omega)).trans HR3.out
    have hbs : w.heap.size + 1 ≤ wr.heap.size := by have := HW.out.size; omega
    have HEX : Hid (∃ X : TInv R wm L (GV.map Prod.snd) 480, True) := ⟨⟨HI.out.ok, HI.out.ro, by have := HI.out.n; omega⟩, trivial⟩
    by_cases hlt : j < n
    · have hlt' : (j : Int) < (n : Int) := by omega
      by_cases hl8 : j < 8
      · have hl8' : (j : Int) < 8 := by omega
        have hjr : j < rs.length := by rw [← Hn.out]; exact hlt
        obtain ⟨vb, vo, rfl, hvb⟩ := rr_ptr HE0.out (by omega)
        obtain ⟨ev, c0, hev⟩ := rReads_at HE0.out hjr
        obtain ⟨ea, ec, rfl, hle1, hle2⟩ := hev.form
        have hcn := rReads_cn HE0.out rs[j] (List.getElem_mem hjr)
        obtain ⟨l, Hl⟩ := hid_ex rs[j]
        rw [← Hl.out] at c0 hev hle1 hcn
        have HCN : Hid (∀ x ∈ l, CnOk x.2) := hcn
        have HEV : Hid (EReads w (.slice ea l.length ec) l) := hev
        have HGR : Hid (Calls Tryz.prog 4 #[.slice ea l.length ec] wr (Gt15 l wr)) := great15_any _ l wr (hev.below HBw.out)
        obtain ⟨ln, Hln⟩ := hid_ex l.length
        rw [← Hln.out] at c0 HEV HGR hle1
        have c1 := (HBw.out.cell (p := ⟨vb, _, none⟩) hvb).trans c0
        clear hev Hl c0 hcn
        go_wp2_with fail
        refine HGR.out.mono ?_
        clear HGR
        rintro e w' ⟨g, rfl, hok, hw'⟩
        subst w'
        have HOK : Hid (g = false → okRow15 l) := hok
        clear hok
        cases g with
        | true =>
          go_wp2_with fail
          refine (alive08_any wr).mono ?_
          rintro e w6 ⟨rfl, hb6⟩
          have HB6 : Hid (Below w.heap.size w w6) := HBw.out.trans (hb6.mono HBw.out.size)
          clear hb6
          go_wp2_with fail
          go_ret
          exact ⟨rfl, HB6.out⟩
        | false =>
          have HOK2 : Hid (okRow15 l) := HOK.out rfl
          clear HOK
          by_cases hne : ln = 0
          · subst hne
            go_wp2_with fail
            go_roundw
            case rel => exact ⟨j + 1, rv, gv, L, GV, by go_num, by omega, by omega, by omega, hg1, by omega, HT, HI, HW⟩
            case measure => simp [intOf]; omega
          · have hnp : (0 : Int) < (ln : Int) := by omega
            have hnp2 : 0 < ln := by omega
            have HLK : Hid (EKeep wr (Xs (w.heap.size + 2) rv gv) (.slice ea ln ec) l) := EKeep.old HEV.out HBw.out.size HBw.out.block (fun b hb => by have := (HT.out.lo b hb).1; omega)
            have HAD : Hid (Calls Tryz.prog 6 #[.pointer (some ⟨w.heap.size + 2, 0, none⟩), .int .i64 0, .slice ea ln ec] wr (AdP R wm (w.heap.size + 1) (w.heap.size + 2) L GV (.slice ea ln ec) l wr)) :=
              addT_any HT.out hbs (HL.out.at HBw.out) HLK.out HOK2.out.1 HOK2.out.2 (by omega) (by omega)
            go_wp2_with fail
            refine HAD.out.mono ?_
            clear HAD c1 HLK
            rintro e w4 ⟨rfl, hb4, rv4, gv4, ht4⟩
            have HB4w : Hid (Below w.heap.size w w4) := HBw.out.trans (hb4.mono (by omega))
            have HW4 : Hid (Below (w.heap.size + 1) w3 w4) := HW.out.trans hb4
            obtain ⟨ch, Hch⟩ := hid_ex (chkF R wm l)
            rw [← Hch.out]
            by_cases hch : ch = 0
            · have hck : chkF R wm l = 0 := by rw [← Hch.out]; exact hch
              have hst : stB R wm l = staleF R wm l := by unfold stB; rw [if_pos hck]
              rw [hst] at ht4
              obtain ⟨_, _, _, _, hft⟩ := chkF_ok hck
              have hI4 := tree_add HI.out (by omega) (by rw [List.length_map]; exact hg1) hck (fit_gd hft HCN.out) (by
                intro e
                rw [e] at Hln
                exact hne Hln.out) (n := 60) HOK2.out.1
              rw [List.length_map] at hI4
              have HT4 : Hid (TrAt R wm (w.heap.size + 1) (w.heap.size + 2) w4 rv4 gv4 (L ++ [⟨(GV.length : Int), 0, (l.length : Int), staleF R wm l⟩]) (GV ++ [(.slice ea ln ec, l)])) := ht4
              have HI4 : Hid (TInv R wm (L ++ [⟨(GV.length : Int), 0, (l.length : Int), staleF R wm l⟩]) ((GV ++ [((.slice ea ln ec : Value), l)]).map Prod.snd) (60 * (L ++ [(⟨(GV.length : Int), 0, (l.length : Int), staleF R wm l⟩ : Rn)]).length)) := by
                rw [List.map_append, List.length_append]
                exact hI4
              have HG5 : Hid ((GV ++ [((.slice ea ln ec : Value), l)]).length = GV.length + 1) := by unfold Hid; simp
              have HL5 : Hid ((L ++ [(⟨(GV.length : Int), 0, (l.length : Int), staleF R wm l⟩ : Rn)]).length = L.length + 1) := by unfold Hid; simp
              have hcd : decide (ch = 0) = true := decide_eq_true hch
              rw [hcd]
              clear hb4 ht4 hck hst hft hI4 hcd Hch hch HT HI HW HBw HRr HEX
              go_wp2_with fail
              go_roundw
              case rel => exact ⟨j + 1, rv4, gv4, _, _, by go_num, by omega, by omega, by have := HL5.out; omega, by have := HG5.out; omega, by have := HG5.out; omega, HT4, HI4, HW4⟩
              case measure => simp [intOf]; omega
            · have hcd : decide (ch = 0) = false := decide_eq_false hch
              rw [hcd]
              clear hb4 ht4 hcd Hch hch HT HI HW HBw HRr HEX
              go_wp2_with fail
              refine (alive08_any w4).mono ?_
              rintro e w6 ⟨rfl, hb6⟩
              have HB6 : Hid (Below w.heap.size w w6) := HB4w.out.trans (hb6.mono HB4w.out.size)
              clear hb6
              go_wp2_with fail
              go_ret
              exact ⟨rfl, HB6.out⟩
      · obtain rfl : j = 8 := by omega
        have hl8' : ¬ ((8 : Nat) : Int) < 8 := by omega
        obtain ⟨hI9, _⟩ := HEX.out
        go_wp2_with fail
        refine HK0.out _ _ ?_
        exact tree_tail R wm (w.heap.size + 1) (w.heap.size + 2) va n vc w wr rv gv L GV rfl HT hI9 HBw HL HRr (by omega) (by omega) hg1 _ _ _ _ _ _ _ _ _ _ _ _ _ _ _ _ _ _ _ _ _ _ _ _ _ _ _ _ _ _ _ _ _ _ _ _ _ _ _ _ _ _ _ _ _ _ _ _ _ _ _ _ _ _ _ _ _ _ _ _ _ _ _ _ _ _ _ _ _ _ _ _ _ _ _ _ _ _ _ _ _ _ _ _ _ _ _ _ _ _ _ _ _ _ _ _ _ _ _ _ _ _ _ _ _ _ _ _ _ _ _ _ _ _ _ _ _ _ _ _ _ _ _ _ _ _ _ _ _ _ _ _ _ _ _ _ _ _ _ _ _ _ _ _
    · have hlt' : ¬ (j : Int) < (n : Int) := by omega
      have hltd : decide ((j : Int) < (n : Int)) = false := decide_eq_false hlt'
      obtain ⟨hI9, _⟩ := HEX.out
      go_wp2_with fail
      refine HK0.out _ _ ?_
      exact tree_tail R wm (w.heap.size + 1) (w.heap.size + 2) va n vc w wr rv gv L GV rfl HT hI9 HBw HL HRr (by omega) (by omega) hg1 _ _ _ _ _ _ _ _ _ _ _ _ _ _ _ _ _ _ _ _ _ _ _ _ _ _ _ _ _ _ _ _ _ _ _ _ _ _ _ _ _ _ _ _ _ _ _ _ _ _ _ _ _ _ _ _ _ _ _ _ _ _ _ _ _ _ _ _ _ _ _ _ _ _ _ _ _ _ _ _ _ _ _ _ _ _ _ _ _ _ _ _ _ _ _ _ _ _ _ _ _ _ _ _ _ _ _ _ _ _ _ _ _ _ _ _ _ _ _ _ _ _ _ _ _ _ _ _ _ _ _ _ _ _ _ _ _ _ _ _ _ _ _ _
theorem toptree_wf (R : Rl) (wm : Int) (v : Value) (rs : List (List En)) (w : World) (hL : Lies R w.heap.size w) (_ : (Lit.int .i64 wm).wf = true) (hE : RReads w v rs) :
    Calls Tryz.prog 3 #[.agg #[.slice R.a R.len R.cap, .int .i64 R.kp], .int .i64 wm, v] w fun e w' => e = .returned (.bool true) ∧ Below w.heap.size w w' :=
  toptree_walk R wm v rs w hL hE
end Go.Proofs.YthicmbjiblbcmaaGreat
