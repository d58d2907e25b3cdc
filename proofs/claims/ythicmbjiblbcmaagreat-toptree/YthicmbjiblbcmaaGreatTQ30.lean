/- PT2, joined. -/
import Derived.Test.YthicmbjiblbcmaaGreatTQ29
/- TopTree: Fold's answer is one's own; what a tree knows. -/
namespace Go.Proofs.YthicmbjiblbcmaaGreat
open Go.RowKit

set_option maxRecDepth 100000 in
set_option maxHeartbeats 4000000 in
theorem foldO_ok (R : Rl) (wm : Int) (v : Value) (L : List En) (w : World) (hL : Lies R w.heap.size w) (hE : EReads w v L) (hl : L.length ≤ 100000) (hk : ∀ x ∈ L, x.1.length ≤ 1000) (hz0 : chkF R wm L = 0) :
    Calls Tryz.prog 12 #[.agg #[.slice R.a R.len R.cap, .int .i64 R.kp], .int .i64 wm, v] w fun e w' => ∃ (a : Option Addr) (cap : Nat) (xs : List Ev), e = .returned (.tuple #[.slice a xs.length cap, .int .i64 0]) ∧ EOwn w' w.heap.size (.slice a xs.length cap) xs ∧ xs.map evE = foldF R wm L ∧ (∀ x ∈ xs, CnOk x.a) ∧ Below w.heap.size w w' := by
  have HE : Hid (EReads w v L) := hE
  have HL : Hid (Lies R w.heap.size w) := hL
  have HK : Hid _ := hk
  have HZ0 : Hid (chkF R wm L = 0) := hz0
  obtain ⟨a, cap, rfl, hm1, hm2⟩ := hE.form
  unfold maxLen at hm2
  clear hE hL hk hz0
  obtain ⟨w1, HW1⟩ := hid_ex (w.alloc (.cells #[.slice R.a R.len R.cap, .int .i64 R.kp] 24))
  have hb1 : Below w.heap.size w w1 := by rw [HW1.out]; exact new_below _ _
  have HX1 : Hid (RBox R w.heap.size w1) := by rw [HW1.out]; exact RBox.new R w _
  have HL1 : Hid (Lies R w1.heap.size w1) := HL.out.at hb1
  have HE1 : Hid (EReads w1 (.slice a L.length cap) L) := HE.out.below hb1
  have HB1 : Hid _ := hb1
  clear hb1
  go_enter Tryz.func12, Tryz.ntmps12
  go_wp2_with fail
  rw [← HW1.out]
  clear HW1
  refine (checked_any R wm _ L _ HL1.out HE1.out hl HK.out).mono ?_
  rintro e w2 ⟨hb2, ⟨hne, rfl⟩ | ⟨hz, xa, xc, xs, rfl, ht, hm, hok⟩⟩
  · exact absurd HZ0.out hne
  · obtain ⟨_, hR, hwt, _, _⟩ := chkF_ok hz
    have HZ : Hid (chkF R wm L = 0) := hz
    have HM : Hid (xs.map itE = L) := hm
    have HB2 : Hid (Below w.heap.size w w2) := HB1.out.trans (hb2.mono HB1.out.size)
    have HX2 : Hid (RBox R w.heap.size w2) := HX1.out.below hb2
    have HT : Hid (TReads w2 (.slice xa L.length xc) xs) := ht
    have hxl : xs.length ≤ 100000 := by have h := congrArg List.length hm; simp at h; omega
    have HOK : Hid _ := hok
    have HR : Hid (RightP R) := hR
    have HL2 : Hid (Lies R w2.heap.size w2) := HL.out.at HB2.out
    obtain ⟨r0, r1⟩ := HX2.out.at
    clear hz hb2 ht hm hok hR HB1 HX1 HL1 HE1
    go_wp2_with fail
    refine (folded_any R HR.out wm hwt _ xs _ HL2.out HT.out HOK.out hxl).mono ?_
    rintro e w3 ⟨v', ys, rfl, ho, hm3, hc3, hb3⟩
    rw [HM.out] at hm3
    obtain ⟨ya, yc, rfl, _⟩ := (ho.reads hc3).form
    rw [List.length_map] at ho ⊢
    have ho2 : EOwn w3 w.heap.size (.slice ya ys.length yc) ys := ⟨own_mono ho.1 HB2.out.size, fun x hx => own_mono (ho.2 x hx) HB2.out.size⟩
    have HEnd : Hid (∃ (a : Option Addr) (cap : Nat) (xs : List Ev), Ending.returned (.tuple #[.slice ya ys.length yc, .int .i64 0]) = .returned (.tuple #[.slice a xs.length cap, .int .i64 0]) ∧ EOwn w3 w.heap.size (.slice a xs.length cap) xs ∧ xs.map evE = foldF R wm L ∧ (∀ x ∈ xs, CnOk x.a) ∧ Below w.heap.size w w3) := ⟨ya, yc, ys, rfl, ho2, hm3, hc3, HB2.out.trans (hb3.mono HB2.out.size)⟩
    obtain ⟨yn, Hyn⟩ := hid_ex ys.length
    rw [← Hyn.out] at HEnd ⊢
    clear ho ho2 hm3 hc3 hb3 r0 r1
    go_wp2_with fail
    go_ret2
    exact HEnd.out
/-- Fold, and whose its answer is. -/
def FoO (R : Rl) (wm : Int) (L : List En) (w : World) (e : Ending) (w' : World) : Prop :=
  Below w.heap.size w w' ∧ ((chkF R wm L ≠ 0 ∧ e = .returned (.tuple #[.slice none 0 0, .int .i64 (chkF R wm L)])) ∨ (chkF R wm L = 0 ∧ ∃ (a : Option Addr) (cap : Nat) (xs : List Ev), e = .returned (.tuple #[.slice a xs.length cap, .int .i64 0]) ∧ EOwn w' w.heap.size (.slice a xs.length cap) xs ∧ xs.map evE = foldF R wm L ∧ (∀ x ∈ xs, CnOk x.a)))
theorem foldO_any (R : Rl) (wm : Int) (v : Value) (L : List En) (w : World) (hL : Lies R w.heap.size w) (hE : EReads w v L) (hl : L.length ≤ 100000) (hk : ∀ x ∈ L, x.1.length ≤ 1000) :
    Calls Tryz.prog 12 #[.agg #[.slice R.a R.len R.cap, .int .i64 R.kp], .int .i64 wm, v] w (FoO R wm L w) := by
  by_cases hz : chkF R wm L = 0
  · refine (foldO_ok R wm v L w hL hE hl hk hz).mono ?_
    rintro e w' ⟨a, cap, xs, h1, h2, h3, h4, h5⟩
    exact ⟨h5, .inr ⟨hz, a, cap, xs, h1, h2, h3, h4⟩⟩
  · refine (fold_any R wm v L w hL hE hl hk).mono ?_
    rintro e w' ⟨h1, h2 | h2⟩
    · exact ⟨h1, .inl h2⟩
    · exact absurd h2.1 hz
theorem rr_form {w : World} {v : Value} {rs : List (List En)} (h : RReads w v rs) : ∃ a cap, v = .slice a rs.length cap ∧ rs.length ≤ cap ∧ cap ≤ maxLen := by
  obtain ⟨a, cap, hv, h1, h2, _⟩ := h
  exact ⟨a, cap, hv, h1, h2⟩
theorem rr_ptr {w : World} {a : Option Addr} {n cap : Nat} {rs : List (List En)} (h : RReads w (.slice a n cap) rs) (h0 : 0 < rs.length) : ∃ b off, a = some ⟨b, off, none⟩ ∧ b < w.heap.size := by
  obtain ⟨a', cap', hv, h1, h2, h3⟩ := h
  simp at hv
  obtain ⟨rfl, _, rfl⟩ := hv
  rcases h3 with rfl | ⟨b, off, h4, h5, _⟩
  · simp at h0
  · exact ⟨b, off, h4, h5⟩
/-- What known tells. -/
def KnP (R : Rl) (wm : Int) (rs : List (List En)) (w : World) (e : Ending) (w' : World) : Prop :=
  Below w.heap.size w w' ∧ ((chkF R wm (allF rs) ≠ 0 ∧ e = .returned (.tuple #[.slice none 0 0, .bool false])) ∨ (chkF R wm (allF rs) = 0 ∧ ∃ (a : Option Addr) (cap : Nat) (xs : List Ev), e = .returned (.tuple #[.slice a xs.length cap, .bool true]) ∧ EOwn w' w.heap.size (.slice a xs.length cap) xs ∧ xs.map evE = foldF R wm (allF rs) ∧ (∀ x ∈ xs, CnOk x.a)))
theorem rowsT_len (L : List Rn) (G : List (List En)) : (rowsT L G).length = L.length := by unfold rowsT; rw [List.length_map]
theorem rowsT_take {L : List Rn} {G : List (List En)} {k : Nat} (hk : k < L.length) : (rowsT L G).take (k + 1) = (rowsT L G).take k ++ [rwT G L[k].f] := by
  rw [List.take_succ_eq_append_getElem (by rw [rowsT_len]; exact hk)]
  unfold rowsT
  rw [List.getElem_map]
theorem flat_le {r : List En} : ∀ {rs : List (List En)}, r ∈ rs → r.length ≤ rs.flatten.length
  | x :: rs, h => by
    rw [List.flatten_cons, List.length_append]
    rcases List.mem_cons.1 h with rfl | h
    · omega
    · have := flat_le h; omega
theorem rows_small {R : Rl} {wm : Int} {rs : List (List En)} (h : ∀ r ∈ rs, chkF R wm r = 0 ∧ GdE r) (hn : rs.flatten.length ≤ 480) : (∀ r ∈ rs, r.length ≤ 100000) ∧ (∀ r ∈ rs, ∀ x ∈ r, x.1.length ≤ 100000) ∧ (allF rs).length ≤ 100000 ∧ ∀ x ∈ allF rs, x.1.length ≤ 1000 := by
  have ho := rows_ok15 h
  refine ⟨fun r hr => by have := flat_le hr; omega, fun r hr x hx => ?_, by have := ho.l; omega, fun x hx => fit_short (ho.fa x hx).k⟩
  obtain ⟨_, _, _, _, h5⟩ := chkF_ok (h r hr).1
  have := fit_short (h5 x hx).k
  omega
set_option maxRecDepth 100000 in
set_option maxHeartbeats 4000000 in
theorem known_any {R : Rl} {wm : Int} {base p : Nat} {w : World} {rv gv : Value} {L : List Rn} {GV : List (Value × List En)} (h : TrAt R wm base p w rv gv L GV) (hI : TInv R wm L (GV.map Prod.snd) 480) (hL : Lies R w.heap.size w) :
    Calls Tryz.prog 7 #[.pointer (some ⟨p, 0, none⟩)] w (KnP R wm (rowsT L (GV.map Prod.snd)) w) := by
  have HRR : Hid (RReads w gv (GV.map Prod.snd)) := h.rreads
  have HNR : Hid (NReads w rv L) := h.nreads
  have HBX := (show Hid _ from h.bx)
  have hpl := (h.lo p (.inl rfl)).2
  obtain ⟨G, HG⟩ := hid_ex (GV.map Prod.snd)
  rw [← HG.out] at HRR hI ⊢
  clear h HG
  have HL : Hid (Lies R w.heap.size w) := hL
  have HI : Hid (TInv R wm L G 480) := hI
  obtain ⟨ra, rc, rfl, hr1, hr2⟩ := HNR.out.form
  obtain ⟨ga, gc, rfl, hg1, hg2⟩ := rr_form HRR.out
  unfold maxLen at hr2 hg2
  have h64 : L.length ≤ 64 := hI.ok.1
  have HRS : Hid (∀ r ∈ rowsT L G, chkF R wm r = 0 ∧ GdE r) := hI.rows
  have HSM : Hid _ := rows_small HRS.out hI.n
  have HZ : Hid (rowsF (rowsT L G) = 0) := (rows_ok15 HRS.out).z
  obtain ⟨n, Hn⟩ := hid_ex L.length
  obtain ⟨gn, Hgn⟩ := hid_ex G.length
  rw [← Hn.out] at hr1 h64 HBX
  rw [← Hgn.out] at hg1 HBX
  have HNR2 : Hid (NReads w (.slice ra n rc) L) := by rw [Hn.out]; exact HNR.out
  have HRR2 : Hid (RReads w (.slice ga gn gc) G) := by rw [Hgn.out]; exact HRR.out
  obtain ⟨i0, hif, hz0, hz1, hz2⟩ := info_parts infoTr
  clear hI hL HNR HRR
  go_enter Tryz.func7, Tryz.ntmps7
  go_wp2_with fail
  go_loopw [4, 5] (fun mv i wr => ∃ k : Nat, k ≤ n ∧ i = .int .i64 (k : Int) ∧ Hid (GOwnO w wr w.heap.size mv ((rowsT L G).take k)) ∧ Hid (Below w.heap.size w wr)) (fun _ i _ => n - (intOf i).toNat)
  case atStart => exact ⟨0, by omega, rfl, GOwnO.nil _ _ _, Below.refl _ _⟩
  case round =>
    obtain ⟨k, hk, rfl, HO, HW⟩ := hrel
    have HXr : Hid (wr.heap[p]? = some (.cells #[.slice R.a R.len R.cap, .int .i64 R.kp, .int .i64 wm, .slice ra n rc, .slice ga gn gc] 29)) := (HW.out.block _ hpl).trans HBX.out
    have d3 := (cell_row HXr.out 3 (by simp)).1
    simp only [List.getElem_toArray, List.getElem_cons_zero, List.getElem_cons_succ] at d3
    by_cases hlt : k < n
    · have hlt' : (k : Int) < (n : Int) := by omega
      have hkL : k < L.length := by rw [← Hn.out]; exact hlt
      have hro := HI.out.ro L[k] (List.getElem_mem hkL)
      have hon := HI.out.ok.2.1 L[k] (List.getElem_mem hkL)
      obtain ⟨f, hf⟩ : ∃ f : Nat, L[k].f = (f : Int) := ⟨L[k].f.toNat, by have := hon.1; omega⟩
      have hfG : f < G.length := by have := hro.f; rw [hf] at this; simpa using this
      have hfg : (f : Int) < (gn : Int) := by rw [Hgn.out]; omega
      obtain ⟨rb, ro, rfl, hrb⟩ := HNR2.out.ptr (by omega)
      obtain ⟨gb, go, rfl, hgb⟩ := rr_ptr HRR2.out (by omega)
      have c1 := (HNR2.out.four hkL _ rfl).1
      rw [hf] at c1
      obtain ⟨ev, d1, hev⟩ := rReads_at HRR2.out hfG
      obtain ⟨ea, ec, rfl, hle1, hle2⟩ := hev.form
      have HST : Hid ((rowsT L G).take (k + 1) = (rowsT L G).take k ++ [G[f]]) := by
        unfold Hid
        rw [rowsT_take hkL, hf]
        unfold rwT
        rw [List.getD_eq_getElem?_getD, Int.toNat_natCast, List.getElem?_eq_getElem hfG]
        rfl
      have hlk : ((rowsT L G).take k).length = k := by rw [List.length_take, rowsT_len]; omega
      obtain ⟨vs, hown, hvl, hvr⟩ := HO.out
      have HVL : Hid _ := hvl
      have HVR : Hid _ := hvr
      rw [hlk] at hown
      obtain ⟨am, cm, hmf⟩ := HO.out.form
      rw [hlk] at hmf
      subst hmf
      obtain ⟨r, Hr⟩ := hid_ex G[f]
      rw [← Hr.out] at d1 hev HST
      have HEV : Hid (EReads w (.slice ea r.length ec) r) := hev
      obtain ⟨rn, Hrn⟩ := hid_ex r.length
      rw [← Hrn.out] at d1 HEV
      have hsz := HW.out.size
      obtain ⟨v6, w6, hrun, hown6, hgrow6, _⟩ := run_append_own (P := Tryz.prog) (wr.drew.alloc (.cells #[.slice ea rn ec] 31)) w.heap.size 25 25 31 i0 _ 1 24 Tryz.underlying25 hif hz0 hz1 hz2 rfl (by decide) (.slice am k cm) k vs (World.ownsRow.alloc (World.ownsRow.drew hown) _) ⟨wr.heap.size, 0, none⟩ 1 1 [.slice ea rn ec] rfl news1 (by simp [Value.oneCell']) (by unfold maxLen; omega) (by omega) (al_ok hsz)
      have HO6 : Hid (GOwnO w w6 w.heap.size v6 ((rowsT L G).take (k + 1))) := GOwnO.snoc HST.out vs (by rw [hlk]; exact hown6) HVL.out HVR.out HEV.out
      have HW6 : Hid (Below w.heap.size w w6) := (HW.out.drew.alloc hsz _).grown hgrow6 (al_ok hsz) (own_block hown)
      have HC1 : Hid _ := c1
      have HD1 : Hid _ := d1
      clear hev hle1 hle2 hvl hvr HST hlk hown hown6 hgrow6 HO HVL HVR Hrn Hr hro hon hf hfG c1 d1
      go_wp2_with fail
      refine wp_region_noPanic ?_
      refine wp_region_held_drew (S := (fun w' => Below w.heap.size w w')) (by kernel_rfl) ?_ (fun hHeld => ?_)
      · exact HW.out.drew
      refine wpAnyH_take (i := 0) (v := .slice am k cm) rfl (by kernel_rfl) (by kernel_rfl) (by kernel_rfl) (fun _ _ _ h => h) (Or.inl ⟨by rfl, ?_⟩) (by assumption) ?_
      · (intro w1 hSw; (try dsimp only at hSw); go_simp)
      simp only [List.getElem_toArray, List.getElem_cons_zero, Act.put, List.setIfInBounds_toArray, List.set_cons_zero, List.set_cons_succ]
      refine wpAnyH_take (i := 1) (v := .pointer (some ⟨p, 0, none⟩)) rfl (by kernel_rfl) (by kernel_rfl) (by kernel_rfl) (fun _ _ _ h => h) (Or.inl ⟨by rfl, ?_⟩) (by assumption) ?_
      · (intro w1 hSw; (try dsimp only at hSw); go_simp)
      simp only [List.getElem_toArray, List.getElem_cons_succ, List.getElem_cons_zero, Act.put, List.setIfInBounds_toArray, List.set_cons_zero, List.set_cons_succ]
      refine wpAnyH_take (i := 2) (v := .pointer (some ⟨p, 0, none⟩)) rfl (by kernel_rfl) (by kernel_rfl) (by kernel_rfl) (fun _ _ _ h => h) (Or.inl ⟨by rfl, ?_⟩) (by assumption) ?_
      · (intro w1 hSw; (try dsimp only at hSw); go_simp)
      simp only [List.getElem_toArray, List.getElem_cons_succ, List.getElem_cons_zero, Act.put, List.setIfInBounds_toArray, List.set_cons_zero, List.set_cons_succ]
      refine wpAnyH_take (i := 3) (v := .pointer (some ⟨p, 4, none⟩)) rfl (by kernel_rfl) (by kernel_rfl) (by kernel_rfl) (fun _ _ _ h => h) (Or.inl ⟨by rfl, ?_⟩) (by assumption) ?_
      · (intro w1 hSw; (try dsimp only at hSw); go_simp)
      simp only [List.getElem_toArray, List.getElem_cons_succ, List.getElem_cons_zero, Act.put, List.setIfInBounds_toArray, List.set_cons_zero, List.set_cons_succ]
      refine wpAnyH_take (i := 4) (v := .slice (some ⟨gb, go, none⟩) gn gc) rfl (by kernel_rfl) (by kernel_rfl) (by kernel_rfl) (fun _ _ _ h => h) (Or.inl ⟨by rfl, ?_⟩) (by assumption) ?_
      · (intro w1 hSw; (try dsimp only at hSw); have gx := (hSw.block _ hpl).trans HBX.out; have g0 := (cell_row gx 4 (by simp)).1; simp only [List.getElem_toArray, List.getElem_cons_zero, List.getElem_cons_succ] at g0; go_simp)
      simp only [List.getElem_toArray, List.getElem_cons_succ, List.getElem_cons_zero, Act.put, List.setIfInBounds_toArray, List.set_cons_zero, List.set_cons_succ]
      refine wpAnyH_take (i := 5) (v := .pointer (some ⟨p, 0, none⟩)) rfl (by kernel_rfl) (by kernel_rfl) (by kernel_rfl) (fun _ _ _ h => h) (Or.inl ⟨by rfl, ?_⟩) (by assumption) ?_
      · (intro w1 hSw; (try dsimp only at hSw); go_simp)
      simp only [List.getElem_toArray, List.getElem_cons_succ, List.getElem_cons_zero, Act.put, List.setIfInBounds_toArray, List.set_cons_zero, List.set_cons_succ]
      refine wpAnyH_take (i := 6) (v := .pointer (some ⟨p, 0, none⟩)) rfl (by kernel_rfl) (by kernel_rfl) (by kernel_rfl) (fun _ _ _ h => h) (Or.inl ⟨by rfl, ?_⟩) (by assumption) ?_
      · (intro w1 hSw; (try dsimp only at hSw); go_simp)
      simp only [List.getElem_toArray, List.getElem_cons_succ, List.getElem_cons_zero, Act.put, List.setIfInBounds_toArray, List.set_cons_zero, List.set_cons_succ]
      refine wpAnyH_take (i := 7) (v := .pointer (some ⟨p, 3, none⟩)) rfl (by kernel_rfl) (by kernel_rfl) (by kernel_rfl) (fun _ _ _ h => h) (Or.inl ⟨by rfl, ?_⟩) (by assumption) ?_
      · (intro w1 hSw; (try dsimp only at hSw); go_simp)
      simp only [List.getElem_toArray, List.getElem_cons_succ, List.getElem_cons_zero, Act.put, List.setIfInBounds_toArray, List.set_cons_zero, List.set_cons_succ]
      refine wpAnyH_take (i := 8) (v := .slice (some ⟨rb, ro, none⟩) n rc) rfl (by kernel_rfl) (by kernel_rfl) (by kernel_rfl) (fun _ _ _ h => h) (Or.inl ⟨by rfl, ?_⟩) (by assumption) ?_
      · (intro w1 hSw; (try dsimp only at hSw); have gx := (hSw.block _ hpl).trans HBX.out; have g0 := (cell_row gx 3 (by simp)).1; simp only [List.getElem_toArray, List.getElem_cons_zero, List.getElem_cons_succ] at g0; go_simp)
      simp only [List.getElem_toArray, List.getElem_cons_succ, List.getElem_cons_zero, Act.put, List.setIfInBounds_toArray, List.set_cons_zero, List.set_cons_succ]
      refine wpAnyH_take (i := 9) (v := .int .i64 (k : Int)) rfl (by kernel_rfl) (by kernel_rfl) (by kernel_rfl) (fun _ _ _ h => h) (Or.inl ⟨by rfl, ?_⟩) (by assumption) ?_
      · (intro w1 hSw; (try dsimp only at hSw); go_simp)
      simp only [List.getElem_toArray, List.getElem_cons_succ, List.getElem_cons_zero, Act.put, List.setIfInBounds_toArray, List.set_cons_zero, List.set_cons_succ]
      refine wpAnyH_take (i := 10) (v := .pointer (some ⟨rb, ro + k * 4, none⟩)) rfl (by kernel_rfl) (by kernel_rfl) (by kernel_rfl) (fun _ _ _ h => h) (Or.inl ⟨by rfl, ?_⟩) (by assumption) ?_
      · (intro w1 hSw; (try dsimp only at hSw); go_simp)
      simp only [List.getElem_toArray, List.getElem_cons_succ, List.getElem_cons_zero, Act.put, List.setIfInBounds_toArray, List.set_cons_zero, List.set_cons_succ]
      refine wpAnyH_take (i := 11) (v := .pointer (some ⟨rb, ro + k * 4, none⟩)) rfl (by kernel_rfl) (by kernel_rfl) (by kernel_rfl) (fun _ _ _ h => h) (Or.inl ⟨by rfl, ?_⟩) (by assumption) ?_
      · (intro w1 hSw; (try dsimp only at hSw); go_simp)
      simp only [List.getElem_toArray, List.getElem_cons_succ, List.getElem_cons_zero, Act.put, List.setIfInBounds_toArray, List.set_cons_zero, List.set_cons_succ]
      refine wpAnyH_take (i := 12) (v := .int .i64 (f : Int)) rfl (by kernel_rfl) (by kernel_rfl) (by kernel_rfl) (fun _ _ _ h => h) (Or.inl ⟨by rfl, ?_⟩) (by assumption) ?_
      · (intro w1 hSw; (try dsimp only at hSw); have g0 := (hSw.cell (p := ⟨rb, _, none⟩) hrb).trans HC1.out; go_simp)
      simp only [List.getElem_toArray, List.getElem_cons_succ, List.getElem_cons_zero, Act.put, List.setIfInBounds_toArray, List.set_cons_zero, List.set_cons_succ]
      refine wpAnyH_take (i := 13) (v := .pointer (some ⟨gb, go + f, none⟩)) rfl (by kernel_rfl) (by kernel_rfl) (by kernel_rfl) (fun _ _ _ h => h) (Or.inl ⟨by rfl, ?_⟩) (by assumption) ?_
      · (intro w1 hSw; (try dsimp only at hSw); go_simp)
      simp only [List.getElem_toArray, List.getElem_cons_succ, List.getElem_cons_zero, Act.put, List.setIfInBounds_toArray, List.set_cons_zero, List.set_cons_succ]
      refine wpAnyH_take (i := 14) (v := .slice ea rn ec) rfl (by kernel_rfl) (by kernel_rfl) (by kernel_rfl) (fun _ _ _ h => h) (Or.inl ⟨by rfl, ?_⟩) (by assumption) ?_
      · (intro w1 hSw; (try dsimp only at hSw); have g0 := (hSw.cell (p := ⟨gb, _, none⟩) hgb).trans HD1.out; go_simp)
      simp only [List.getElem_toArray, List.getElem_cons_succ, List.getElem_cons_zero, Act.put, List.setIfInBounds_toArray, List.set_cons_zero, List.set_cons_succ]
      refine wpAnyH_ready (rs := [15]) (by kernel_rfl) (by simp) ?_
      refine AllReadyH.cons (o := _) rfl (fun K hK => ?_) AllReadyH.nil
      go_simp
      refine hK.out _ _ ?_ (fun hHeld => ?_)
      · exact HW.out.drew.alloc hsz _
      clear hK K
      refine wpAnyH_ready (rs := [16]) (by kernel_rfl) (by simp) ?_
      refine AllReadyH.cons (o := _) rfl (fun K hK => ?_) AllReadyH.nil
      refine wp_app_runT (.tmp 19) (.tmp 34) _ _ rfl rfl _ _ _ rfl rfl hrun ?_
      refine hK.out _ _ ?_ (fun hHeld => ?_)
      · exact HW6.out
      clear hK K
      refine wpAnyH_take (i := 17) (v := v6) rfl (by kernel_rfl) (by kernel_rfl) (by kernel_rfl) (fun _ _ _ h => h) (Or.inl ⟨by rfl, ?_⟩) (by assumption) ?_
      · (intro w1 hSw; (try dsimp only at hSw); go_simp)
      simp only [List.getElem_toArray, List.getElem_cons_succ, List.getElem_cons_zero, Act.put, List.setIfInBounds_toArray, List.set_cons_zero, List.set_cons_succ]
      clear hHeld
      refine wpAnyH_done (by kernel_rfl) ?_ _
      refine NoPanic.normal ?_
      clear hrun
      go_wp2_with fail
      go_roundw
      case rel => exact ⟨k + 1, by omega, by go_num, HO6, HW6⟩
      case measure => simp [intOf]; omega
    · obtain rfl : k = n := by omega
      have hlt' : ¬ (k : Int) < (k : Int) := by omega
      have HM : Hid (RReads wr u4 (rowsT L G)) := by
        have h := HO.out
        rw [List.take_of_length_le (by rw [rowsT_len, Hn.out]; exact Nat.le_refl _)] at h
        exact h.reads HW.out
      obtain ⟨ma, mc, hmv, -, -⟩ := rr_form HM.out
      rw [rowsT_len, ← Hn.out] at hmv
      subst hmv
      obtain ⟨A, HA⟩ := hid_ex (allF (rowsT L G))
      have HSA : Hid (A.length ≤ 100000 ∧ ∀ x ∈ A, x.1.length ≤ 1000) := by rw [HA.out]; exact HSM.out.2.2
      have HPO : Hid (∀ e w', (Below w.heap.size w w' ∧ ((chkF R wm A ≠ 0 ∧ e = .returned (.tuple #[.slice none 0 0, .bool false])) ∨ (chkF R wm A = 0 ∧ ∃ (a : Option Addr) (cap : Nat) (xs : List Ev), e = .returned (.tuple #[.slice a xs.length cap, .bool true]) ∧ EOwn w' w.heap.size (.slice a xs.length cap) xs ∧ xs.map evE = foldF R wm A ∧ (∀ x ∈ xs, CnOk x.a)))) → KnP R wm (rowsT L G) w e w') := by
        unfold Hid KnP
        rw [HA.out]
        exact fun e w' h => h
      have HAL : Hid (Calls Tryz.prog 14 #[.slice ma k mc] wr fun e w' => ∃ a cap, e = .returned (.tuple #[.slice a A.length cap, .int .i64 0]) ∧ EReads w' (.slice a A.length cap) A ∧ Below wr.heap.size wr w') :=
        all_ok _ (rowsT L G) wr HM.out (by rw [rowsT_len]; have := Hn.out; omega) HSM.out.1 HSM.out.2.1 HZ.out A HA.out
      clear HO HRS HSM HZ HI hif hz0 hz1 hz2 HM HA HNR2 HRR2
      go_wp2_with fail
      refine HAL.out.mono ?_
      clear HAL
      rintro e w3 ⟨ba, bc, rfl, hE3, hb3⟩
      have HE3 : Hid (EReads w3 (.slice ba A.length bc) A) := hE3
      have HB3 : Hid (Below w.heap.size w w3) := HW.out.trans (hb3.mono HW.out.size)
      have HX3 : Hid (w3.heap[p]? = some (.cells #[.slice R.a R.len R.cap, .int .i64 R.kp, .int .i64 wm, .slice ra k rc, .slice ga gn gc] 29)) := (HB3.out.block _ hpl).trans HBX.out
      have hpl3 : p < w3.heap.size := (Array.getElem?_eq_some_iff.1 HX3.out).1
      have HFO : Hid (∀ W, Below w3.heap.size w3 W → Calls Tryz.prog 12 #[.agg #[.slice R.a R.len R.cap, .int .i64 R.kp], .int .i64 wm, .slice ba A.length bc] W (FoO R wm A W)) := fun W hW =>
        foldO_any R wm _ A W (HL.out.at (HB3.out.trans (hW.mono HB3.out.size))) (HE3.out.below hW) HSA.out.1 HSA.out.2
      obtain ⟨an, Han⟩ := hid_ex A.length
      rw [← Han.out] at HFO ⊢
      clear hE3 hb3 HE3 HXr d3 HW
      go_wp2_with fail
      refine wp_region_noPanic ?_
      refine wp_region_held_drew (S := (fun w' => Below w3.heap.size w3 w')) (by kernel_rfl) ?_ (fun hHeld => ?_)
      · exact (Below.refl _ _).drew
      refine wpAnyH_take (i := 0) (v := .pointer (some ⟨p, 0, none⟩)) rfl (by kernel_rfl) (by kernel_rfl) (by kernel_rfl) (fun _ _ _ h => h) (Or.inl ⟨by rfl, ?_⟩) (by assumption) ?_
      · (intro w1 hSw; (try dsimp only at hSw); go_simp)
      simp only [List.getElem_toArray, List.getElem_cons_zero, Act.put, List.setIfInBounds_toArray, List.set_cons_zero, List.set_cons_succ]
      refine wpAnyH_take (i := 1) (v := .pointer (some ⟨p, 0, none⟩)) rfl (by kernel_rfl) (by kernel_rfl) (by kernel_rfl) (fun _ _ _ h => h) (Or.inl ⟨by rfl, ?_⟩) (by assumption) ?_
      · (intro w1 hSw; (try dsimp only at hSw); go_simp)
      simp only [List.getElem_toArray, List.getElem_cons_succ, List.getElem_cons_zero, Act.put, List.setIfInBounds_toArray, List.set_cons_zero, List.set_cons_succ]
      refine wpAnyH_take (i := 2) (v := .pointer (some ⟨p, 0, none⟩)) rfl (by kernel_rfl) (by kernel_rfl) (by kernel_rfl) (fun _ _ _ h => h) (Or.inl ⟨by rfl, ?_⟩) (by assumption) ?_
      · (intro w1 hSw; (try dsimp only at hSw); go_simp)
      simp only [List.getElem_toArray, List.getElem_cons_succ, List.getElem_cons_zero, Act.put, List.setIfInBounds_toArray, List.set_cons_zero, List.set_cons_succ]
      refine wpAnyH_take (i := 3) (v := .agg #[.slice R.a R.len R.cap, .int .i64 R.kp]) rfl (by kernel_rfl) (by kernel_rfl) (by kernel_rfl) (fun _ _ _ h => h) (Or.inl ⟨by rfl, ?_⟩) (by assumption) ?_
      · (intro w1 hSw; (try dsimp only at hSw); have gx := (hSw.block _ hpl3).trans HX3.out; have g0 := (cell_row gx 0 (by simp)).1; have g1 := (cell_row gx 1 (by simp)).1; simp only [List.getElem_toArray, List.getElem_cons_zero, List.getElem_cons_succ] at g0 g1; go_simp)
      simp only [List.getElem_toArray, List.getElem_cons_succ, List.getElem_cons_zero, Act.put, List.setIfInBounds_toArray, List.set_cons_zero, List.set_cons_succ]
      refine wpAnyH_take (i := 4) (v := .pointer (some ⟨p, 0, none⟩)) rfl (by kernel_rfl) (by kernel_rfl) (by kernel_rfl) (fun _ _ _ h => h) (Or.inl ⟨by rfl, ?_⟩) (by assumption) ?_
      · (intro w1 hSw; (try dsimp only at hSw); go_simp)
      simp only [List.getElem_toArray, List.getElem_cons_succ, List.getElem_cons_zero, Act.put, List.setIfInBounds_toArray, List.set_cons_zero, List.set_cons_succ]
      refine wpAnyH_take (i := 5) (v := .pointer (some ⟨p, 0, none⟩)) rfl (by kernel_rfl) (by kernel_rfl) (by kernel_rfl) (fun _ _ _ h => h) (Or.inl ⟨by rfl, ?_⟩) (by assumption) ?_
      · (intro w1 hSw; (try dsimp only at hSw); go_simp)
      simp only [List.getElem_toArray, List.getElem_cons_succ, List.getElem_cons_zero, Act.put, List.setIfInBounds_toArray, List.set_cons_zero, List.set_cons_succ]
      refine wpAnyH_take (i := 6) (v := .pointer (some ⟨p, 2, none⟩)) rfl (by kernel_rfl) (by kernel_rfl) (by kernel_rfl) (fun _ _ _ h => h) (Or.inl ⟨by rfl, ?_⟩) (by assumption) ?_
      · (intro w1 hSw; (try dsimp only at hSw); go_simp)
      simp only [List.getElem_toArray, List.getElem_cons_succ, List.getElem_cons_zero, Act.put, List.setIfInBounds_toArray, List.set_cons_zero, List.set_cons_succ]
      refine wpAnyH_take (i := 7) (v := .int .i64 wm) rfl (by kernel_rfl) (by kernel_rfl) (by kernel_rfl) (fun _ _ _ h => h) (Or.inl ⟨by rfl, ?_⟩) (by assumption) ?_
      · (intro w1 hSw; (try dsimp only at hSw); have gx := (hSw.block _ hpl3).trans HX3.out; have g0 := (cell_row gx 2 (by simp)).1; simp only [List.getElem_toArray, List.getElem_cons_zero, List.getElem_cons_succ] at g0; go_simp)
      simp only [List.getElem_toArray, List.getElem_cons_succ, List.getElem_cons_zero, Act.put, List.setIfInBounds_toArray, List.set_cons_zero, List.set_cons_succ]
      refine wpAnyH_take (i := 8) (v := .slice ba an bc) rfl (by kernel_rfl) (by kernel_rfl) (by kernel_rfl) (fun _ _ _ h => h) (Or.inl ⟨by rfl, ?_⟩) (by assumption) ?_
      · (intro w1 hSw; (try dsimp only at hSw); go_simp)
      simp only [List.getElem_toArray, List.getElem_cons_succ, List.getElem_cons_zero, Act.put, List.setIfInBounds_toArray, List.set_cons_zero, List.set_cons_succ]
      refine wpAnyH_ready (rs := [9]) (by kernel_rfl) (by simp) ?_
      refine AllReadyH.cons (o := _) rfl (fun K hK => ?_) AllReadyH.nil
      go_simp
      refine (HFO.out _ (Below.refl _ _).drew).mono ?_
      clear HFO
      rintro e W3 ⟨hb4, hcs⟩
      have HW3 : Hid (Below w3.heap.size w3 W3) := (Below.refl w3.heap.size w3).drew.trans hb4
      have HB4 : Hid (Below w.heap.size w W3) := HB3.out.trans (HW3.out.mono HB3.out.size)
      clear hb4
      rcases hcs with ⟨hne, rfl⟩ | ⟨hz, fa, fc, xs, rfl, hev, hm9, hc9⟩
      · have HEnd : Hid (KnP R wm (rowsT L G) w (.returned (.tuple #[.slice none 0 0, .bool false])) W3) := HPO.out _ _ ⟨HB4.out, .inl ⟨hne, rfl⟩⟩
        obtain ⟨c, Hc⟩ := hid_ex (chkF R wm A)
        rw [← Hc.out] at hne ⊢
        have hcb : (c == 0) = false := by simp [hne]
        refine hK.out _ _ ?_ (fun hHeld => ?_)
        · exact HW3.out
        clear hK K
        refine wpAnyH_take (i := 10) (v := .tuple #[.slice none 0 0, .int .i64 c]) rfl (by kernel_rfl) (by kernel_rfl) (by kernel_rfl) (fun _ _ _ h => h) (Or.inl ⟨by rfl, ?_⟩) (by assumption) ?_
        · (intro w1 hSw; (try dsimp only at hSw); go_simp)
        simp only [List.getElem_toArray, List.getElem_cons_succ, List.getElem_cons_zero, Act.put, List.setIfInBounds_toArray, List.set_cons_zero, List.set_cons_succ]
        refine wpAnyH_take (i := 11) (v := .slice none 0 0) rfl (by kernel_rfl) (by kernel_rfl) (by kernel_rfl) (fun _ _ _ h => h) (Or.inl ⟨by rfl, ?_⟩) (by assumption) ?_
        · (intro w1 hSw; (try dsimp only at hSw); go_simp)
        simp only [List.getElem_toArray, List.getElem_cons_succ, List.getElem_cons_zero, Act.put, List.setIfInBounds_toArray, List.set_cons_zero, List.set_cons_succ]
        refine wpAnyH_take (i := 12) (v := .int .i64 c) rfl (by kernel_rfl) (by kernel_rfl) (by kernel_rfl) (fun _ _ _ h => h) (Or.inl ⟨by rfl, ?_⟩) (by assumption) ?_
        · (intro w1 hSw; (try dsimp only at hSw); go_simp)
        simp only [List.getElem_toArray, List.getElem_cons_succ, List.getElem_cons_zero, Act.put, List.setIfInBounds_toArray, List.set_cons_zero, List.set_cons_succ]
        refine wpAnyH_take (i := 13) (v := .slice none 0 0) rfl (by kernel_rfl) (by kernel_rfl) (by kernel_rfl) (fun _ _ _ h => h) (Or.inl ⟨by rfl, ?_⟩) (by assumption) ?_
        · (intro w1 hSw; (try dsimp only at hSw); go_simp)
        simp only [List.getElem_toArray, List.getElem_cons_succ, List.getElem_cons_zero, Act.put, List.setIfInBounds_toArray, List.set_cons_zero, List.set_cons_succ]
        refine wpAnyH_take (i := 14) (v := .int .i64 c) rfl (by kernel_rfl) (by kernel_rfl) (by kernel_rfl) (fun _ _ _ h => h) (Or.inl ⟨by rfl, ?_⟩) (by assumption) ?_
        · (intro w1 hSw; (try dsimp only at hSw); go_simp)
        simp only [List.getElem_toArray, List.getElem_cons_succ, List.getElem_cons_zero, Act.put, List.setIfInBounds_toArray, List.set_cons_zero, List.set_cons_succ]
        clear hHeld hne Hc
        refine wpAnyH_done (by kernel_rfl) ?_ _
        refine NoPanic.normal ?_
        go_wp2_with fail
        go_ret2
        exact HEnd.out
      · have hsz3 : w.heap.size ≤ w3.drew.heap.size := HB3.out.size
        have hev2 : EOwn W3 w.heap.size (.slice fa xs.length fc) xs := ⟨own_mono hev.1 hsz3, fun x hx => own_mono (hev.2 x hx) hsz3⟩
        have HEnd : Hid (KnP R wm (rowsT L G) w (.returned (.tuple #[.slice fa xs.length fc, .bool true])) W3) := HPO.out _ _ ⟨HB4.out, .inr ⟨hz, fa, fc, xs, rfl, hev2, hm9, hc9⟩⟩
        obtain ⟨fn, Hfn⟩ := hid_ex xs.length
        rw [← Hfn.out] at HEnd ⊢
        clear hev hev2 hm9 hc9 hz hsz3
        refine hK.out _ _ ?_ (fun hHeld => ?_)
        · exact HW3.out
        clear hK K
        refine wpAnyH_take (i := 10) (v := .tuple #[.slice fa fn fc, .int .i64 0]) rfl (by kernel_rfl) (by kernel_rfl) (by kernel_rfl) (fun _ _ _ h => h) (Or.inl ⟨by rfl, ?_⟩) (by assumption) ?_
        · (intro w1 hSw; (try dsimp only at hSw); go_simp)
        simp only [List.getElem_toArray, List.getElem_cons_succ, List.getElem_cons_zero, Act.put, List.setIfInBounds_toArray, List.set_cons_zero, List.set_cons_succ]
        refine wpAnyH_take (i := 11) (v := .slice fa fn fc) rfl (by kernel_rfl) (by kernel_rfl) (by kernel_rfl) (fun _ _ _ h => h) (Or.inl ⟨by rfl, ?_⟩) (by assumption) ?_
        · (intro w1 hSw; (try dsimp only at hSw); go_simp)
        simp only [List.getElem_toArray, List.getElem_cons_succ, List.getElem_cons_zero, Act.put, List.setIfInBounds_toArray, List.set_cons_zero, List.set_cons_succ]
        refine wpAnyH_take (i := 12) (v := .int .i64 0) rfl (by kernel_rfl) (by kernel_rfl) (by kernel_rfl) (fun _ _ _ h => h) (Or.inl ⟨by rfl, ?_⟩) (by assumption) ?_
        · (intro w1 hSw; (try dsimp only at hSw); go_simp)
        simp only [List.getElem_toArray, List.getElem_cons_succ, List.getElem_cons_zero, Act.put, List.setIfInBounds_toArray, List.set_cons_zero, List.set_cons_succ]
        refine wpAnyH_take (i := 13) (v := .slice fa fn fc) rfl (by kernel_rfl) (by kernel_rfl) (by kernel_rfl) (fun _ _ _ h => h) (Or.inl ⟨by rfl, ?_⟩) (by assumption) ?_
        · (intro w1 hSw; (try dsimp only at hSw); go_simp)
        simp only [List.getElem_toArray, List.getElem_cons_succ, List.getElem_cons_zero, Act.put, List.setIfInBounds_toArray, List.set_cons_zero, List.set_cons_succ]
        refine wpAnyH_take (i := 14) (v := .int .i64 0) rfl (by kernel_rfl) (by kernel_rfl) (by kernel_rfl) (fun _ _ _ h => h) (Or.inl ⟨by rfl, ?_⟩) (by assumption) ?_
        · (intro w1 hSw; (try dsimp only at hSw); go_simp)
        simp only [List.getElem_toArray, List.getElem_cons_succ, List.getElem_cons_zero, Act.put, List.setIfInBounds_toArray, List.set_cons_zero, List.set_cons_succ]
        clear hHeld Hfn
        refine wpAnyH_done (by kernel_rfl) ?_ _
        refine NoPanic.normal ?_
        go_wp2_with fail
        go_ret2
        exact HEnd.out
end Go.Proofs.YthicmbjiblbcmaaGreat
