/- R7 WX6 FCt WX7 WX8, joined. -/
import Derived.Test.YtahigmjpeicemaaGreatDoorWH21
import Derived.Test.YtahigmjpeicemaaGreatDoorWH24
import Derived.Test.YtahigmjpeicemaaGreatDoorWH28
import Derived.Test.YtahigmjpeicemaaGreatDoorWH30
/- The reference's All. -/
namespace Go.Proofs.YtahigmjpeicemaaGreatDoor
open Go.RowKit

set_option maxRecDepth 100000 in
set_option maxHeartbeats 1000000 in
theorem refAll_any (v : Value) (bs : List UInt8) (hbl : bs.length ≤ 100000) (w : World) (hR : Reads w v bs) :
    Calls Tryz.prog 53 #[v] w fun e W' => ∃ (vl : Value) (xs : List Fr), e = .returned (.tuple #[vl, .int .i64 (ksum (alF (bs.length + 1) bs) : Nat)]) ∧ xs.map Fr.p = alF (bs.length + 1) bs ∧ W'.ownsRow w.heap.size 28 1 vl xs.length (xs.map Fr.v) ∧ (∀ x ∈ xs, Own W' w.heap.size x.v x.D) ∧ Below w.heap.size w W' := by
  obtain ⟨a, cap, rfl, _⟩ := hR.form
  have HR : Hid (Reads w (.slice a bs.length cap) bs) := hR
  clear hR
  go_enter Tryz.func53, Tryz.ntmps53
  go_wp2_with fail
  go_loopw [4, 5] (fun o x wr => ∃ (m k : Nat) (pre : List Fr), k ≤ bs.length ∧ x = .int .i64 (k : Int) ∧ bs.length - k < m ∧ Hid (alF (bs.length + 1) bs = pre.map Fr.p ++ alF m (bs.drop k)) ∧ Hid (ksum (pre.map Fr.p) = k) ∧ 8 * pre.length ≤ k ∧ Hid (wr.ownsRow w.heap.size 28 1 o pre.length (pre.map Fr.v)) ∧ Hid (∀ x ∈ pre, Own wr w.heap.size x.v x.D) ∧ Hid (Below w.heap.size w wr)) (fun _ x _ => bs.length - (intOf x).toNat)
  case atStart => exact ⟨bs.length + 1, 0, [], by omega, rfl, by omega, rfl, rfl, by simp, World.ownsRow_nil _ _ _ _, (fun _ h => by cases h), Below.refl _ _⟩
  case round =>
    obtain ⟨m, k, pre, hk, rfl, hm, HA, HK, h8, HW, HO, HB⟩ := hrel
    obtain ⟨m, rfl⟩ : ∃ m', m = m' + 1 := ⟨m - 1, by omega⟩
    by_cases hlt : (k : Int) < (bs.length : Int)
    · obtain ⟨b, off, rfl, _, _⟩ := HR.out.at 0 (by omega)
      have hcap := HR.out.cap (by omega)
      have hc : ¬ (cap : Int) = (k : Int) := by omega
      have hc' : ¬ cap = k := by omega
      have i1 : (k : Int) ≤ (bs.length : Int) := by omega
      have i2 : (k : Int) ≤ (cap : Int) := by omega
      have hRk : Reads wr (.slice (some ⟨b, off + k, none⟩) (bs.length - k) (cap - k)) (bs.drop k) := ((HR.out.below HB.out).drop (c := k) hk b off rfl).1 (by omega)
      have hdl : (bs.drop k).length = bs.length - k := by simp
      have hcall := refNext_any _ (bs.drop k) (by omega) _ hRk
      obtain ⟨q, hq⟩ := hid_ex (nxF (bs.drop k))
      rw [← hq.out] at hcall
      have HA2 : Hid (alF (bs.length + 1) bs = pre.map Fr.p ++ (if q.2.2 = 0 then (q.1, q.2.1) :: alF m ((bs.drop k).drop q.2.1) else [])) := by rw [HA.out, hq.out]; rfl
      have HOK : Hid (q.2.2 = 0 → 8 ≤ q.2.1 ∧ q.2.1 ≤ bs.length - k) := by
        intro h
        have := nxF_ok (l := bs.drop k) (by rw [← hq.out]; exact h)
        rw [← hq.out, hdl] at this
        exact this
      obtain ⟨D, z, E⟩ := q
      simp only at hcall HA2 HOK
      have HC : Hid _ := hcall
      clear hcall hq HA hRk hdl
      by_cases hE : E = 0
      · subst hE
        obtain ⟨f1, f2⟩ := HOK.out rfl
        have HA3 : Hid (alF (bs.length + 1) bs = pre.map Fr.p ++ (D, z) :: alF m (bs.drop (k + z))) := by rw [HA2.out, if_pos rfl, List.drop_drop]; rfl
        clear HA2 HOK
        go_wp2_with fail
        refine Calls.mono HC.out ?_
        rintro e w1 ⟨v1, rfl, HO1, hb1⟩
        have HB1 : Hid (Below w.heap.size w w1) := HB.out.trans (hb1.mono HB.out.size)
        have HW1 : Hid (w1.ownsRow w.heap.size 28 1 _ pre.length (pre.map Fr.v)) := row_kc HW.out (Kc.of_below hb1 HB.out.size)
        have HO2 : Hid (∀ x ∈ pre, Own w1 w.heap.size x.v x.D) := fun x hx => (HO.out x hx).below hb1
        have HP1 : Hid (Own w1 w.heap.size v1 D) := HO1.mono HB.out.size
        obtain ⟨a1, c1, rfl, _⟩ := HO1.form
        have hsz1 := HB1.out.size
        obtain ⟨i0, hi, hz0, hz1, hz2⟩ := info_parts infoL
        clear HC HO1 hb1 HB HW HO
        go_wp2_with (at_builtin; refine wpList_append_own _ rfl _ _ 81 rfl w.heap.size 28 i0 (.slice none 0 0) 1 24 Tryz.underlying81 hi hz0 hz1 hz2 rfl (by decide) _ _ _ rfl (HW1.out.alloc _) ⟨w1.heap.size, 0, none⟩ 1 1 [.slice a1 D.length c1] rfl rfl (cell_one_new _ _ _) (by simp [Value.oneCell']) (by unfold maxLen; omega) (by omega) (by simp; omega) ?_)
        intro v3 w3 hown3 hg3 _
        have HB3 : Hid (Below w.heap.size w w3) := HB1.out.trans (((Below.refl w.heap.size w1).alloc hsz1 _).grown hg3 (by simp; omega) (fun j ej => (World.ownsRow.lt HW1.out j ej).1))
        have HW3 : Hid (w3.ownsRow w.heap.size 28 1 v3 (pre ++ [(⟨.slice a1 D.length c1, D, z⟩ : Fr)]).length ((pre ++ [(⟨.slice a1 D.length c1, D, z⟩ : Fr)]).map Fr.v)) := by
          rw [List.length_append, List.map_append]; exact hown3
        have HO3 : Hid (∀ x ∈ pre ++ [(⟨.slice a1 D.length c1, D, z⟩ : Fr)], Own w3 w.heap.size x.v x.D) := by
          intro x hx
          rcases List.mem_append.1 hx with hx | hx
          · exact own_grown _ (HO2.out x hx) HW1.out (by decide) hg3
          · simp at hx; subst hx; exact own_grown _ HP1.out HW1.out (by decide) hg3
        have HA4 : Hid (alF (bs.length + 1) bs = (pre ++ [(⟨.slice a1 D.length c1, D, z⟩ : Fr)]).map Fr.p ++ alF m (bs.drop (k + z))) := by rw [HA3.out]; simp [Hid, Fr.p]
        have HK2 : Hid (ksum ((pre ++ [(⟨.slice a1 D.length c1, D, z⟩ : Fr)]).map Fr.p) = k + z) := by
          rw [List.map_append, ← HK.out]; exact ksum_snoc _ _
        have h82 : 8 * (pre ++ [(⟨.slice a1 D.length c1, D, z⟩ : Fr)]).length ≤ k + z := by simp; omega
        have H82 : Hid (8 * (pre ++ [(⟨.slice a1 D.length c1, D, z⟩ : Fr)]).length ≤ k + z) := h82
        clear hown3 hg3 HB1 HW1 HO2 HP1 HA3 HK h82 hi hz0 hz1 hz2
        go_wp2_with fail
        go_roundw
        case rel => exact ⟨m, k + z, _, by omega, by simp, by omega, HA4, HK2, H82.out, HW3, HO3, HB3⟩
        case measure => simp [intOf]; omega
      · have HA3 : Hid (alF (bs.length + 1) bs = pre.map Fr.p) := by rw [HA2.out, if_neg hE, List.append_nil]; rfl
        have jE : (E == 0) = false := by simpa using hE
        have jE2 : (E != 0) = true := by simpa using hE
        clear HA2 HOK hE
        go_wp2_with fail
        refine Calls.mono HC.out ?_
        rintro e w1 ⟨v1, rfl, HO1, hb1⟩
        have HB1 : Hid (Below w.heap.size w w1) := HB.out.trans (hb1.mono HB.out.size)
        have HW1 : Hid (w1.ownsRow w.heap.size 28 1 _ pre.length (pre.map Fr.v)) := row_kc HW.out (Kc.of_below hb1 HB.out.size)
        have HO2 : Hid (∀ x ∈ pre, Own w1 w.heap.size x.v x.D) := fun x hx => (HO.out x hx).below hb1
        clear HC HO1 hb1 HB HW HO
        go_wp2_with fail
        go_ret2
        exact ⟨_, pre, by rw [HA3.out, HK.out]; rfl, HA3.out.symm, HW1.out, HO2.out, HB1.out⟩
    · have hke : k = bs.length := by omega
      subst hke
      have HA3 : Hid (alF (bs.length + 1) bs = pre.map Fr.p) := by
        rw [HA.out, List.drop_length]
        simp [Hid, alF, nxF]
      clear HA
      go_wp2_with fail
      go_ret2
      exact ⟨_, by rw [HA3.out, HK.out]; rfl, pre, HA3.out.symm, HW.out, HO.out, HB.out⟩
end Go.Proofs.YtahigmjpeicemaaGreatDoor

/- The reference's Records; Replay of a number that is none. -/
namespace Go.Proofs.YtahigmjpeicemaaGreatDoor
open Go.RowKit Go.Shelf

set_option maxRecDepth 100000 in
theorem replay_none (p : Value) (n : Int) (hno : isNo n = false) (w : World) : Calls Tryz.prog 14 #[p, .int .i64 n] w fun e w' => e = .returned (.tuple #[.slice none 0 0, .int .i64 1]) ∧ w' = w := by
  go_enter Tryz.func14, Tryz.ntmps14
  go_wp2_with fail
  refine (isNumber_any n w).mono ?_
  rintro e w1 ⟨rfl, hw⟩
  subst w1
  rw [hno]
  go_wp2_with fail
  go_ret2
  exact ⟨rfl, rfl⟩
set_option maxRecDepth 100000 in
set_option maxHeartbeats 2000000 in
theorem records_any (v : Value) (b : List UInt8) (hbl : b.length ≤ 100000) (hfm : ∀ d ∈ fmS b, d.length ≤ 5000) (w : World) (hR : Reads w v b) :
    Calls Tryz.prog 24 #[v] w fun e w' => ∃ v' L, e = .returned v' ∧ RsR w' v' L ∧ L.map Rc.q = rcF (fmS b) ∧ Below w.heap.size w w' := by
  obtain ⟨a, cap, rfl, _⟩ := hR.form
  have HR0 : Hid (Reads w (.slice a b.length cap) b) := hR
  have HFm : Hid (∀ d ∈ fmS b, d.length ≤ 5000) := hfm
  clear hR hfm
  go_enter Tryz.func24, Tryz.ntmps24
  go_wp2_with fail
  refine (refAll_any _ b hbl w HR0.out).mono ?_
  rintro e w3 ⟨vl, xs, rfl, hxs, hrow, hown, hb3⟩
  have HB3 : Hid (Below w.heap.size w w3) := hb3
  have hds : DsR w3 vl (xs.map Fr.D) := dsr_of hrow hown
  rw [fm_of hxs] at hds
  obtain ⟨ds, HDs⟩ := hid_ex (fmS b)
  have hcnt := fmS_cnt b
  rw [← HDs.out] at hds HFm hcnt
  obtain ⟨da, dc, rfl, hdm⟩ := hds.form
  unfold maxLen at hdm
  have HD : Hid (DsR w3 (.slice da ds.length dc) ds) := hds
  generalize ksum (alF (b.length + 1) b) = KS
  clear hds hxs hrow hown hb3
  go_wp2_with fail
  go_loopw [5, 6] (fun o i wr => ∃ (k : Nat) (L : List Rc), i = .int .i64 (k : Int) ∧ k ≤ ds.length ∧ L.length = k ∧ Hid (RB 46 w3.heap.size wr o L) ∧ Hid (rcF ds = L.map Rc.q ++ rcF (ds.drop k)) ∧ Hid (Below w3.heap.size w3 wr)) (fun _ i _ => ds.length - (intOf i).toNat)
  case atStart => exact ⟨0, [], rfl, by omega, rfl, RB.nil _ _ _, rfl, Below.refl _ _⟩
  case round =>
    obtain ⟨k, L, rfl, hk, hLk, HR, HQ, HB⟩ := hrel
    by_cases hlt : k < ds.length
    · have hlt' : (k : Int) < (ds.length : Int) := by omega
      obtain ⟨d, Hd⟩ := hid_ex ds[k]
      have HSt := rc_step hlt HQ.out Hd.out
      have hdl : d.length ≤ 5000 := HFm.out d (by rw [Hd.out]; exact List.getElem_mem hlt)
      obtain ⟨g, u, rfl, hg, c0, hrd⟩ := (HD.out.below HB.out).at hlt Hd.out
      have HC : Hid (Calls Tryz.prog 54 #[u] wr (RdW wr d)) := wrefRead_any u d hdl wr hrd
      obtain ⟨ua, uc, rfl, _⟩ := hrd.form
      have HS1 : Hid (rdR d = none → rcF ds = L.map Rc.q) := HSt.1
      have HS2 : Hid (∀ r : Rc, rdR d = some r.q → rcF ds = (L ++ [r]).map Rc.q ++ rcF (ds.drop (k + 1))) := HSt.2
      clear HSt hrd
      obtain ⟨oa, oc, hov, -⟩ := GOwn.form HR.out.o
      rw [hLk] at hov
      subst hov
      go_wp2_with fail
      refine HC.out.mono ?_
      rintro e w4 ⟨hb4, r, rfl, hok, hag, hp, hm⟩
      obtain ⟨xa, xc, hxv, _⟩ := hok.f.form
      have HAg : Hid (∀ B : World, (∀ k, wr.heap.size ≤ k → k < w4.heap.size → B.heap[k]? = w4.heap[k]?) → RcOk B r) := hag
      have HB4 : Hid (Below wr.heap.size wr w4) := hb4
      have hq : rdR d = none ∨ (rdR d = some r.q ∧ rdE d = 0) := by
        cases hc : rdR d with
        | none => exact .inl rfl
        | some z =>
          refine .inr ⟨?_, by unfold rdE; rw [hc]; rfl⟩
          unfold Rc.q
          rw [hp, hm]
          unfold rdV
          rw [hc]; rfl
      clear hok hag hb4 hp hm
      rcases hq with hn | ⟨hs, hz⟩
      · have hz : rdE d = 90 := by unfold rdE; rw [hn]; rfl
        have HQE : Hid (rcF ds = L.map Rc.q) := HS1.out hn
        rw [hz]
        obtain ⟨xv, xfs, xm⟩ := r
        simp only at hxv
        subst hxv
        unfold Rc.val
        simp only
        clear HS1 HS2 hn hz
        go_wp2_with fail
        go_ret
        exact ⟨_, rfl, L, (HR.out.below (HB4.out.alloc HB4.out.size _)).rsr, by rw [← HDs.out]; exact HQE.out.symm, HB3.out.trans ((HB.out.trans ((HB4.out.alloc HB4.out.size _).mono HB.out.size)).mono HB3.out.size)⟩
      · have HQ2 : Hid (rcF ds = (L ++ [r]).map Rc.q ++ rcF (ds.drop (k + 1))) := HS2.out r hs
        rw [hz]
        obtain ⟨xv, xfs, xm⟩ := r
        simp only at hxv
        subst hxv
        unfold Rc.val
        simp only
        clear HS1 HS2 hs hz
        obtain ⟨v', w5, hrun, hrb, hb5⟩ := RB.app rtyR (W := w4.alloc (.cells #[.slice xa xfs.length xc, .int .i64 xm] 46)) HR.out (HB4.out.alloc HB4.out.size _) HB.out.size ⟨.slice xa xfs.length xc, xfs, xm⟩ (fun B hB => HAg.out B fun k h1 h2 => (hB k h1 (by simp; omega)).trans (Below.heap_alloc _ _ _ h2)) 52 (by omega)
        have HR5 : Hid (RB 46 w3.heap.size w5 v' (L ++ [⟨.slice xa xfs.length xc, xfs, xm⟩])) := hrb
        have HB5 : Hid (Below w3.heap.size w3 w5) := (HB.out.trans ((HB4.out.alloc HB4.out.size _).mono HB.out.size)).trans hb5
        clear hrb hb5 HAg
        simp only [World.size_alloc] at hrun
        go_wp2_with (at_builtin; refine wpList_app_runG rfl _ _ 52 52 rfl rfl _ _ _ rfl rfl hrun ?_)
        go_roundw
        case rel => exact ⟨k + 1, L ++ [⟨.slice xa xfs.length xc, xfs, xm⟩], by go_num, by omega, by simp; omega, HR5, HQ2, HB5⟩
        case measure => simp [intOf]; omega
    · have hlt' : ¬ (k : Int) < (ds.length : Int) := by omega
      have HE : Hid (RsR wr u5 L) := HR.out.rsr
      have HQE : Hid (L.map Rc.q = rcF ds) := by
        have := HQ.out
        rw [List.drop_of_length_le (by omega)] at this
        unfold Hid
        rw [this]; simp [rcF]
      go_wp2_with fail
      go_ret
      exact ⟨_, rfl, L, HE.out, by rw [← HDs.out]; exact HQE.out, HB3.out.trans (HB.out.mono HB3.out.size)⟩
end Go.Proofs.YtahigmjpeicemaaGreatDoor

/- Frames one behind the other, cut anywhere: the pure half of F6, for seats that have no list of slices. -/
namespace Go.Proofs.YtahigmjpeicemaaGreatDoor
open Go.RowKit

def cat : List (List UInt8) → List UInt8
  | [] => []
  | l :: L => frm l ++ cat L
def en (L : List (List UInt8)) (k : Nat) : Nat := (cat (L.take k)).length
def pr (l : List UInt8) : List UInt8 × Nat := (l, l.length + 8)
theorem en_zero (L : List (List UInt8)) : en L 0 = 0 := rfl
theorem en_cons (l : List UInt8) (L : List (List UInt8)) (k : Nat) : en (l :: L) (k + 1) = l.length + 8 + en L k := by
  unfold en; rw [List.take_succ_cons, cat, List.length_append, frm_len]
theorem cat_append (A B : List (List UInt8)) : cat (A ++ B) = cat A ++ cat B := by
  induction A with
  | nil => rfl
  | cons a A ih => rw [List.cons_append, cat, cat, ih, List.append_assoc]
theorem cat_snoc (L : List (List UInt8)) (k : Nat) (h : k < L.length) : cat (L.take (k + 1)) = cat (L.take k) ++ frm L[k] := by
  rw [List.take_add_one, List.getElem?_eq_getElem h, cat_append]
  simp [cat]
theorem en_snoc (L : List (List UInt8)) (k : Nat) (h : k < L.length) : en L (k + 1) = en L k + (L[k].length + 8) := by
  unfold en; rw [cat_snoc L k h, List.length_append, frm_len]
theorem en_ge (L : List (List UInt8)) : ∀ k, k ≤ L.length → 8 * k ≤ en L k := by
  intro k
  induction k with
  | zero => intro _; simp [en_zero]
  | succ k ih => intro h; rw [en_snoc L k (by omega)]; have := ih (by omega); omega
theorem nx_cut (l : List UInt8) (hl : l.length ≤ 65535) (c : Nat) (hc : c < l.length + 8) : (nxF ((frm l).take c)).2.2 ≠ 0 := by
  have hlen : ((frm l).take c).length = c := by rw [List.length_take, frm_len]; omega
  unfold nxF
  by_cases h4 : c < 4
  · rw [if_pos (by omega)]; simp
  · have e4 : ((frm l).take c).take 4 = four l.length := by
      rw [List.take_take, Nat.min_eq_left (by omega)]; unfold frm; rw [List.append_assoc]; rfl
    rw [e4, vle_four' _ (by omega), if_neg (by omega), if_neg (by omega), if_pos (by omega)]; simp
theorem alF_stop (f : Nat) (l : List UInt8) (h : (nxF l).2.2 ≠ 0) : alF f l = [] := by
  cases f with
  | zero => rfl
  | succ f => rw [alF, if_neg h]
theorem al_cut : ∀ (k : Nat) (L : List (List UInt8)) (c f : Nat), k ≤ L.length → (∀ l ∈ L, l.length ≤ 65535) → en L k ≤ c → (k = L.length ∨ c < en L (k + 1)) → k ≤ f → alF f ((cat L).take c) = (L.take k).map pr
  | 0, [], c, f, _, _, _, _, _ => by
    rw [cat, List.take_nil]; exact alF_stop _ _ (by simp [nxF])
  | 0, l :: L, c, f, _, hl, _, h, _ => by
    have hc : c < l.length + 8 := by
      rcases h with h | h
      · simp at h
      · rw [en_cons, en_zero] at h; omega
    rw [cat, List.take_append_of_le_length (by rw [frm_len]; omega)]
    exact alF_stop _ _ (nx_cut l (hl l (List.mem_cons_self ..)) c hc)
  | k + 1, [], _, _, h, _, _, _, _ => by simp at h
  | k + 1, l :: L, c, f, h1, hl, h2, h3, h4 => by
    obtain ⟨f, rfl⟩ : ∃ f', f = f' + 1 := ⟨f - 1, by omega⟩
    rw [en_cons] at h2
    rw [cat, List.take_append, List.take_of_length_le (by rw [frm_len]; omega), alF_frm f l _ (hl l (List.mem_cons_self ..)), frm_len, List.take_succ_cons, List.map_cons,
      al_cut k L (c - (l.length + 8)) f (by simpa using h1) (fun x hx => hl x (List.mem_cons_of_mem _ hx)) (by omega) (by
        rcases h3 with h3 | h3
        · exact .inl (by simpa using h3)
        · rw [en_cons] at h3; exact .inr (by omega)) (by omega)]
    rfl
end Go.Proofs.YtahigmjpeicemaaGreatDoor

/- A file system that has one segment: pure. -/
namespace Go.Proofs.YtahigmjpeicemaaGreatDoor
open Go.RowKit Go.Shelf

def SgS (room : Int) (nm bs : List UInt8) (sy : Nat) : SfS := ⟨room, [(nm, 0)], [(nm, 0)], [], 0, 0, [(bs, sy)]⟩
theorem nm_name {n : Int} (h : isNo n = true) : sfName (nmF seg n) = true := by
  obtain ⟨h1, h2⟩ := isNo_iff.1 h
  have hl := nm_len (n := n)
  have hd := dec_digit n.toNat
  rw [nmF_yes h1 h2] at hl ⊢
  unfold sfName
  rw [Bool.and_eq_true, Bool.and_eq_true]
  refine ⟨⟨decide_eq_true (by rw [List.length_append]; have : seg.length = 4 := rfl; omega), decide_eq_true (by omega)⟩, ?_⟩
  rw [List.all_append, Bool.and_eq_true]
  refine ⟨by decide, ?_⟩
  rw [List.all_eq_true]
  intro c hc
  obtain ⟨g1, g2⟩ := hd c hc
  unfold sfOkC
  rw [decide_eq_true g1, decide_eq_true g2]
  simp
theorem sg_start {n : Int} (h : isNo n = true) (room : Int) : stF (sfZ room) n = (0, SgS room (nmF seg n) [] 0) := by
  have hn := nm_name h
  unfold stF
  rw [if_neg (by rw [h]; simp)]
  generalize nmF seg n = nm at *
  have hc : sfCreate (sfZ room) nm = (0, ⟨room, [(nm, 0)], [], [⟨[], nm, some 0⟩], 0, 0, [([], 0)]⟩) := by
    unfold sfCreate
    rw [if_neg (by rw [hn]; simp), if_neg (by simp [sfZ, sfLook]), if_neg (by simp [sfZ])]
    rfl
  rw [hc, if_pos rfl]
  rfl
theorem sg_start_no {n : Int} (h : isNo n = false) (s : SfS) : stF s n = (1, s) := by unfold stF; rw [if_pos h]
theorem sg_look (room : Int) (nm bs : List UInt8) (sy : Nat) : sfLook nm (SgS room nm bs sy).dir = some 0 := by simp [SgS, sfLook]
theorem sg_again {n : Int} (h : isNo n = true) (room : Int) (bs : List UInt8) (sy : Nat) : stF (SgS room (nmF seg n) bs sy) n = (80, SgS room (nmF seg n) bs sy) := by
  have hn := nm_name h
  unfold stF
  rw [if_neg (by rw [h]; simp)]
  generalize nmF seg n = nm at *
  have hc : sfCreate (SgS room nm bs sy) nm = (80, SgS room nm bs sy) := by
    unfold sfCreate
    rw [if_neg (by rw [hn]; simp), if_pos (by rw [sg_look]; rfl)]
  rw [hc, if_neg (by simp)]
theorem sg_read (room : Int) (nm bs : List UInt8) (sy : Nat) : sfRead (SgS room nm bs sy) nm = bs := by
  unfold sfRead; rw [sg_look]; rfl
theorem sg_fe (room : Int) (nm bs : List UInt8) (sy : Nat) : sfFe (sfLook nm (SgS room nm bs sy).dir) = 0 := by rw [sg_look]; rfl
theorem sg_append (room : Int) (nm bs : List UInt8) (sy : Nat) (b : List UInt8) (hl : bs.length + b.length ≤ 1048576) :
    sfAppend (SgS room nm bs sy) nm b = if room < ((bs.length + b.length : Nat) : Int) then (81, SgS room nm bs sy) else (0, SgS room nm (bs ++ b) sy) := by
  unfold sfAppend
  rw [sg_look]
  simp only
  have e1 : ((SgS room nm bs sy).fl 0) = (bs, sy) := rfl
  have e2 : sfUsed (SgS room nm bs sy) = bs.length := by simp [sfUsed, SgS, SfS.fl]
  have e3 : (SgS room nm bs sy).room = room := rfl
  rw [e1, e2, e3, if_neg (by simp only; omega)]
  rfl
theorem sg_sync (room : Int) (nm bs : List UInt8) (sy : Nat) : sfSync (SgS room nm bs sy) nm = (0, SgS room nm bs bs.length) := by
  unfold sfSync
  rw [sg_look]
  rfl
/-- How many bytes a crash leaves. -/
def sgC (bs : List UInt8) (sy : Nat) (ks : List Int) : Nat := sy + min (max (ks.headD 0) 0).toNat (bs.length - sy)
theorem sg_crash (room : Int) (nm bs : List UInt8) (sy : Nat) (n : Int) (ks : List Int) : sfCrash (SgS room nm bs sy) n ks = SgS room nm (bs.take (sgC bs sy ks)) (sgC bs sy ks) := by
  unfold sfCrash sfSettle
  simp only [SgS, List.take_nil, List.foldl_nil]
  rfl
theorem lg_no {s : SfS} {nm : List UInt8} {r : Rc} (h : rightR r.p r.m = false) : lgAdd s nm r = (90, s) := by unfold lgAdd; rw [if_neg (by rw [h]; simp)]
theorem lg_yes {s : SfS} {nm : List UInt8} {r : Rc} (h : rightR r.p r.m = true) : lgAdd s nm r = sfAppend s nm (frm (wrR r.p r.m)) := by unfold lgAdd; rw [if_pos h]
/-- Bytes that are frames of short data. -/
structure Frs (bs : List UInt8) (ds : List (List UInt8)) : Prop where
  e : bs = cat ds
  l : ∀ d ∈ ds, d.length ≤ 2700
theorem frs_nil : Frs [] [] := ⟨rfl, fun d hd => by cases hd⟩
theorem Frs.snoc {bs : List UInt8} {ds : List (List UInt8)} (h : Frs bs ds) {d : List UInt8} (hd : d.length ≤ 2700) : Frs (bs ++ frm d) (ds ++ [d]) :=
  ⟨by rw [h.e, cat_append]; simp [cat], fun x hx => by
    rcases List.mem_append.1 hx with hx | hx
    · exact h.l x hx
    · simp at hx; subst hx; exact hd⟩
theorem cat_flat : ∀ ds : List (List UInt8), cat ds = ds.flatMap frm
  | [] => rfl
  | d :: ds => by rw [cat, List.flatMap_cons, cat_flat ds]
theorem Frs.bd {bs : List UInt8} {ds : List (List UInt8)} (h : Frs bs ds) {j : List UInt8} (hj : j.length ≤ 500) : ∀ d ∈ fmS (bs ++ j), d.length ≤ 5000 := by
  intro d hd
  unfold fmS at hd
  obtain ⟨x, hx, rfl⟩ := List.mem_map.1 hd
  rw [h.e, cat_flat] at hx
  have := alF_bd _ ds j 2700 (by decide) h.l (by omega) x hx
  omega
end Go.Proofs.YtahigmjpeicemaaGreatDoor

/- WalWhole: what a cut row of frames tells; what stands in a round. -/
namespace Go.Proofs.YtahigmjpeicemaaGreatDoor
open Go.RowKit Go.Shelf

def wrs (L : List Rc) : List (List UInt8) := L.map fun r => wrR r.p r.m
def rgt (L : List Rc) : Prop := ∀ x ∈ L, rightR x.p x.m = true
theorem wrs_snoc (L : List Rc) (x : Rc) : cat (wrs (L ++ [x])) = cat (wrs L) ++ frm (wrR x.p x.m) := by
  unfold wrs
  rw [List.map_append, cat_append]
  simp [cat]
theorem rgt_snoc {L : List Rc} {x : Rc} (h : rgt L) (hx : rightR x.p x.m = true) : rgt (L ++ [x]) := fun y hy => by
  rcases List.mem_append.1 hy with hy | hy
  · exact h y hy
  · simp at hy; subst hy; exact hx
theorem wrs_len {L : List Rc} (h : rgt L) : ∀ d ∈ wrs L, d.length ≤ 2700 := by
  intro d hd
  obtain ⟨x, hx, rfl⟩ := List.mem_map.1 hd
  exact wrR_len (h x hx)
theorem cat_len : ∀ (L : List Rc), rgt L → (cat (wrs L)).length ≤ 2708 * L.length
  | [], _ => by simp [wrs, cat]
  | x :: L, h => by
    have ih := cat_len L fun y hy => h y (List.mem_cons_of_mem _ hy)
    have := wrR_len (h x (List.mem_cons_self ..))
    show (frm (wrR x.p x.m) ++ cat (wrs L)).length ≤ _
    rw [List.length_append, frm_len, List.length_cons]
    omega
theorem cut_ex (ds : List (List UInt8)) (c : Nat) : ∀ (m a : Nat), ds.length - a = m → a ≤ ds.length → en ds a ≤ c → ∃ j, a ≤ j ∧ j ≤ ds.length ∧ en ds j ≤ c ∧ (j = ds.length ∨ c < en ds (j + 1))
  | 0, a, hm, ha, hc => ⟨a, Nat.le_refl _, ha, hc, .inl (by omega)⟩
  | m + 1, a, hm, ha, hc => by
    by_cases h : en ds (a + 1) ≤ c
    · obtain ⟨j, h1, h2, h3, h4⟩ := cut_ex ds c m (a + 1) (by omega) (by omega) h
      exact ⟨j, by omega, h2, h3, h4⟩
    · exact ⟨a, Nat.le_refl _, ha, hc, .inr (by omega)⟩
theorem rcF_wrs : ∀ (L : List Rc), rgt L → (∀ x ∈ L, ∀ f ∈ x.p, FcB f) → rcF (wrs L) = L.map Rc.q
  | [], _, _ => rfl
  | x :: L, h, hb => by
    show rcF (wrR x.p x.m :: wrs L) = _
    rw [rcF_some (rdR_wr (h x (List.mem_cons_self ..)) (hb x (List.mem_cons_self ..))), rcF_wrs L (fun y hy => h y (List.mem_cons_of_mem _ hy)) fun y hy => hb y (List.mem_cons_of_mem _ hy)]
    rfl
theorem whole_cut (A B : List Rc) (hr : rgt (A ++ B)) (hb : ∀ x ∈ A ++ B, ∀ f ∈ x.p, FcB f) (c : Nat) (hc : (cat (wrs A)).length ≤ c) :
    ∃ j, A.length ≤ j ∧ j ≤ (A ++ B).length ∧ fmS ((cat (wrs (A ++ B))).take c) = (wrs (A ++ B)).take j ∧ rcF (fmS ((cat (wrs (A ++ B))).take c)) = ((A ++ B).take j).map Rc.q := by
  have hl : (wrs (A ++ B)).length = (A ++ B).length := by simp [wrs]
  have ha : A.length ≤ (wrs (A ++ B)).length := by rw [hl]; simp
  have he : en (wrs (A ++ B)) A.length ≤ c := by
    unfold en
    have : (wrs (A ++ B)).take A.length = wrs A := by unfold wrs; rw [← List.map_take, List.take_left]
    rw [this]; exact hc
  obtain ⟨j, h1, h2, h3, h4⟩ := cut_ex _ c _ A.length rfl ha he
  have hge := en_ge (wrs (A ++ B)) j h2
  have hle : en (wrs (A ++ B)) j ≤ (cat (wrs (A ++ B))).length := by
    unfold en
    have := cat_append ((wrs (A ++ B)).take j) ((wrs (A ++ B)).drop j)
    rw [List.take_append_drop] at this
    rw [this, List.length_append]; omega
  have hal := al_cut j (wrs (A ++ B)) c (((cat (wrs (A ++ B))).take c).length + 1) h2 (fun l hx => by have := wrs_len hr l hx; omega) h3 h4 (by rw [List.length_take]; omega)
  have hf : fmS ((cat (wrs (A ++ B))).take c) = (wrs (A ++ B)).take j := by
    unfold fmS
    rw [hal, List.map_map]
    have : ((fun x : List UInt8 × Nat => x.1) ∘ pr) = id := rfl
    rw [this, List.map_id]
  refine ⟨j, h1, by omega, hf, ?_⟩
  rw [hf]
  have : (wrs (A ++ B)).take j = wrs ((A ++ B).take j) := by unfold wrs; rw [List.map_take]
  rw [this]
  exact rcF_wrs _ (fun y hy => hr y (List.mem_of_mem_take hy)) fun y hy => hb y (List.mem_of_mem_take hy)
theorem rsl_upto (a : Option Addr) (n cap N : Nat) (h : N ≤ cap) (w : World) : (Instr.slice 27 (.slice a n cap) none (some (.int .i64 (N : Int))) none).run Tryz.prog w = .ok (.slice a N cap) w := by
  have ha : (Option.map (fun x : Addr => x.add 0) a) = a := by cases a <;> simp [Addr.add]
  simp [Instr.slice, run_underlying Tryz.underlying27, Instr.sliceBounds, Instr.sliceBound, asIntOf, h, Result.andThen, ha]
theorem RsR.take {w : World} {a : Option Addr} {cap : Nat} {L : List Rc} (h : RsR w (.slice a L.length cap) L) {N : Nat} (hN : N ≤ L.length) : RsR w (.slice a N cap) (L.take N) := by
  have hl : (L.take N).length = N := by rw [List.length_take]; omega
  obtain ⟨a', cap', e, h1, h2⟩ := h
  cases e
  refine ⟨a, cap, by rw [hl], by omega, ?_⟩
  rcases h2 with rfl | ⟨b, off, h3, h4, h5⟩
  · exact .inl (by simp)
  · refine .inr ⟨b, off, h3, h4, fun j hj => ?_⟩
    rw [hl] at hj
    have := h5 j (by omega)
    rw [List.getElem_take]
    exact this
/-- What stands: fb is the file's bytes, C what o reads. -/
structure RwI (W : World) (room : Int) (p : Value) (g : Nat) (nm : List UInt8) (sy : Nat) (o : Value) (fb : List UInt8) (C : List Rc) (O : Nat → Prop) (wr : World) : Prop where
  fs : Fs wr O p (SgS room nm fb sy)
  lo : ∀ k, O k → W.heap.size ≤ k
  lg : LgAt wr g p nm
  go : ¬ O g
  ow : GOwn wr 43 2 o C.length (C.flatMap c2r)
  ok : ∀ k, o.ownBlock = some k → ¬ O k ∧ W.heap.size ≤ k ∧ k < wr.heap.size ∧ k ≠ g
  be : Below W.heap.size W wr
theorem RwI.below {W : World} {room : Int} {p : Value} {g : Nat} {nm : List UInt8} {sy : Nat} {o : Value} {fb : List UInt8} {C : List Rc} {O : Nat → Prop} {wr w' : World} (h : RwI W room p g nm sy o fb C O wr) (hb : Below wr.heap.size wr w') : RwI W room p g nm sy o fb C O w' :=
  ⟨h.fs.below hb, h.lo, h.lg.onl (O := O) (onl_of_below hb) h.go, h.go, h.ow.keep fun k hk => hb.block k (h.ok k hk).2.2.1, fun k hk => ⟨(h.ok k hk).1, (h.ok k hk).2.1, Nat.lt_of_lt_of_le (h.ok k hk).2.2.1 hb.size, (h.ok k hk).2.2.2⟩, h.be.trans (hb.mono h.be.size)⟩
theorem RwI.onl {W : World} {room : Int} {p : Value} {g : Nat} {nm : List UInt8} {sy sy' : Nat} {o : Value} {fb fb' : List UInt8} {C : List Rc} {O O' : Nat → Prop} {wr w' : World} (h : RwI W room p g nm sy o fb C O wr) (hf : Fs w' O' p (SgS room nm fb' sy')) (hO : ∀ k, O' k → Grw O wr w' k) (ho : Onl O wr w') : RwI W room p g nm sy' o fb' C O' w' := by
  have hgl : g < wr.heap.size := (Array.getElem?_eq_some_iff.1 h.lg).1
  have hbs := h.be.size
  refine ⟨hf, fun k hk => ?_, h.lg.onl ho h.go, fun hk => ?_, h.ow.keep fun k hk => ho.block k (h.ok k hk).2.2.1 (h.ok k hk).1, fun k hk => ⟨fun hq => ?_, (h.ok k hk).2.1, Nat.lt_of_lt_of_le (h.ok k hk).2.2.1 ho.size, (h.ok k hk).2.2.2⟩, h.be.trans (ho.below hbs h.lo)⟩
  · rcases hO k hk with q | q
    · exact h.lo k q
    · omega
  · rcases hO g hk with q | q
    · exact h.go q
    · omega
  · rcases hO k hq with q | q
    · exact (h.ok k hk).1 q
    · have := (h.ok k hk).2.2.1; omega
theorem RwI.app {W : World} {room : Int} {p : Value} {g : Nat} {nm : List UInt8} {sy : Nat} {o : Value} {fb : List UInt8} {C : List Rc} {O : Nat → Prop} {wr : World} (h : RwI W room p g nm sy o fb C O wr) (ty : TypeId) (x : Rc) (hx : ∃ a n c, x.v = .slice a n c) (hl : C.length < 1099511627776) :
    ∃ v' w', (Builtin.append_ #[27, 27] ty #[o, .slice (some ⟨wr.heap.size, 0, none⟩) 1 1]).run Tryz.prog (wr.alloc (.cells #[x.v, .int .i64 x.m] 43)) = .ok v' w' ∧ RwI W room p g nm sy v' fb (C ++ [x]) O w' := by
  obtain ⟨v', w', h1, h2, h3, h4⟩ := run_appRc rtyW ty o C x hx h.ow (fun k hk => (h.ok k hk).2.2.1) hl
  have hgl : g < wr.heap.size := (Array.getElem?_eq_some_iff.1 h.lg).1
  have hbs := h.be.size
  have hsz := h3.size
  simp only [World.size_alloc] at hsz
  have keep : ∀ k, k < wr.heap.size → some k ≠ o.ownBlock → w'.heap[k]? = wr.heap[k]? := fun k hk hq => (h3.block k (by simp; omega) hq).trans (Below.heap_alloc _ _ _ hk)
  refine ⟨v', w', h1, h.fs.keep (fun k hk => keep k (h.fs.lt k hk) (fun e => (h.ok k e.symm).1 hk)) (by omega), h.lo, (keep g hgl (fun e => (h.ok g e.symm).2.2.2 rfl)).trans h.lg, h.go, h2, fun k hk => ?_, (h.be.alloc hbs _).grown h3 (by simp; omega) (fun k hk => (h.ok k hk).2.1)⟩
  rcases h4 k hk with q | q
  · have := h.ok k q; exact ⟨this.1, this.2.1, by omega, this.2.2.2⟩
  · exact ⟨fun hO => by have := h.fs.lt k hO; omega, by omega, q.2, by omega⟩
end Go.Proofs.YtahigmjpeicemaaGreatDoor
