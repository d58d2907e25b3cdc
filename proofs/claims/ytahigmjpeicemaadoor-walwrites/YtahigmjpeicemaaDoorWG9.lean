/- C5r WR3 AK WR4 RT, joined. -/
import Derived.Test.YtahigmjpeicemaaDoorWG1
import Derived.Test.YtahigmjpeicemaaDoorWG3
import Derived.Test.YtahigmjpeicemaaDoorWG6
import Derived.Test.YtahigmjpeicemaaDoorWG8
/- The contracts of the reference's Number and ReadNumber. -/
namespace Go.Proofs.YtahigmjpeicemaaDoor
open Go.RowKit

theorem nb_get (v : Int) (k : Nat) (h : k < 8) : (nb v)[k]'(by rw [nb_len]; exact h) = UInt8.ofNat (byteOf (v + 9223372036854775808) k).toNat := by
  have e1 : k / 8 = 0 := by omega
  have e2 : k % 8 = k := by omega
  unfold nb eight bytesTo
  simp [e1, e2]
theorem nb_snoc (v : Int) (k : Nat) (h : k < 8) : (nb v).take (k + 1) = (nb v).take k ++ [UInt8.ofNat (byteOf (v + 9223372036854775808) k).toNat] := by
  rw [List.take_succ_eq_append_getElem (by rw [nb_len]; exact h), nb_get v k h]
theorem worth_eq (k : Nat) (h : k < 8) : (72057594037927936 / 256 ^ k : Nat) = 2 ^ (8 * (7 - k)) := by
  match k, h with
  | 0, _ => decide
  | 1, _ => decide
  | 2, _ => decide
  | 3, _ => decide
  | 4, _ => decide
  | 5, _ => decide
  | 6, _ => decide
  | 7, _ => decide
theorem worth_next (k : Nat) : (72057594037927936 / 256 ^ k / 256 : Nat) = 72057594037927936 / 256 ^ (k + 1) := by
  rw [Nat.div_div_eq_div_mul, Nat.pow_succ]
set_option maxRecDepth 100000 in
set_option maxHeartbeats 1000000 in
theorem refNumber_any (v : Int) (h1 : -9223372036854775808 ≤ v) (h2 : v ≤ 9223372036854775807) (w : World) :
    Calls Tryd.prog 28 #[.int .i64 v] w fun e w' => ∃ x, e = .returned x ∧ w'.ownsRow w.heap.size 5 1 x 8 ((nb v).map bc) ∧ Below w.heap.size w w' := by
  obtain ⟨i0, hi, hz0, hz1, hz2⟩ := info_parts info5
  obtain ⟨U, hU⟩ : ∃ U, U = v + 9223372036854775808 := ⟨_, rfl⟩
  have hu : IntKind.u64.wrap (IntKind.u64.wrap v + 9223372036854775808) = U := by rw [IntKind.wrap_u64, IntKind.wrap_u64]; omega
  have u1 : 0 ≤ U := by omega
  have u2 : U < 18446744073709551616 := by omega
  have HU : Hid (v + 9223372036854775808 = U) := hU.symm
  clear hU h1 h2
  go_enter Tryd.func28, Tryd.ntmps28
  go_wp2_with fail
  go_loopw [3, 5, 6] (fun x wo i wr => ∃ k : Nat, k ≤ 8 ∧ i = .int .i64 (k : Int) ∧ wo = .int .u64 ((72057594037927936 / 256 ^ k : Nat) : Int) ∧ wr.ownsRow w.heap.size 5 1 x k (((nb v).take k).map bc) ∧ Below w.heap.size w wr) (fun _ _ i _ => 8 - (intOf i).toNat)
  case atStart => exact ⟨0, by omega, rfl, rfl, World.ownsRow_nil _ _ _ _, Below.refl _ _⟩
  case round =>
    obtain ⟨k, hk, rfl, rfl, hown, hbr⟩ := hrel
    have hsz := hbr.size
    clear hu
    by_cases hlt : k < 8
    · have HSN : Hid _ := nb_snoc v k hlt
      have hwe := worth_eq k hlt
      have hwn := worth_next k
      have hby := byteOf_bd U k
      have hbe : byteOf U k = U / ((72057594037927936 / 256 ^ k : Nat) : Int) % 256 := by
        unfold byteOf; rw [hwe, Int.natCast_pow]; rfl
      have hpos : 0 < (72057594037927936 / 256 ^ k : Nat) := by rw [hwe]; exact Nat.pow_pos (by omega)
      have hle : (72057594037927936 / 256 ^ k : Nat) ≤ 72057594037927936 := Nat.div_le_self _ _
      generalize hq : (72057594037927936 / 256 ^ k : Nat) = q at *
      generalize hq1 : (72057594037927936 / 256 ^ (k + 1) : Nat) = q1 at *
      have hq0 : (q : Int) ≠ 0 := by omega
      have et : Int.tdiv U (q : Int) = U / (q : Int) := Int.tdiv_eq_ediv_of_nonneg u1
      have d1 : 0 ≤ U / (q : Int) := Int.ediv_nonneg u1 (by omega)
      have d2 : U / (q : Int) ≤ U := Int.ediv_le_self _ u1
      have hwq : (q : Int) / 256 = (q1 : Int) := by omega
      have hm : ((nb v).take k).length = k := by simp [nb_len]; omega
      have HBB : Hid (0 ≤ byteOf U k ∧ byteOf U k ≤ 255) := hby
      have HBE : Hid (byteOf U k = U / (q : Int) % 256) := hbe
      clear hwe hwn hby hbe
      go_wp2_with (at_builtin; refine wpList_append_own _ rfl _ _ 28 rfl w.heap.size 5 i0 (.int .u8 0) 1 1 Tryd.underlying28 hi hz0 hz1 hz2 rfl (by decide) _ _ _ rfl (hown.alloc _) ⟨wr.heap.size, 0, none⟩ 1 1 [.int .u8 (U / (q : Int) % 256)] rfl rfl news1 one1 (len_ok (by omega)).1 (len_ok (by omega)).2 (al_ok hsz) ?_)
      intro v' w1 hown' hgrow _
      have HO2 : Hid (w1.ownsRow w.heap.size 5 1 v' (k + 1) (((nb v).take (k + 1)).map bc)) := by
        rw [HSN.out, HU.out, List.map_append, List.map_take]
        simp only [List.map_cons, List.map_nil]
        have hb := HBB.out
        rw [bc_of (by omega), Int.toNat_of_nonneg hb.1, HBE.out]
        exact hown'
      have HB2 : Hid (Below w.heap.size w w1) := (hbr.alloc hbr.size _).grown hgrow (al_ok hsz) (own_block hown)
      clear hown hown' hgrow hbr hsz HSN HBB HBE et d1 d2
      go_wp2_with fail
      go_roundw
      case rel => exact ⟨k + 1, by omega, by go_num, by rw [hq1], HO2.out, HB2.out⟩
      case measure => simp [intOf]; omega
    · have hke : k = 8 := by omega
      subst hke
      have e : (nb v).take 8 = nb v := List.take_of_length_le (by rw [nb_len]; omega)
      rw [e] at hown
      have HO2 : Hid _ := hown
      have HB2 : Hid (Below w.heap.size w wr) := hbr
      clear hown hbr e
      generalize (72057594037927936 / 256 ^ 8 : Nat) = q at *
      go_wp2_with fail
      go_ret
      exact ⟨_, rfl, HO2.out, HB2.out⟩

set_option maxRecDepth 100000 in
set_option maxHeartbeats 1000000 in
theorem refReadNumber_any (v : Value) (l : List UInt8) (w : World) (h : Reads w v l) :
    Calls Tryd.prog 33 #[v] w fun e w' => e = .returned (.tuple #[.int .i64 (rnF l).1, .int .i64 (rnF l).2.1, .int .i64 (rnF l).2.2]) ∧ Below w.heap.size w w' := by
  by_cases h8 : l.length < 8
  · have e : rnF l = (0, 0, 10) := by unfold rnF; rw [if_pos h8]
    rw [e]
    obtain ⟨a, cap, rfl, _⟩ := h.form
    have i1 : (l.length : Int) < 8 := by omega
    clear h e
    go_enter Tryd.func33, Tryd.ntmps33
    go_wp2_with fail
    go_ret3
    exact ⟨rfl, Below.refl _ _⟩
  · have e : rnF l = (beval ((l.take 8).map fun x => (x.toNat : Int)) - 9223372036854775808, 8, 0) := by unfold rnF; rw [if_neg h8]
    rw [e]
    rcases h with ⟨rfl, a, cap, rfl, _⟩ | ⟨b, off, cap, rfl, g2, g3, g4, g5, g6⟩
    · simp at h8
    obtain ⟨zs, hzs⟩ : ∃ zs, zs = ((l.take 8).map fun x => (x.toNat : Int)) := ⟨_, rfl⟩
    rw [← hzs]
    have hlen : zs.length = 8 := by rw [hzs]; simp; omega
    have hz : ∀ x ∈ zs, 0 ≤ x ∧ x ≤ 255 := by
      rw [hzs]
      intro x hx
      obtain ⟨y, _, rfl⟩ := List.mem_map.1 hx
      have := UInt8.toNat_lt y
      omega
    have hcc : ∀ i, i < 8 → w.cell? ⟨b, off + i, none⟩ = some (.int .u8 (zs.getD i 0)) := by
      intro i hi
      rw [g6 i (by omega), hzs]
      unfold bc
      have e : ((l.take 8).map fun x => (x.toNat : Int)).getD i 0 = (l[i]'(by omega)).toNat := by
        have hl' : i < l.length := by omega
        simp [hi, List.getElem?_eq_getElem hl']
      rw [e]
    have i1 : ¬ (l.length : Int) < 8 := by omega
    have i2 : (8 : Int) ≤ (l.length : Int) := by omega
    have HBE : Hid _ := beval8 zs hlen hz
    clear g6 h8 e hzs
    go_enter Tryd.func33, Tryd.ntmps33
    go_wp2_with fail
    go_loop [5, 6] (fun n i => ∃ k : Nat, k ≤ 8 ∧ i = .int .i64 k ∧ n = .int .u64 (beval (zs.take k))) (fun _ i => 8 - (intOf i).toNat)
    case atStart => exact ⟨0, by omega, rfl, rfl⟩
    case round =>
      obtain ⟨k, hk, rfl, rfl⟩ := hrel
      by_cases hlt : k < 8
      · have hcell := hcc k hlt
        have hx := hz _ (getD_mem zs k (by omega))
        have HT : Hid _ := beval_take zs k (by omega)
        have hb := beval_bd zs hz k
        have hki : (k : Int) < (l.length : Int) := by omega
        have hq : (256 : Int) ^ k ≤ 72057594037927936 := by
          have : (256 : Int) ^ k ≤ 256 ^ 7 := by
            have h7 : (256 : Nat) ^ k ≤ 256 ^ 7 := Nat.pow_le_pow_right (by omega) (by omega)
            exact_mod_cast h7
          simpa using this
        generalize zs.getD k 0 = x at *
        generalize beval (zs.take k) = n at *
        generalize (256 : Int) ^ k = q at *
        obtain ⟨n1, n2⟩ := hb
        obtain ⟨x1, x2⟩ := hx
        have n3 : n < 72057594037927936 := by omega
        have hc5 : 256 * n + x = n * 256 + x := by omega
        clear hcc hq n2
        go_wp2_with fail
        go_round
        case rel => exact ⟨k + 1, by omega, by go_num, by rw [HT.out]⟩
        case measure => simp [intOf]; omega
      · have hke : k = 8 := by omega
        subst hke
        have e : zs.take 8 = zs := List.take_of_length_le (by omega)
        rw [e]
        have hb1 := HBE.out.1
        have hb2 := HBE.out.2
        clear hcc hz hlen HBE e
        obtain ⟨n, HNE⟩ : ∃ n, Hid (n = beval zs) := ⟨_, rfl⟩
        rw [← HNE.out] at hb1 hb2 ⊢
        have ht : IntKind.i64.wrap (IntKind.u64.wrap (n - 9223372036854775808)) = n - 9223372036854775808 := by
          rw [IntKind.wrap_u64, IntKind.wrap_i64]; omega
        clear hb1 hb2
        go_wp2_with fail
        go_ret3
        exact ⟨by rw [← HNE.out]; rfl, Below.refl _ _⟩
end Go.Proofs.YtahigmjpeicemaaDoor

/- The reference's May, Right and Write, of records. -/
namespace Go.Proofs.YtahigmjpeicemaaDoor
open Go.RowKit Go.Shelf

set_option maxRecDepth 100000 in
theorem wrefTime_any (t : Int) (w : World) : Calls Tryd.prog 39 #[.int .i64 t] w fun e w' => e = .returned (.bool (isTm t)) ∧ w' = w := by
  by_cases h1 : 0 ≤ t
  · by_cases h2 : t ≤ 1099511627776
    · have HF : Hid (isTm t = true) := isTm_iff.2 ⟨h1, h2⟩
      go_enter Tryd.func39, Tryd.ntmps39
      go_wp2_with fail
      go_ret
      exact ⟨by rw [HF.out]; first | rfl | (exact ret_bool (by simp; omega)), rfl⟩
    · have HF : Hid (isTm t = false) := by unfold Hid isTm; simp; omega
      have d2 : decide (t ≤ 1099511627776) = false := decide_eq_false h2
      go_enter Tryd.func39, Tryd.ntmps39
      go_wp2_with fail
      go_ret
      exact ⟨by rw [HF.out]; first | rfl | (exact ret_bool (by assumption)), rfl⟩
  · have HF : Hid (isTm t = false) := by unfold Hid isTm; simp; omega
    have d1 : decide (0 ≤ t) = false := decide_eq_false h1
    go_enter Tryd.func39, Tryd.ntmps39
    go_wp2_with fail
    go_ret
    exact ⟨by rw [HF.out]; first | rfl | (exact ret_bool (by assumption)), rfl⟩
set_option maxRecDepth 100000 in
theorem wrefMay_any (f : Fa) (w : World) (h : FaR w f) : Calls Tryd.prog 14 #[f.val] w fun e w' => e = .returned (.bool (mayP f.p)) ∧ Below w.heap.size w w' := by
  obtain ⟨v, D, t, x⟩ := f
  obtain ⟨hr, hb⟩ := h
  simp only at hr
  obtain ⟨a, cap, rfl, hm⟩ := hr.form
  have HP : Hid (mayP (Fa.p ⟨.slice a D.length cap, D, t, x⟩) = (mayB D && isTm t)) := rfl
  unfold Fa.val
  simp only
  obtain ⟨q, Hq⟩ := hid_ex (mayP (Fa.p ⟨.slice a D.length cap, D, t, x⟩))
  rw [← Hq.out] at HP ⊢
  have HB : Hid (Below w.heap.size w (w.alloc (.cells #[.slice a D.length cap, .int .i64 t, .int .i64 x] 27))) := (Below.refl _ _).alloc (Nat.le_refl _) _
  have HK : Hid (SReads (w.alloc (.cells #[.slice a D.length cap, .int .i64 t, .int .i64 x] 27)) (.slice a D.length cap) D) := hr.below HB.out
  clear hr hb Hq
  go_enter Tryd.func14, Tryd.ntmps14
  go_wp2_with fail
  refine (fits_any _ D _ HK.out).mono ?_
  rintro e w1 ⟨rfl, hw⟩
  subst w1
  cases hmb : mayB D with
  | false =>
    rw [hmb] at HP
    go_wp2_with fail
    go_ret
    exact ⟨by rw [HP.out]; rfl, HB.out⟩
  | true =>
    rw [hmb] at HP
    go_wp2_with fail
    refine (wrefTime_any t _).mono ?_
    rintro e w2 ⟨rfl, hw⟩
    subst w2
    go_wp2_with fail
    go_ret
    exact ⟨by rw [HP.out]; rfl, HB.out⟩
set_option maxRecDepth 100000 in
set_option maxHeartbeats 1000000 in
theorem wrefRight_any (r : Rc) (w : World) (h : RcOk w r) : Calls Tryd.prog 27 #[r.val] w fun e w' => e = .returned (.bool (rightR r.p r.m)) ∧ Below w.heap.size w w' := by
  obtain ⟨a, cap, hv, hl1, hl2⟩ := h.f.form
  unfold maxLen at hl2
  obtain ⟨q, Hq⟩ := hid_ex (rightR r.p r.m)
  rw [← Hq.out]
  have H0 : Hid (r.fs.length = 0 → q = isTm r.m) := fun z => Hq.out.trans (rightR_0 z)
  have H1 : Hid (¬ r.fs.length = 0 → q = (r.m == -1 && decide (r.fs.length ≤ 16) && r.fs.all fun f => mayP f.p)) := fun z => Hq.out.trans (rightR_1 z)
  have HF0 : Hid (FReads w (.slice a r.fs.length cap) r.fs) := by rw [← hv]; exact h.f
  have HB : Hid (Below w.heap.size w (w.alloc (.cells #[.slice a r.fs.length cap, .int .i64 r.m] 35))) := (Below.refl _ _).alloc (Nat.le_refl _) _
  unfold Rc.val
  rw [hv]
  clear hv h Hq
  obtain ⟨rv, fs, m⟩ := r
  simp only at *
  by_cases h0 : fs.length = 0
  · have HQ : Hid (q = isTm m) := H0.out h0
    clear H0 H1 HF0
    rw [h0] at HB ⊢
    clear h0
    go_enter Tryd.func27, Tryd.ntmps27
    go_wp2_with fail
    refine (wrefTime_any m _).mono ?_
    rintro e w1 ⟨rfl, hw⟩
    subst w1
    rw [← HQ.out]
    go_wp2_with fail
    go_ret
    exact ⟨rfl, HB.out⟩
  · have HQ : Hid (q = (m == -1 && decide (fs.length ≤ 16) && fs.all fun f => mayP f.p)) := H1.out h0
    have h0' : ¬ (fs.length : Int) = 0 := by omega
    clear H0 H1
    by_cases h1 : m = -1
    · have b1 : (m == -1) = true := by simpa using h1
      have HQ1 : Hid (q = (decide (fs.length ≤ 16) && fs.all fun f => mayP f.p)) := by have := HQ.out; rw [b1] at this; simpa [Hid] using this
      clear HQ
      by_cases h2 : fs.length ≤ 16
      · have h2' : ¬ (16 : Int) < (fs.length : Int) := by omega
        have d2 : decide ((16 : Int) < (fs.length : Int)) = false := decide_eq_false h2'
        have HQ2 : Hid (q = fs.all fun f => mayP f.p) := by have := HQ1.out; rw [decide_eq_true h2] at this; simpa [Hid] using this
        subst h1
        clear HQ1 b1
        go_enter Tryd.func27, Tryd.ntmps27
        go_wp2_with fail
        go_loopw [3] (fun i wr => ∃ k : Nat, k ≤ fs.length ∧ i = .int .i64 (k : Int) ∧ Hid (∀ j (hj : j < fs.length), j < k → mayP fs[j].p = true) ∧ Hid (Below (w.heap.size + 1) (w.alloc (.cells #[.slice a fs.length cap, .int .i64 (-1)] 35)) wr)) (fun i _ => fs.length - (intOf i).toNat)
        case atStart => exact ⟨0, by omega, rfl, fun j hj h => absurd h (by omega), Below.refl _ _⟩
        case round =>
          obtain ⟨k, hk, rfl, HP, HBr⟩ := hrel
          have c0 := HBr.out.cell (p := ⟨w.heap.size, 0, none⟩) (by simp)
          simp [go_sem] at c0
          have hsz := HBr.out.size
          simp at hsz
          have HBw : Hid (Below w.heap.size w wr) := HB.out.trans (HBr.out.mono (by omega))
          by_cases hlt : k < fs.length
          · obtain ⟨b, off, rfl, hb⟩ := HF0.out.ptr (by omega)
            obtain ⟨g, Hg⟩ := hid_ex fs[k]
            obtain ⟨d0, d1, d2', hfr⟩ := (HF0.out.below HBw.out).three hlt g Hg.out
            obtain ⟨ga, gcp, hgv, _⟩ := hfr.r.form
            have HM : Hid (Calls Tryd.prog 14 #[.agg #[.slice ga g.D.length gcp, .int .i64 g.t, .int .i64 g.x]] wr fun e w' => e = .returned (.bool (mayP g.p)) ∧ Below wr.heap.size wr w') := by
              have := wrefMay_any g wr hfr
              unfold Fa.val at this
              rw [hgv] at this
              exact this
            rw [hgv] at d0
            clear hfr hgv
            go_wp2_with fail
            refine HM.out.mono ?_
            rintro e w' ⟨rfl, hb'⟩
            have HBn : Hid (Below (w.heap.size + 1) (w.alloc (.cells #[.slice (some ⟨b, off, none⟩) fs.length cap, .int .i64 (-1)] 35)) w') := HBr.out.trans (hb'.mono (by omega))
            have HBe : Hid (Below w.heap.size w w') := HBw.out.trans (hb'.mono HBw.out.size)
            clear hb' c0 d0 d1 d2' HM
            obtain ⟨z, Hz⟩ := hid_ex (mayP g.p)
            rw [← Hz.out]
            cases z with
            | false =>
              have HT : Hid (q = false) := by
                unfold Hid
                rw [HQ2.out, List.all_eq_false]
                exact ⟨fs[k], List.getElem_mem hlt, by rw [← Hg.out, ← Hz.out]; simp⟩
              go_wp2_with fail
              go_ret
              exact ⟨by rw [HT.out]; rfl, HBe.out⟩
            | true =>
              have HN : Hid (∀ j (hj : j < fs.length), j < k + 1 → mayP fs[j].p = true) := by
                intro j hj hjk
                rcases Nat.lt_or_ge j k with h9 | h9
                · exact HP.out j hj h9
                · obtain rfl : j = k := by omega
                  rw [← Hg.out, ← Hz.out]
              go_wp2_with fail
              go_roundw
              case rel => exact ⟨k + 1, by omega, by go_num, HN, HBn⟩
              case measure => simp [intOf]; omega
          · have HT : Hid (q = true) := by
              unfold Hid
              rw [HQ2.out, List.all_eq_true]
              intro r hr
              obtain ⟨j, hj, rfl⟩ := List.getElem_of_mem hr
              exact HP.out j hj (by omega)
            go_wp2_with fail
            go_ret
            exact ⟨by rw [HT.out]; rfl, HBw.out⟩
      · have h2' : (16 : Int) < (fs.length : Int) := by omega
        have HQ2 : Hid (q = false) := by have := HQ1.out; rw [decide_eq_false h2] at this; simpa [Hid] using this
        subst h1
        go_enter Tryd.func27, Tryd.ntmps27
        go_wp2_with fail
        go_ret
        exact ⟨by rw [HQ2.out]; rfl, HB.out⟩
    · have b1 : (m != -1) = true := by simpa using h1
      have b2 : (m == -1) = false := by simpa using h1
      have HQ2 : Hid (q = false) := by have := HQ.out; rw [b2] at this; simpa [Hid] using this
      go_enter Tryd.func27, Tryd.ntmps27
      go_wp2_with fail
      go_ret
      exact ⟨by rw [HQ2.out]; rfl, HB.out⟩
end Go.Proofs.YtahigmjpeicemaaDoor

/- An append that leaves what is no byte as it is. -/
namespace Go.Proofs.YtahigmjpeicemaaDoor
open Go.RowKit

/-- All cells but bytes stand. -/
def Kn (A B : World) : Prop := ∀ (c : Nat) (cs : Array Value) (T : TypeId) (fr : Nat × Nat), T ≠ 5 → A.heap[c]? = some (.cells cs T fr) → B.heap[c]? = some (.cells cs T fr)
theorem Kn.refl (A : World) : Kn A A := fun _ _ _ _ _ h => h
theorem Kn.of_below {A B : World} (h : Below A.heap.size A B) : Kn A B := fun c _ _ _ _ hc => (h.block c (Array.getElem?_eq_some_iff.1 hc).1).trans hc
theorem Kn.trans {A B C : World} (h : Kn A B) (k : Kn B C) : Kn A C := fun c cs T fr h1 hc => k c cs T fr h1 (h c cs T fr h1 hc)
theorem kn_grown {w w' : World} {base : Nat} {v : Value} {L : List UInt8} (hown : Own w base v L) (hg : w.grownBy w' v.ownBlock) : Kn w w' := by
  intro c cs T fr hT hc
  rw [hg.block c (Array.getElem?_eq_some_iff.1 hc).1 ?_]
  · exact hc
  · intro e
    rcases hown.2 with ⟨rfl, _⟩ | ⟨g, cap, cur, rfl, _, hgb, _⟩
    · simp [Value.ownBlock] at e
    · obtain rfl : c = g := by simpa [Value.ownBlock] using e
      rw [hc] at hgb
      simp at hgb
      exact hT hgb.2.1
theorem cell_rw {w : World} {b : Nat} {cs : Array Value} {T : TypeId} (h : w.heap[b]? = some (.cells cs T)) (i : Nat) (hi : i < cs.size) : w.cell? ⟨b, i, none⟩ = some cs[i] := by
  simp [World.cell?, h, hi]
theorem wpList_appK {w : World} {ops : Array Oper} {rest : List Oper} {o : Oper} {a : Act} {Q : Exit → Act → World → Prop} (hgd : o.guard = none) (s x : Operand)
    (ho : o.op = .call { callee := .builtin .append, args := #[s, x], argTypes := #[28, 28] })
    (base : Nat) (v vx : Value) (L l M : List UInt8) (hM : M = L ++ l) (hs : a.eval s = v) (hx : a.eval x = vx) (hown : Own w base v L) (hr : Reads w vx l)
    (hlen : L.length + l.length ≤ 140737488355328) (hbase : base ≤ w.heap.size)
    (h : ∀ v' w', Own w' base v' M → Hid (Below base w w') → Hid (Kn w w') → wpList Tryd.prog ops Q rest (a.put o.dst v') w') : wpList Tryd.prog ops Q (o :: rest) a w := by
  subst hM
  obtain ⟨i0, hi, hz0, hz1, hz2⟩ := info_parts info5
  rcases hr with ⟨rfl, ad, cap, rfl, hn⟩ | ⟨b, off, cap, rfl, h2, h3, h4, h5, h6⟩
  · cases ad with
    | none =>
      obtain rfl := hn rfl
      refine wpList_append_own_none hgd s x 28 ho base 5 i0 1 Tryd.underlying28 hi v L.length (L.map bc) hs hown hx ?_
      exact h v w (by rw [List.append_nil]; exact hown) (Below.refl _ _) (Kn.refl _)
    | some ad =>
      refine wpList_append_own w hgd s x 28 ho base 5 i0 (.int .u8 0) 1 1 Tryd.underlying28 hi hz0 hz1 hz2 rfl (by decide) v L.length (L.map bc) hs hown ad 0 cap [] hx (by simp) (by intro j u hj; simp at hj) (by intro u hu; simp at hu) (by simp [maxLen] at *; omega) (by simp at *; omega) hbase ?_
      intro v' w' hown' hgrow _
      refine h v' w' ?_ ((Below.refl _ _).grown hgrow hbase (own_block hown)) (kn_grown hown hgrow)
      unfold Own; simpa using hown'
  · refine wpList_append_own w hgd s x 28 ho base 5 i0 (.int .u8 0) 1 1 Tryd.underlying28 hi hz0 hz1 hz2 rfl (by decide) v L.length (L.map bc) hs hown ⟨b, off, none⟩ l.length cap (l.map bc) hx (by simp) (newsR h6) one_bc (by simp [maxLen] at *; omega) (by simp at *; omega) hbase ?_
    intro v' w' hown' hgrow _
    refine h v' w' ?_ ((Below.refl _ _).grown hgrow hbase (own_block hown)) (kn_grown hown hgrow)
    unfold Own; rw [List.length_append, List.map_append]; exact hown'
end Go.Proofs.YtahigmjpeicemaaDoor

/- The reference's Write, of records. -/
namespace Go.Proofs.YtahigmjpeicemaaDoor
open Go.RowKit Go.Shelf

theorem boxc {w : World} {X : Nat} {a b c : Value} {T : TypeId} (h : w.heap[X]? = some (.cells #[a, b, c] T)) : w.cell? ⟨X, 0, none⟩ = some a ∧ w.cell? ⟨X, 1, none⟩ = some b ∧ w.cell? ⟨X, 2, none⟩ = some c :=
  ⟨cell_rw h 0 (by simp), cell_rw h 1 (by simp), cell_rw h 2 (by simp)⟩
set_option maxRecDepth 100000 in
set_option maxHeartbeats 4000000 in
theorem wrefWrite_any (r : Rc) (w : World) (h : RcOk w r) : Calls Tryd.prog 8 #[r.val] w fun e w' => ∃ v, e = .returned (.tuple #[v, .int .i64 (wrE r)]) ∧ Own w' w.heap.size v (wrB r) ∧ Below w.heap.size w w' := by
  obtain ⟨a, cap, hv, hl1, hl2⟩ := h.f.form
  unfold maxLen at hl2
  have HB0 : Hid (Below w.heap.size w (w.alloc (.cells #[.slice a r.fs.length cap, .int .i64 r.m] 35))) := (Below.refl _ _).alloc (Nat.le_refl _) _
  have HRt : Hid (Calls Tryd.prog 27 #[.agg #[.slice a r.fs.length cap, .int .i64 r.m]] (w.alloc (.cells #[.slice a r.fs.length cap, .int .i64 r.m] 35)) fun e w' => e = .returned (.bool (rightR r.p r.m)) ∧ Below (w.alloc (.cells #[.slice a r.fs.length cap, .int .i64 r.m] 35)).heap.size (w.alloc (.cells #[.slice a r.fs.length cap, .int .i64 r.m] 35)) w') := by
    have := wrefRight_any r _ (h.below HB0.out)
    unfold Rc.val at this
    rw [hv] at this
    exact this
  obtain ⟨q, Hq⟩ := hid_ex (rightR r.p r.m)
  have HE : Hid (wrE r = if q = true then 0 else 90) := by unfold Hid wrE; rw [Hq.out]
  have HW : Hid (wrB r = if q = true then wrR r.p r.m else []) := by unfold Hid wrB; rw [Hq.out]
  obtain ⟨E, HEE⟩ := hid_ex (wrE r)
  obtain ⟨B, HBB⟩ := hid_ex (wrB r)
  rw [← HEE.out] at HE ⊢
  rw [← HBB.out] at HW ⊢
  rw [← Hq.out] at HRt
  have HF : Hid (FReads w (.slice a r.fs.length cap) r.fs) := by rw [← hv]; exact h.f
  have hm1 := h.m1
  have hm2 := h.m2
  unfold Rc.val
  rw [hv]
  clear HEE HBB h
  go_enter Tryd.func8, Tryd.ntmps8
  go_wp2_with fail
  refine HRt.out.mono ?_
  rintro e w1 ⟨rfl, hb1⟩
  have c0 := hb1.cell (p := ⟨w.heap.size, 0, none⟩) (by simp)
  have c1 := hb1.cell (p := ⟨w.heap.size, 1, none⟩) (by simp)
  simp [go_sem] at c0 c1
  have hz1 : w.heap.size + 1 ≤ w1.heap.size := by have := hb1.size; simpa using this
  have HB1 : Hid (Below w.heap.size w w1) := HB0.out.trans (hb1.mono (by simp))
  clear hb1 HRt HB0
  cases q with
  | false =>
    simp only [if_neg (show ¬ (false = true) by decide)] at HE HW
    go_wp2_with fail
    go_ret2
    exact ⟨_, by rw [HE.out]; rfl, by rw [HW.out]; exact Own.nil _ _, HB1.out⟩
  | true =>
    simp only at HE HW
    have HAll : Hid (r.fs.length ≤ 16 ∧ ∀ f ∈ r.fs, mayP f.p = true) := by
      obtain ⟨z1, z2⟩ := rightR_all Hq.out.symm
      refine ⟨by rw [← p_len]; exact z1, fun f hf => ?_⟩
      exact List.all_eq_true.1 z2 _ (List.mem_map.2 ⟨f, hf, rfl⟩)
    have h16 := HAll.out.1
    have HO1 : Own w1 (w.heap.size + 1) (.slice none 0 0) [] := Own.nil _ _
    by_cases h0 : r.fs.length = 0
    · have hp0 : r.p.length = 0 := by rw [p_len]; exact h0
      have HW2 : Hid (B = [2] ++ nb r.m) := by unfold Hid; rw [HW.out]; unfold wrR; rw [if_pos hp0]; rfl
      have hnm := nb_len r.m
      have C1 : Hid (w1.cell? ⟨w.heap.size, 1, none⟩ = some (.int .i64 r.m)) := c1
      clear hp0
      go_wp2_with (at_builtin; refine wpList_app1 rfl _ _ rfl (w.heap.size + 1) _ [] 2 [2] rfl rfl rfl rfl HO1 (by simp) (by omega) ?_)
      intro v2 w2 HO2 hb2
      have HB2 : Hid (Below (w.heap.size + 1) w1 w2) := hb2.out
      have c1 := (HB2.out.cell (p := ⟨w.heap.size, 1, none⟩) (by show w.heap.size < _; omega)).trans C1.out
      have hsz2 := HB2.out.size
      clear hb2
      go_wp2_with fail
      refine (refNumber_any r.m hm1 hm2 _).mono ?_
      rintro e w3 ⟨vt, rfl, hot, hb3⟩
      have HO3 : Own w3 (w.heap.size + 1) v2 [2] := HO2.below hb3
      have HB3 : Hid (Below (w.heap.size + 1) w1 w3) := HB2.out.trans (hb3.mono (by omega))
      have hrt : Reads w3 vt (nb r.m) := by rw [← hnm] at hot; exact reads_own hot
      have hsz3 := HB3.out.size
      clear hb3 hot HO2 HB2 hsz2 c1
      go_wp2_with (at_builtin; refine wpList_app rfl _ _ rfl (w.heap.size + 1) _ _ [2] (nb r.m) B HW2.out rfl rfl HO3 hrt (by simp; omega) (by omega) ?_)
      intro v4 w4 HR4 hb4
      go_wp2_with fail
      go_ret2
      exact ⟨_, by rw [HE.out]; rfl, HR4.mono (by omega), HB1.out.trans ((HB3.out.trans hb4.out).mono (by omega))⟩
    · have HW2 : Hid (B = 1 :: (sh r.fs.length ++ r.fs.flatMap fun f => wrF f.p)) := by
        have hp0 : ¬ r.p.length = 0 := by rw [p_len]; exact h0
        unfold Hid; rw [HW.out]; unfold wrR; rw [if_neg hp0, p_len, flat_map]; rfl
      have h0' : ¬ (r.fs.length : Int) = 0 := by omega
      clear HW
      obtain ⟨M0, HM0⟩ := hid_ex ([1] ++ sh r.fs.length)
      have hs10 := sh_len10 (n := r.fs.length) (by omega)
      have hm0 : M0.length ≤ 11 := by rw [HM0.out]; simp; omega
      have C0 : Hid (w1.cell? ⟨w.heap.size, 0, none⟩ = some (.slice a r.fs.length cap)) := c0
      clear c1
      go_wp2_with (at_builtin; refine wpList_app1 rfl _ _ rfl (w.heap.size + 1) _ [] 1 [1] rfl rfl rfl rfl HO1 (by simp) (by omega) ?_)
      intro v2 w2 HO2 hb2
      have HB2 : Hid (Below (w.heap.size + 1) w1 w2) := hb2.out
      have c0 := (HB2.out.cell (p := ⟨w.heap.size, 0, none⟩) (by show w.heap.size < _; omega)).trans C0.out
      have hsz2 := HB2.out.size
      clear hb2
      go_wp2_with fail
      refine (refShort_any r.fs.length (by omega) _).mono ?_
      rintro e w3 ⟨vt, rfl, hot, hb3⟩
      have HO3 : Own w3 (w.heap.size + 1) v2 [1] := HO2.below hb3
      have HB3 : Hid (Below (w.heap.size + 1) w1 w3) := HB2.out.trans (hb3.mono (by omega))
      have hrt : Reads w3 vt (sh r.fs.length) := reads_own hot
      have hsz3 := HB3.out.size
      clear hb3 hot HO2 HB2 hsz2 c0
      go_wp2_with (at_builtin; refine wpList_app rfl _ _ rfl (w.heap.size + 1) _ _ [1] (sh r.fs.length) M0 HM0.out rfl rfl HO3 hrt (by simp; omega) (by omega) ?_)
      intro v4 w4 HR4 hb4
      have HB4 : Hid (Below (w.heap.size + 1) w1 w4) := HB3.out.trans hb4.out
      have c0 := (HB4.out.cell (p := ⟨w.heap.size, 0, none⟩) (by show w.heap.size < _; omega)).trans C0.out
      clear hb4 HB3 HO3 hrt hsz3
      go_wp2_with fail
      go_loopw [4, 5] (fun u i wr => ∃ (k : Nat) (M : List UInt8), k ≤ r.fs.length ∧ i = .int .i64 (k : Int) ∧ Hid (M = M0 ++ (r.fs.take k).flatMap fun f => wrF f.p) ∧ M.length ≤ 11 + 162 * k ∧ Own wr (w.heap.size + 1) u M ∧ Hid (Below (w.heap.size + 1) w1 wr)) (fun _ i _ => r.fs.length - (intOf i).toNat)
      case atStart => exact ⟨0, M0, by omega, rfl, by simp [Hid], by omega, HR4, HB4⟩
      case round =>
        obtain ⟨k, M, hk, rfl, HM, hml, HR, HB⟩ := hrel
        have hsz := HB.out.size
        have c0 := (HB.out.cell (p := ⟨w.heap.size, 0, none⟩) (by show w.heap.size < _; omega)).trans C0.out
        by_cases hlt : k < r.fs.length
        · obtain ⟨b, off, rfl, hbw⟩ := HF.out.ptr (by omega)
          have HBw : Hid (Below w.heap.size w wr) := HB1.out.trans (HB.out.mono (by omega))
          obtain ⟨g, Hg⟩ := hid_ex r.fs[k]
          obtain ⟨_, _, _, hfr⟩ := HF.out.three hlt g Hg.out
          obtain ⟨d0, d1, d2, _⟩ := (HF.out.below HBw.out).three hlt g Hg.out
          have hmay : mayP g.p = true := by rw [Hg.out]; exact HAll.out.2 _ (List.getElem_mem hlt)
          have hmm := hmay
          unfold mayP at hmm
          rw [Bool.and_eq_true] at hmm
          have hM4 := mayB_iff.1 hmm.1
          simp only [Fa.p] at hM4
          obtain ⟨h4, h16'⟩ := hM4
          have HS : Hid (∀ s ∈ g.D, s.size ≤ 16) := h16'
          obtain ⟨Mz, HMz⟩ := hid_ex (M ++ wrF g.p)
          have HE2 : Hid (Mz = M0 ++ (r.fs.take (k + 1)).flatMap fun f => wrF f.p) := by
            unfold Hid; rw [HMz.out, HM.out, flat_snoc _ _ hlt, List.append_assoc, Hg.out]
          have hfl := wrF_len hmay
          have hmlz : Mz.length ≤ 11 + 162 * (k + 1) := by rw [HMz.out, List.length_append]; omega
          have HF2 : Hid (wrF g.p = sh g.D.length ++ (wrD g.D ++ (nb g.t ++ nb g.x))) := rfl
          obtain ⟨ga, gc, hgv, _⟩ := hfr.r.form
          have HR0 : Hid (SReads w (.slice ga g.D.length gc) g.D) := by rw [← hgv]; exact hfr.r
          obtain ⟨t1, t2, x1, x2⟩ := hfr.b
          have hgs : g.D.length ≤ 4 := h4
          have hs1 := sh_len10 (n := g.D.length) (by omega)
          obtain ⟨M1, HM1⟩ := hid_ex (M ++ sh g.D.length)
          have hm1' : M1.length ≤ M.length + 10 := by rw [HM1.out, List.length_append]; omega
          rw [hgv] at d0
          clear hfr hgv hmm h16' hmay HM HM0
          go_wp2_with fail
          obtain ⟨X, HX⟩ := hid_ex wr.heap.size
          rw [← HX.out]
          refine (refShort_any g.D.length (by omega) _).mono ?_
          rintro e w5 ⟨vs, rfl, hos, hb5⟩
          have hb5' : Below wr.heap.size wr w5 := ((Below.refl _ wr).alloc (Nat.le_refl _) _).trans (hb5.mono (by simp))
          have HB5 : Hid (Below (w.heap.size + 1) w1 w5) := HB.out.trans (hb5'.mono (by omega))
          have HO5 : Own w5 (w.heap.size + 1) _ M := HR.below hb5'
          have HK5 : Hid (w5.heap[X]? = some (.cells #[.slice ga g.D.length gc, .int .i64 g.t, .int .i64 g.x] 27)) := by
            rw [HX.out]; exact Kn.of_below hb5 _ _ _ _ (by decide) (World.alloc_heap_new _ _)
          have hrt5 : Reads w5 vs (sh g.D.length) := reads_own hos
          have hsz5 := HB5.out.size
          have hXs : w.heap.size + 1 ≤ X := by rw [HX.out]; omega
          clear hb5 hb5' hos HR HB hsz d0 d1 d2 c0 HX HBw
          go_wp2_with (at_builtin; refine wpList_appK rfl _ _ rfl (w.heap.size + 1) _ _ M (sh g.D.length) M1 HM1.out rfl rfl HO5 hrt5 (by omega) (by omega) ?_)
          intro v6 w6 HO6 hb6 hk6
          have HB6 : Hid (Below (w.heap.size + 1) w1 w6) := HB5.out.trans hb6.out
          have HK6 : Hid (w6.heap[X]? = some (.cells #[.slice ga g.D.length gc, .int .i64 g.t, .int .i64 g.x] 27)) := hk6.out _ _ _ _ (by decide) HK5.out
          obtain ⟨e0, e1, e2⟩ := boxc HK6.out
          clear hb6 hk6 HB5 HK5 HO5 hrt5 hsz5
          go_wp2_with fail
          go_loopw [4, 7] (fun u i wi => ∃ (j : Nat) (N : List UInt8), j ≤ g.D.length ∧ i = .int .i64 (j : Int) ∧ Hid (N = M1 ++ wrD (g.D.take j)) ∧ Own wi (w.heap.size + 1) u N ∧ Hid (Below (w.heap.size + 1) w1 wi) ∧ Hid (wi.heap[X]? = some (.cells #[.slice ga g.D.length gc, .int .i64 g.t, .int .i64 g.x] 27))) (fun _ i _ => g.D.length - (intOf i).toNat)
          case atStart => exact ⟨0, M1, by omega, rfl, by simp [Hid, wrD], HO6, HB6, HK6⟩
          case round =>
            obtain ⟨j, N, hj, rfl, HN, HRi, HBi, HKi⟩ := hrel
            have hszi := HBi.out.size
            have hnl : N.length ≤ M1.length + 150 := by
              have h9 := wrD_len (g.D.take j) fun s hs => HS.out s (List.mem_of_mem_take hs)
              rw [HN.out, List.length_append]; simp at h9; omega
            obtain ⟨e0, e1, e2⟩ := boxc HKi.out
            by_cases hjt : j < g.D.length
            · have HBw : Hid (Below w.heap.size w wr) := HB1.out.trans (HBi.out.mono (by omega))
              obtain ⟨b3, off3, rfl, _, hcw⟩ := (HR0.out.below HBw.out).at j hjt
              have hsk := HS.out _ (List.getElem_mem hjt)
              obtain ⟨N2, HN2⟩ := hid_ex (N ++ tx g.D[j].data.toList)
              have HE3 : Hid (N2 = M1 ++ wrD (g.D.take (j + 1))) := by
                rw [HN2.out, HN.out, wrD_snoc _ _ hjt, List.append_assoc]; rfl
              have htl : (tx g.D[j].data.toList).length ≤ 34 := by
                have := tx_len g.D[j].data.toList
                have h4 : g.D[j].data.toList.length = g.D[j].size := Array.length_toList
                omega
              generalize g.D[j] = s at *
              have hss : s.size ≤ 10000 := by omega
              clear HBw
              go_wp2_with fail
              refine (refText_any s hss _).mono ?_
              rintro e w7 ⟨vt7, rfl, hot, hb7⟩
              have HB7 : Hid (Below (w.heap.size + 1) w1 w7) := HBi.out.trans (hb7.mono (by omega))
              have HO7 : Own w7 (w.heap.size + 1) _ N := HRi.below hb7
              have HK7 : Hid (w7.heap[X]? = some (.cells #[.slice (some ⟨b3, off3, none⟩) g.D.length gc, .int .i64 g.t, .int .i64 g.x] 27)) := Kn.of_below hb7 _ _ _ _ (by decide) HKi.out
              have hrt7 : Reads w7 vt7 (tx s.data.toList) := reads_own hot
              have hsz7 := HB7.out.size
              clear hb7 hot HRi HBi hszi HKi e0 e1 e2 hcw
              go_wp2_with (at_builtin; refine wpList_appK rfl _ _ rfl (w.heap.size + 1) _ _ N (tx s.data.toList) N2 HN2.out rfl rfl HO7 hrt7 (by omega) (by omega) ?_)
              intro v8 w8 HO8 hb8 hk8
              have HB8 : Hid (Below (w.heap.size + 1) w1 w8) := HB7.out.trans hb8.out
              have HK8 : Hid (w8.heap[X]? = some (.cells #[.slice (some ⟨b3, off3, none⟩) g.D.length gc, .int .i64 g.t, .int .i64 g.x] 27)) := hk8.out _ _ _ _ (by decide) HK7.out
              clear hb8 hk8 HB7 HK7 HO7 hrt7 hsz7
              go_wp2_with fail
              go_roundw
              case rel => exact ⟨j + 1, N2, by omega, by go_num, HE3, HO8, HB8, HK8⟩
              case measure => simp [intOf]; omega
            · obtain ⟨N1, HN1⟩ := hid_ex (N ++ nb g.t)
              have HE3 : Hid (Mz = N1 ++ nb g.x) := by
                unfold Hid; rw [HMz.out, HN1.out, HN.out, List.take_of_length_le (by omega), HM1.out, HF2.out]; simp
              have hn1 : N1.length = N.length + 8 := by rw [HN1.out, List.length_append, nb_len]
              have hnt := nb_len g.t
              have hnx := nb_len g.x
              clear HN
              go_wp2_with fail
              refine (refNumber_any g.t t1 t2 _).mono ?_
              rintro e w7 ⟨vt7, rfl, hot, hb7⟩
              have HB7 : Hid (Below (w.heap.size + 1) w1 w7) := HBi.out.trans (hb7.mono (by omega))
              have HO7 : Own w7 (w.heap.size + 1) _ N := HRi.below hb7
              have HK7 : Hid (w7.heap[X]? = some (.cells #[.slice ga g.D.length gc, .int .i64 g.t, .int .i64 g.x] 27)) := Kn.of_below hb7 _ _ _ _ (by decide) HKi.out
              have hrt7 : Reads w7 vt7 (nb g.t) := by rw [← hnt] at hot; exact reads_own hot
              have hsz7 := HB7.out.size
              clear hb7 hot HRi HBi hszi HKi e0 e1 e2
              go_wp2_with (at_builtin; refine wpList_appK rfl _ _ rfl (w.heap.size + 1) _ _ N (nb g.t) N1 HN1.out rfl rfl HO7 hrt7 (by omega) (by omega) ?_)
              intro v8 w8 HO8 hb8 hk8
              have HB8 : Hid (Below (w.heap.size + 1) w1 w8) := HB7.out.trans hb8.out
              have HK8 : Hid (w8.heap[X]? = some (.cells #[.slice ga g.D.length gc, .int .i64 g.t, .int .i64 g.x] 27)) := hk8.out _ _ _ _ (by decide) HK7.out
              have hsz8 := HB8.out.size
              obtain ⟨e0, e1, e2⟩ := boxc HK8.out
              clear hb8 hk8 HB7 HK7 HO7 hrt7 hsz7
              go_wp2_with fail
              refine (refNumber_any g.x x1 x2 _).mono ?_
              rintro e w9 ⟨vt9, rfl, hot, hb9⟩
              have HB9 : Hid (Below (w.heap.size + 1) w1 w9) := HB8.out.trans (hb9.mono (by omega))
              have HO9 : Own w9 (w.heap.size + 1) _ N1 := HO8.below hb9
              have hrt9 : Reads w9 vt9 (nb g.x) := by rw [← hnx] at hot; exact reads_own hot
              have hsz9 := HB9.out.size
              clear hb9 hot HO8 HB8 hsz8 HK8 e0 e1 e2
              go_wp2_with (at_builtin; refine wpList_app rfl _ _ rfl (w.heap.size + 1) _ _ N1 (nb g.x) Mz HE3.out rfl rfl HO9 hrt9 (by omega) (by omega) ?_)
              intro va wa HOa hba
              have HBa : Hid (Below (w.heap.size + 1) w1 wa) := HB9.out.trans hba.out
              clear hba HB9 HO9 hrt9 hsz9
              go_wp2_with fail
              go_roundw
              case rel => exact ⟨k + 1, Mz, by omega, by go_num, HE2, hmlz, HOa, HBa⟩
              case measure => simp [intOf]; omega
        · have HMB : Hid (M = B) := by
            unfold Hid; rw [HM.out, List.take_of_length_le (by omega), HM0.out, HW2.out]; simp
          go_wp2_with fail
          go_ret2
          exact ⟨_, by rw [HE.out]; rfl, by rw [← HMB.out]; exact HR.mono (by omega), HB1.out.trans (HB.out.mono (by omega))⟩
end Go.Proofs.YtahigmjpeicemaaDoor

/- Pieces of bytes that a slice reads. -/
namespace Go.Proofs.YtahigmjpeicemaaDoor
open Go.RowKit

theorem Reads.take {w : World} {a : Option Addr} {cap : Nat} {l : List UInt8} (h : Reads w (.slice a l.length cap) l) {c : Nat} (hc : c ≤ l.length) : Reads w (.slice a c cap) (l.take c) := by
  rcases h with ⟨rfl, a', cap', hv, hn⟩ | ⟨b, off, cap', hv, h2, h3, h4, h5, h6⟩
  · have : c = 0 := by simpa using hc
    subst this
    simp at hv
    obtain ⟨rfl, rfl⟩ := hv
    exact .inl ⟨rfl, _, _, rfl, hn⟩
  · simp at hv
    obtain ⟨rfl, rfl⟩ := hv
    exact reads_take c hc h3 h4 h5 h6
theorem Reads.cap {w : World} {a : Option Addr} {n cap : Nat} {l : List UInt8} (h : Reads w (.slice a n cap) l) (h0 : 0 < l.length) : l.length ≤ cap := by
  rcases h with ⟨rfl, _⟩ | ⟨b, off, cap', hv, h2, h3, h4, h5, h6⟩
  · simp at h0
  · simp at hv; omega
theorem Reads.drop {w : World} {a : Option Addr} {cap : Nat} {l : List UInt8} (h : Reads w (.slice a l.length cap) l) {c : Nat} (hc : c ≤ l.length) (b off : Nat) (ha : a = some ⟨b, off, none⟩) :
    (c < cap → Reads w (.slice (some ⟨b, off + c, none⟩) (l.length - c) (cap - c)) (l.drop c)) ∧ (¬ c < cap → l.drop c = []) := by
  rcases h with ⟨rfl, a', cap', hv, hn⟩ | ⟨b', off', cap', hv, h2, h3, h4, h5, h6⟩
  · have : c = 0 := by simpa using hc
    subst this
    refine ⟨fun _ => .inl ⟨rfl, _, _, rfl, fun h => by cases h⟩, fun _ => rfl⟩
  · simp at hv
    obtain ⟨hv1, rfl⟩ := hv
    rw [ha] at hv1
    simp at hv1
    obtain ⟨rfl, rfl⟩ := hv1
    have hl : (l.drop c).length = l.length - c := by simp
    refine ⟨fun hcc => ?_, fun hcc => List.drop_eq_nil_of_le (by omega)⟩
    rcases Nat.eq_zero_or_pos (l.length - c) with h0 | h0
    · left; exact ⟨List.length_eq_zero_iff.1 (by omega), _, _, by rw [h0], fun h => by cases h⟩
    · right
      refine ⟨b, off + c, cap - c, by rw [hl], by omega, by omega, by omega, h5, fun j hj => ?_⟩
      rw [Nat.add_assoc, h6 (c + j) (by omega)]
      simp
theorem reads_nil {w : World} {a : Option Addr} {cap : Nat} (h : a = none → cap = 0) : Reads w (.slice a 0 cap) [] := .inl ⟨rfl, _, _, rfl, h⟩
end Go.Proofs.YtahigmjpeicemaaDoor
