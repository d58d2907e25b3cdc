/- TO2, joined. -/
import Derived.Test.YtlpjdfgknmfmnaaTZ0
import Derived.Test.YtlpjdfgknmfmnaaTF31
import Derived.Test.YtlpjdfgknmfmnaaTF39
import Derived.Test.YtlpjdfgknmfmnaaTF40
import Derived.Test.YtlpjdfgknmfmnaaTF41
/- The reference's Open of layer 10. -/
namespace Go.Proofs.Ytlpjdfgknmfmnaa
open Go.RowKit

/-- The frames that the reference holds. -/
def FrO (W : World) (base : Nat) (v : Value) (xs : List Fr) : Prop := W.ownsRow base 25 1 v xs.length (xs.map Fr.v) ∧ ∀ x ∈ xs, Own W base x.v x.D
theorem FrO.kpT {S : TypeId → Prop} {A B : World} {base : Nat} {v : Value} {xs : List Fr} (h : FrO A base v xs) (hk : KpT S A B) (h8 : S 5) (hs : S 25) : FrO B base v xs := ⟨row_kpT h.1 hk hs, fun x hx => own_kpT (h.2 x hx) hk h8⟩
theorem FrO.below {A B : World} {base : Nat} {v : Value} {xs : List Fr} (h : FrO A base v xs) (hb : Below A.heap.size A B) : FrO B base v xs := h.kpT (S := fun _ => True) (KpT.of_below hb) trivial trivial
theorem ROwn.kpT {S : TypeId → Prop} {A B : World} {base : Nat} {v : Value} {xs : List Px} (h : ROwn A base v xs) (hk : KpT S A B) (h8 : S 5) (hs : S 64) : ROwn B base v xs := ⟨row_kpT h.1 hk hs, fun x hx => ⟨own_kpT (h.2 x hx).1 hk h8, own_kpT (h.2 x hx).2 hk h8⟩⟩
theorem FrO.at {W : World} {base : Nat} {a : Option Addr} {n c : Nat} {xs : List Fr} (h : FrO W base (.slice a n c) xs) {j : Nat} (hj : j < xs.length) {x : Fr} (hx : x = xs[j]) : ∃ g, a = some ⟨g, 0, none⟩ ∧ W.cell? ⟨g, j, none⟩ = some x.v ∧ Own W base x.v x.D := by
  subst hx
  have h1 := h.1
  rcases h1.2 with ⟨q, q2⟩ | ⟨g, cap, cur, hv, _⟩
  · omega
  · simp only [Value.slice.injEq] at hv
    obtain ⟨rfl, rfl, rfl⟩ := hv
    refine ⟨g, rfl, ?_, h.2 _ (List.getElem_mem hj)⟩
    rw [World.ownsRow.cellAt h1 j (by omega), List.getElem?_map, List.getElem?_eq_getElem hj]
    rfl
theorem ROwn.at {W : World} {base : Nat} {a : Option Addr} {n c : Nat} {xs : List Px} (h : ROwn W base (.slice a n c) xs) {j : Nat} (hj : j < xs.length) {x : Px} (hx : x = xs[j]) : ∃ g, a = some ⟨g, 0, none⟩ ∧ W.cell? ⟨g, j * 2, none⟩ = some x.kv ∧ W.cell? ⟨g, j * 2 + 1, none⟩ = some x.vv ∧ Own W base x.kv x.p.1 ∧ Own W base x.vv x.p.2 := by
  subst hx
  have h1 := h.1
  rcases h1.2 with ⟨q, q2⟩ | ⟨g, cap, cur, hv, _⟩
  · omega
  · simp only [Value.slice.injEq] at hv
    obtain ⟨rfl, rfl, rfl⟩ := hv
    have e0 := flatq xs j 0 hj (by decide)
    have e1 := flatq xs j 1 hj (by decide)
    refine ⟨g, rfl, ?_, ?_, (h.2 _ (List.getElem_mem hj)).1, (h.2 _ (List.getElem_mem hj)).2⟩
    · rw [show j * 2 = 2 * j + 0 by omega, World.ownsRow.cellAt h1 _ (by omega), e0]; rfl
    · rw [show j * 2 + 1 = 2 * j + 1 by omega, World.ownsRow.cellAt h1 _ (by omega), e1]; rfl
/-- What the reference's Open answers. -/
def RoP (w : World) (b : List UInt8) (e : Ending) (W' : World) : Prop := Below w.heap.size w W' ∧
  ((rfOk b ∧ ∃ v xs, e = .returned (.tuple #[v, .int .i64 0]) ∧ xs.map Ee.e = rfL b ∧ TOwn W' w.heap.size v xs) ∨
   (¬ rfOk b ∧ e = .returned (.tuple #[.slice none 0 0, .int .i64 70])))
def pr2 (p : Pr) : Et := (p.1, rdA p.2)
theorem enF_some {r : List UInt8} {ps : List Pr} (h : rdB r = some ps) : enF r = ps.map pr2 := by
  unfold enF; rw [h]; rfl
theorem rowOk_some {r : List UInt8} {ps : List Pr} (h : rdB r = some ps) : rowOk r ↔ ∀ p ∈ ps, rdR p.2 = 0 := by
  unfold rowOk; rw [h]
theorem rowOk_none {r : List UInt8} (h : rdB r = none) : ¬ rowOk r := by
  unfold rowOk; rw [h]; exact id
set_option maxRecDepth 100000 in
set_option maxHeartbeats 4000000 in
theorem refOpen10_any (v : Value) (b : List UInt8) (hl : b.length ≤ 100000) (w : World) (hR : Reads w v b) : Calls Try.prog 11 #[v] w (RoP w b) := by
  obtain ⟨ba, bc9, rfl, hbm⟩ := hR.form
  unfold maxLen at hbm
  have HR : Hid (Reads w (.slice ba b.length bc9) b) := hR
  have HAl : Hid (Calls Try.prog 37 #[.slice ba b.length bc9] w _) := refAll_any _ b hl w hR
  have HBd : Hid (∀ n, (((opR b).take n).flatMap enF).length ≤ b.length) := fun n => by have := op_bd b n; rw [geF_nil] at this; exact this
  obtain ⟨BL, HBL⟩ : ∃ n, Hid (b.length = n) := ⟨_, rfl⟩
  rw [HBL.out] at HR HAl HBd hl hbm ⊢
  clear hR
  go_enter Try.func11, Try.ntmps11
  go_wp2_with fail
  refine HAl.out.mono ?_
  clear HAl
  rintro e w1 ⟨vl, xs, rfl, hxp, hrow, hown, hb1⟩
  have HB1 : Hid (Below w.heap.size w w1) := hb1
  have HF1 : Hid (FrO w1 w.heap.size vl xs) := ⟨hrow, hown⟩
  have HOp : Hid (opR b = xs.map Fr.D) := by
    unfold Hid opR
    rw [HBL.out, ← hxp, List.map_map]
    rfl
  obtain ⟨K, HK⟩ : ∃ n : Nat, Hid (ksum (alF (BL + 1) b) = n) := ⟨_, rfl⟩
  rw [HK.out]
  obtain ⟨XL, HXL⟩ : ∃ n, Hid (xs.length = n) := ⟨_, rfl⟩
  obtain ⟨la, lc, hlv⟩ : ∃ la lc, vl = .slice la XL lc := by
    rcases hrow.2 with ⟨g1, g2⟩ | ⟨g, cp, cur, g1, _⟩
    · exact ⟨none, 0, by rw [g1, ← HXL.out, g2]⟩
    · exact ⟨_, cp, by rw [g1, HXL.out]⟩
  subst hlv
  clear hrow hown hb1 hxp
  have HRl : Hid ((opR b).length = XL) := by unfold Hid; rw [HOp.out, List.length_map, HXL.out]
  have hXb : XL ≤ 100000 := by have := opR_sum b; rw [HBL.out, HRl.out] at this; omega
  have HWf : Hid (rfW b = (opR b).take (XL - 3)) := by unfold Hid rfW; rw [HRl.out]
  go_wp2_with fail
  go_loopw [6, 7] (fun o i wr => ∃ (j : Nat) (ys : List Ee), i = .int .i64 (j : Int) ∧ j ≤ XL - 3 ∧ Hid (TOwn wr w.heap.size o ys) ∧ Hid (ys.map Ee.e = ((opR b).take j).flatMap enF) ∧ Hid (∀ r ∈ (opR b).take j, rowOk r) ∧ Hid (FrO wr w.heap.size (.slice la XL lc) xs) ∧ Hid (Below w.heap.size w wr)) (fun _ i _ => XL - (intOf i).toNat)
  case atStart => exact ⟨0, [], rfl, by omega, TOwn.nil _ _, rfl, fun r hr => by simp at hr, HF1, HB1⟩
  case round =>
    rename World => wr
    obtain ⟨j, ys, rfl, hj, HO, HY, HK0, HF, HB⟩ := hrel
    by_cases hlt : j + 3 < XL
    · have hlt' : (j : Int) + 3 < (XL : Int) := by omega
      have hjx : j < xs.length := by rw [HXL.out]; omega
      obtain ⟨x, Hx⟩ := hid_ex xs[j]
      have HSn : Hid ((opR b).take (j + 1) = (opR b).take j ++ [x.D]) := by
        unfold Hid
        rw [List.take_add_one, List.getElem?_eq_getElem (by rw [HRl.out]; omega)]
        congr 1
        simp only [HOp.out, List.getElem_map, Hx.out]
        rfl
      have HMem : Hid (x.D ∈ rfW b) := by
        unfold Hid
        rw [HWf.out]
        have h1 : x.D ∈ (opR b).take (j + 1) := by rw [HSn.out]; simp
        have h2 : (opR b).take (j + 1) = ((opR b).take (XL - 3)).take (j + 1) := by rw [List.take_take, Nat.min_eq_left (by omega)]
        rw [h2] at h1
        exact List.mem_of_mem_take h1
      obtain ⟨g, rfl, hcx, hox⟩ := HF.out.at hjx Hx.out
      obtain ⟨xa, xc, hxv, _⟩ := hox.form
      obtain ⟨DL, HDL⟩ : ∃ n, Hid (x.D.length = n) := ⟨_, rfl⟩
      rw [HDL.out] at hxv
      rw [hxv] at hcx hox
      have HRd : Hid (Calls Try.prog 38 #[.slice xa DL xc] wr fun e w' => RfPostO wr x.D e w') := refReadO_any _ x.D wr hox.reads
      obtain ⟨ao, co, hov, hoc, hom⟩ := HO.out.form
      subst hov
      obtain ⟨YL, HYL⟩ : ∃ n, Hid (ys.length = n) := ⟨_, rfl⟩
      rw [HYL.out] at HO hoc ⊢
      obtain ⟨D, HD⟩ := hid_ex x.D
      rw [← HD.out] at HRd HSn HMem
      clear hox hxv Hx HDL HD
      go_wp2_with fail
      refine HRd.out.mono ?_
      clear HRd
      rintro e w2 ⟨hb2, hpost⟩
      have HB2 : Hid (Below w.heap.size w w2) := HB.out.trans (hb2.mono HB.out.size)
      have HO2 : Hid (TOwn w2 w.heap.size (.slice ao YL co) ys) := HO.out.below hb2
      have HF2 : Hid (FrO w2 w.heap.size (.slice (some ⟨g, 0, none⟩) XL lc) xs) := HF.out.below hb2
      have hzr := HB.out.size
      have hzr2 := hb2.size
      cases hrd : rdB D with
      | none =>
        rw [hrd] at hpost
        simp only at hpost
        subst hpost
        have HNo : Hid (¬ rfOk b) := fun h => rowOk_none hrd (h.1 _ HMem.out)
        clear hrd hb2
        go_wp2_with fail
        go_ret2
        exact ⟨HB2.out, .inr ⟨HNo.out, rfl⟩⟩
      | some ps =>
        rw [hrd] at hpost
        simp only at hpost
        obtain ⟨u, qs, rfl, hqo, hqe⟩ := hpost
        have HEn : Hid (enF D = ps.map pr2) := enF_some hrd
        have HRk : Hid (rowOk D ↔ ∀ p ∈ ps, rdR p.2 = 0) := rowOk_some hrd
        have HQe : Hid (qs.map Px.p = ps) := hqe
        obtain ⟨ua, uc, huv⟩ := hqo.form
        obtain ⟨PL, HPL⟩ : ∃ n, Hid (qs.length = n) := ⟨_, rfl⟩
        rw [HPL.out] at huv
        subst huv
        have HQ2 : Hid (ROwn w2 wr.heap.size (.slice ua PL uc) qs) := hqo
        have HPp : Hid (ps.length = PL) := by unfold Hid; rw [← HQe.out, List.length_map, HPL.out]
        have hAll : ∀ m, (ys.map Ee.e ++ (ps.take m).map pr2).length ≤ BL := fun m => by
          have h1 := HBd.out (j + 1)
          rw [HSn.out, List.flatMap_append, List.length_append] at h1
          simp only [List.flatMap_cons, List.flatMap_nil, List.append_nil, HEn.out, List.length_map] at h1
          rw [List.length_append, HY.out, List.length_map, List.length_take]
          omega
        have hPb : PL ≤ 100000 := by
          have h1 := hAll PL
          rw [List.length_append, List.length_map, List.length_map, List.length_take, HPp.out] at h1
          omega
        have HAll : Hid (∀ m, (ys.map Ee.e ++ (ps.take m).map pr2).length ≤ BL) := hAll
        clear hrd hqo hqe hb2 HO HF HB hAll hzr2
        go_wp2_with fail
        go_loopw [6, 10] (fun o i wz => ∃ (m : Nat) (zs : List Ee), i = .int .i64 (m : Int) ∧ m ≤ PL ∧ Hid (TOwn wz w.heap.size o zs) ∧ Hid (zs.map Ee.e = ys.map Ee.e ++ (ps.take m).map pr2) ∧ Hid (∀ p ∈ ps.take m, rdR p.2 = 0) ∧ Hid (ROwn wz wr.heap.size (.slice ua PL uc) qs) ∧ Hid (FrO wz w.heap.size (.slice (some ⟨g, 0, none⟩) XL lc) xs) ∧ Hid (Below w.heap.size w wz)) (fun _ i _ => PL - (intOf i).toNat)
        case atStart => exact ⟨0, ys, rfl, by omega, HO2, by unfold Hid; simp, fun p hp => by simp at hp, HQ2, HF2, HB2⟩
        case round =>
          rename World => wz
          obtain ⟨m, zs, rfl, hm9, HZ, HZs, HZk, HQ, HFz, HBz⟩ := hrel
          by_cases hmP : m < PL
          · have hmP' : (m : Int) < (PL : Int) := by omega
            have hmq : m < qs.length := by rw [HPL.out]; exact hmP
            have HM1 : Hid (m + 1 ≤ PL) := hmP
            obtain ⟨q, Hq⟩ := hid_ex qs[m]
            have HTk : Hid (ps.take (m + 1) = ps.take m ++ [q.p]) := by
              unfold Hid
              rw [List.take_add_one, List.getElem?_eq_getElem (by rw [HPp.out]; exact hmP)]
              congr 1
              simp only [← HQe.out, List.getElem_map, Hq.out]
              rfl
            have HMq : Hid (q.p ∈ ps) := by
              have h1 : q.p ∈ ps.take (m + 1) := by rw [HTk.out]; simp
              exact List.mem_of_mem_take h1
            have HZb : Hid (zs.length ≤ BL) := by
              have h1 := HAll.out m
              rw [← HZs.out, List.length_map] at h1
              exact h1
            obtain ⟨qg, rfl, hc0, hc1, hk0, hk1⟩ := HQ.out.at hmq Hq.out
            obtain ⟨ka, kc, hkv, _⟩ := hk0.form
            obtain ⟨va, vc, hvv, _⟩ := hk1.form
            obtain ⟨pk, HPk⟩ := hid_ex q.p.1
            obtain ⟨pv, HPv⟩ := hid_ex q.p.2
            rw [← HPk.out] at hk0 hkv
            rw [← HPv.out] at hk1 hvv
            obtain ⟨KL, HKL⟩ : ∃ n, Hid (pk.length = n) := ⟨_, rfl⟩
            obtain ⟨VL, HVL⟩ : ∃ n, Hid (pv.length = n) := ⟨_, rfl⟩
            rw [HKL.out] at hkv
            rw [HVL.out] at hvv
            rw [hkv] at hc0 hk0
            rw [hvv] at hc1 hk1
            have HQp : Hid (pr2 q.p = (pk, rdA pv)) := by unfold Hid pr2; rw [HPk.out, HPv.out]
            have HQr : Hid (rdR q.p.2 = rdR pv) := by unfold Hid; rw [HPv.out]
            have HAg : Hid (Calls Try.prog 39 #[.slice va VL vc] wz _) := refAR _ pv wz hk1.reads
            obtain ⟨G, HG⟩ := hid_ex (rdA pv)
            obtain ⟨GR, HGR⟩ := hid_ex (rdR pv)
            rw [← HG.out, ← HGR.out] at HAg
            unfold agV at HAg
            have HGo : Hid (AgOk G) := by unfold Hid; rw [HG.out]; exact rdA_okT pv
            rw [← HG.out] at HQp
            rw [← HGR.out] at HQr
            have HK0z : Hid (Own wz wr.heap.size (.slice ka KL kc) pk) := hk0
            obtain ⟨az, cz, hzv, hzc, hzm⟩ := HZ.out.form
            obtain ⟨ZL, HZL⟩ : ∃ n, Hid (zs.length = n) := ⟨_, rfl⟩
            rw [HZL.out] at hzv hzc HZb
            subst hzv
            have HC0 : Hid (wz.cell? ⟨qg, m * 2, none⟩ = some (.slice ka KL kc)) := hc0
            clear hk0 hk1 hkv hvv Hq HG HGR HPk HPv
            go_wp2_with fail
            refine HAg.out.mono ?_
            clear HAg
            rintro e w6 ⟨rfl, hb6⟩
            have HB6 : Hid (Below w.heap.size w w6) := HBz.out.trans (hb6.mono HBz.out.size)
            have HZ6 : Hid (TOwn w6 w.heap.size (.slice az ZL cz) zs) := HZ.out.below hb6
            have HQ6 : Hid (ROwn w6 wr.heap.size (.slice (some ⟨qg, 0, none⟩) PL uc) qs) := HQ.out.below hb6
            have HF6 : Hid (FrO w6 w.heap.size (.slice (some ⟨g, 0, none⟩) XL lc) xs) := HFz.out.below hb6
            have HK6 : Hid (Own w6 wr.heap.size (.slice ka KL kc) pk) := HK0z.out.below hb6
            have hqg : qg < wz.heap.size := (World.ownsRow.lt HQ.out.1 qg rfl).2
            have HC6 : Hid (w6.cell? ⟨qg, m * 2, none⟩ = some (.slice ka KL kc)) := (hb6.cell (p := ⟨qg, m * 2, none⟩) hqg).trans HC0.out
            clear hb6 HZ HQ HFz HK0z HC0 hc0 hc1 HBz hqg
            have HOn2 : Hid (([.int .u64 G.c, .bool G.o, .int .i64 (hi G.s), .int .u64 (lo G.s), .int .i64 G.mn, .int .i64 G.mx] : List Value).toArray.all (·.oneCell') = true) := by unfold Hid; kernel_rfl
            go_wp2_with (refine stop_store 41 _ _ rfl ?_)
            refine Stop.of ?_
            refine wpList_storeN rfl _ _ _ rfl w6.heap.size 0 [.int .u64 G.c, .bool G.o, .int .i64 (hi G.s), .int .u64 (lo G.s), .int .i64 G.mn, .int .i64 G.mx] rfl rfl _ _ (heap_alloc_new _ _) (by simp) (by kernel_rfl) HOn2.out ?_
            intro w7 hw7
            obtain ⟨hb7, hx7, hz7⟩ := stW_nw hw7 (by simp)
            have HB7 : Hid (Below w.heap.size w w7) := HB6.out.trans (hb7.mono HB6.out.size)
            have HZ7 : Hid (TOwn w7 w.heap.size (.slice az ZL cz) zs) := HZ6.out.below hb7
            have HQ7 : Hid (ROwn w7 wr.heap.size (.slice (some ⟨qg, 0, none⟩) PL uc) qs) := HQ6.out.below hb7
            have HF7 : Hid (FrO w7 w.heap.size (.slice (some ⟨g, 0, none⟩) XL lc) xs) := HF6.out.below hb7
            have HK7 : Hid (Own w7 wr.heap.size (.slice ka KL kc) pk) := HK6.out.below hb7
            have hqg6 : qg < w6.heap.size := (World.ownsRow.lt HQ6.out.1 qg rfl).2
            have HC7 : Hid (w7.cell? ⟨qg, m * 2, none⟩ = some (.slice ka KL kc)) := (hb7.cell (p := ⟨qg, m * 2, none⟩) hqg6).trans HC6.out
            have HY7 : Hid (w7.heap[w6.heap.size]? = some (.cells #[.int .u64 G.c, .bool G.o, .int .i64 (hi G.s), .int .u64 (lo G.s), .int .i64 G.mn, .int .i64 G.mx] 41)) := hx7
            obtain ⟨z6, HZ6z⟩ : ∃ n, Hid (w6.heap.size = n) := ⟨_, rfl⟩
            rw [HZ6z.out] at HY7 ⊢
            clear hw7 hb7 hx7 HB6 HZ6 HQ6 HF6 HK6 HC6 hqg6 hz7
            by_cases hgr : GR = 0
            · have HTr : Hid (∀ p ∈ ps.take (m + 1), rdR p.2 = 0) := by
                unfold Hid
                rw [HTk.out]
                intro p hp
                rcases List.mem_append.1 hp with hp | hp
                · exact HZk.out p hp
                · simp at hp; subst hp; rw [HQr.out]; exact hgr
              subst hgr
              go_wp2_with fail
              refine wp_region_noPanic ?_
              refine wp_region_held_drew (S := (fun w' => w'.cell? ⟨qg, m * 2, none⟩ = some (.slice ka KL kc) ∧ w'.heap[z6]? = some (.cells #[.int .u64 G.c, .bool G.o, .int .i64 (hi G.s), .int .u64 (lo G.s), .int .i64 G.mn, .int .i64 G.mx] 41))) (by kernel_rfl) ?_ (fun hHeld => ?_)
              · exact ⟨HC7.out, HY7.out⟩
              refine tk (i := 0) (v := .slice az ZL cz) rfl ?_ ?_
              · intro w1 hSw; go_simp
              simp only [za, zc, Act.put, zd, ze, zf]
              refine tk (i := 1) (v := .slice (some ⟨qg, 0, none⟩) PL uc) rfl ?_ ?_
              · intro w1 hSw; go_simp
              simp only [za, zb, zc, Act.put, zd, ze, zf]
              refine tk (i := 2) (v := .int .i64 (m : Int)) rfl ?_ ?_
              · intro w1 hSw; go_simp
              simp only [za, zb, zc, Act.put, zd, ze, zf]
              refine tk (i := 3) (v := .pointer (some ⟨qg, m * 2, none⟩)) rfl ?_ ?_
              · intro w1 hSw; go_simp
              simp only [za, zb, zc, Act.put, zd, ze, zf]
              refine tk (i := 4) (v := .pointer (some ⟨qg, m * 2, none⟩)) rfl ?_ ?_
              · intro w1 hSw; go_simp
              simp only [za, zb, zc, Act.put, zd, ze, zf]
              refine tk (i := 5) (v := .slice ka KL kc) rfl ?_ ?_
              · (intro w1 hSw; (try dsimp only at hSw); (have hcc := hSw.1); go_simp)
              simp only [za, zb, zc, Act.put, zd, ze, zf]
              refine tk (i := 6) (v := .agg #[.int .u64 G.c, .bool G.o, .int .i64 (hi G.s), .int .u64 (lo G.s), .int .i64 G.mn, .int .i64 G.mx]) rfl ?_ ?_
              · (intro w1 hSw; (try dsimp only at hSw); (have q0 := cell_rw hSw.2 0 (by simp); have q1 := cell_rw hSw.2 1 (by simp); have q2 := cell_rw hSw.2 2 (by simp); have q3 := cell_rw hSw.2 3 (by simp); have q4 := cell_rw hSw.2 4 (by simp); have q5 := cell_rw hSw.2 5 (by simp); simp only [List.getElem_toArray, List.getElem_cons_succ, List.getElem_cons_zero] at q0 q1 q2 q3 q4 q5); go_simp)
              simp only [za, zb, zc, Act.put, zd, ze, zf]
              refine tk (i := 7) (v := .agg #[.slice ka KL kc, .int .u64 G.c, .bool G.o, .int .i64 (hi G.s), .int .u64 (lo G.s), .int .i64 G.mn, .int .i64 G.mx]) rfl ?_ ?_
              · intro w1 hSw; go_simp
              simp only [za, zb, zc, Act.put, zd, ze, zf]
              refine wpAnyH_ready (rs := [8]) (by kernel_rfl) (by simp) ?_
              refine AllReadyH.cons (o := _) rfl (fun K hK => ?_) AllReadyH.nil
              go_simp
              obtain ⟨Wc, HWc⟩ := hid_ex ((w7.alloc (.cells #[.slice ka KL kc, .int .u64 G.c, .bool G.o, .int .i64 (hi G.s), .int .u64 (lo G.s), .int .i64 G.mn, .int .i64 G.mx] 43)).drew)
              have hbc : Below w7.heap.size w7 Wc := by rw [HWc.out]; exact ((Below.refl _ _).alloc (Nat.le_refl _) _).drew
              have hxc : Wc.heap[w7.heap.size]? = some (.cells #[.slice ka KL kc, .int .u64 G.c, .bool G.o, .int .i64 (hi G.s), .int .u64 (lo G.s), .int .i64 G.mn, .int .i64 G.mx] 43) := by rw [HWc.out]; exact heap_alloc_new w7 _
              have hqb : ∃ cs, w7.heap[qg]? = some (.cells cs 64) := by
                rcases HQ7.out.1.2 with ⟨q, _⟩ | ⟨g', cp, cur, hv, _, hw, _⟩
                · cases q
                · simp only [Value.slice.injEq, Option.some.injEq, Addr.mk.injEq, and_true] at hv
                  obtain ⟨rfl, _⟩ := hv
                  exact ⟨cur, hw⟩
              obtain ⟨qcs, hqb⟩ := hqb
              have hbz := HB7.out.size
              have HBc : Hid (Below w.heap.size w Wc) := HB7.out.trans (hbc.mono hbz)
              have hqc := (hbc.block qg (Array.getElem?_eq_some_iff.1 hqb).1).trans hqb
              have hyc := (hbc.block z6 (Array.getElem?_eq_some_iff.1 HY7.out).1).trans HY7.out
              have hcc := (hbc.cell (p := ⟨qg, m * 2, none⟩) (Array.getElem?_eq_some_iff.1 hqb).1).trans HC7.out
              have hZc := HZ7.out.below hbc
              obtain ⟨vd, Wd, hrd, ⟨ad, cd, hvd⟩, hTd, hgd, hbd⟩ := hZc.app HBc.out.size (x := ⟨.slice ka KL kc, (pk, G)⟩) ⟨(HK7.out.below hbc).mono hzr, HGo.out⟩ hxc (by rw [HZL.out]; have := HZb.out; omega) 22
              have hkd : KpT (fun T => T ≠ 43) Wc Wd := KpT.grown hZc.1 hgd (fun h => h rfl)
              rw [HZL.out] at hvd
              subst hvd
              have hyd := hkd _ _ _ _ (by decide) hyc
              have hcd : Wd.cell? ⟨qg, m * 2, none⟩ = some (.slice ka KL kc) := (World.cell?_of_block (a := ⟨qg, m * 2, none⟩) ((hkd _ _ _ _ (by decide) hqc).trans hqc.symm)).trans hcc
              have HZd : Hid (TOwn Wd w.heap.size (.slice ad (ZL + 1) cd) (zs ++ [⟨.slice ka KL kc, (pk, G)⟩])) := hTd
              have HQd : Hid (ROwn Wd wr.heap.size (.slice (some ⟨qg, 0, none⟩) PL uc) qs) := (HQ7.out.kpT (KpT.of_below hbc (S := fun _ => True)) trivial trivial).kpT hkd (by decide) (by decide)
              have HFd : Hid (FrO Wd w.heap.size (.slice (some ⟨g, 0, none⟩) XL lc) xs) := (HF7.out.below hbc).kpT hkd (by decide) (by decide)
              have HBd' : Hid (Below w.heap.size w Wd) := HBc.out.trans hbd
              have HZe : Hid ((zs ++ [(⟨.slice ka KL kc, (pk, G)⟩ : Ee)]).map Ee.e = ys.map Ee.e ++ (ps.take (m + 1)).map pr2) := by
                unfold Hid
                rw [List.map_append, HZs.out, HTk.out, List.map_append, List.append_assoc]
                congr 2
                show [(pk, G)] = [pr2 q.p]
                rw [HQp.out]
              rw [← HWc.out]
              clear HWc hxc hbc hqb hZc hTd hgd hbd hkd hbz HZ7 HQ7 HF7 HK7 HBc HC7 hqc
              refine hK.out _ _ ?_ (fun hHeld => ?_)
              · exact ⟨hcc, hyc⟩
              clear hK K
              refine wpAnyH_ready (rs := [9]) (by kernel_rfl) (by simp) ?_
              refine AllReadyH.cons (o := _) rfl (fun K hK => ?_) AllReadyH.nil
              refine wp_app_runT _ _ _ _ (by rfl) (by rfl) _ _ _ (by rfl) (by rfl) hrd ?_
              simp only [za, zb, zc, Act.put, zd, ze, zf]
              refine hK.out _ _ ?_ (fun hHeld => ?_)
              · exact ⟨hcd, hyd⟩
              clear hK K
              refine tk (i := 10) (v := .slice ad (ZL + 1) cd) rfl ?_ ?_
              · intro w1 hSw; go_simp
              simp only [za, zb, zc, Act.put, zd, ze, zf]
              refine wpAnyH_done (by kernel_rfl) ?_ _
              refine NoPanic.normal ?_
              clear hrd hcc hyc hcd hyd
              go_wp2_with fail
              go_roundw
              case rel => exact ⟨m + 1, _, by go_num, HM1.out, HZd, HZe, HTr, HQd, HFd, HBd'⟩
              case measure => have := HM1.out; simp [intOf]; omega
            · have hgb : (GR == 0) = false := by simpa using hgr
              have HNo : Hid (¬ rfOk b) := fun h => hgr (by have := HRk.out.1 (h.1 _ HMem.out) _ HMq.out; rw [HQr.out] at this; exact this)
              clear hgr
              go_wp2_with fail
              go_ret2
              exact ⟨HB7.out, .inr ⟨HNo.out, rfl⟩⟩
          · have hmP' : ¬ (m : Int) < (PL : Int) := by omega
            have hmE : ps.take m = ps := List.take_of_length_le (by rw [HPp.out]; omega)
            rw [hmE] at HZs HZk
            have HRw : Hid (∀ r ∈ (opR b).take (j + 1), rowOk r) := by
              unfold Hid
              rw [HSn.out]
              intro r hr
              rcases List.mem_append.1 hr with hr | hr
              · exact HK0.out r hr
              · simp at hr; subst hr; exact HRk.out.2 HZk.out
            have HYn : Hid (zs.map Ee.e = ((opR b).take (j + 1)).flatMap enF) := by
              unfold Hid
              rw [HSn.out, List.flatMap_append, HZs.out, HY.out]
              simp only [List.flatMap_cons, List.flatMap_nil, List.append_nil, HEn.out]
            clear hmE
            go_wp2_with fail
            go_roundw
            case rel => exact ⟨j + 1, zs, by go_num, by omega, HZ, HYn, HRw, HFz, HBz⟩
            case measure => simp [intOf]; omega
    · have hlt' : ¬ (j : Int) + 3 < (XL : Int) := by omega
      have hjE : (opR b).take j = rfW b := by
        rw [HWf.out]
        by_cases h3 : XL ≤ 3
        · rw [show j = XL - 3 by omega]
        · rw [show j = XL - 3 by omega]
      rw [hjE] at HY HK0
      have HYl : Hid (ys.map Ee.e = rfL b) := HY
      have HL3 : Hid ((rfL b).length ≤ 3000) := by
        have h1 := rfL_bd2 HK0.out
        rw [HBL.out] at h1
        unfold Hid; omega
      have hw := refWr10_any _ (ys.map Ee.e) wr HO.out.reads (fun _ => by rw [HYl.out]; exact HL3.out)
      obtain ⟨E, HE⟩ := hid_ex (twE (rfL b))
      obtain ⟨T, HT⟩ := hid_ex (twB (rfL b))
      rw [HYl.out, ← HE.out, ← HT.out] at hw
      have HW : Hid (Calls Try.prog 8 #[_] wr _) := hw
      have HOk : Hid (rfOk b ↔ E = 0 ∧ T = b) := by
        unfold Hid rfOk
        rw [HE.out, HT.out]
        exact ⟨fun h => h.2, fun h => ⟨HK0.out, h⟩⟩
      obtain ⟨ao, co, hov, hoc, hom⟩ := HO.out.form
      subst hov
      obtain ⟨YL, HYL⟩ : ∃ n, Hid (ys.length = n) := ⟨_, rfl⟩
      rw [HYL.out] at HO hoc HW ⊢
      have hzr := HB.out.size
      clear hjE hw HY HK0 HE HT
      go_wp2_with fail
      refine HW.out.mono ?_
      clear HW
      rintro e w2 ⟨v2, rfl, ho2, hb2⟩
      have HB2 : Hid (Below w.heap.size w w2) := HB.out.trans (hb2.mono hzr)
      have HO2 : Hid (TOwn w2 w.heap.size (.slice ao YL co) ys) := HO.out.below hb2
      have HR2 : Hid (Reads w2 (.slice ba BL bc9) b) := HR.out.below HB2.out
      have HT2 : Hid (Reads w2 v2 T) := ho2.reads
      obtain ⟨ta, tc, htv, _⟩ := ho2.form
      obtain ⟨TL, HTL⟩ : ∃ n, Hid (T.length = n) := ⟨_, rfl⟩
      rw [HTL.out] at htv
      subst htv
      clear ho2 hb2 HO HB HF
      by_cases hE : E = 0
      · subst hE
        have q1 := reads_text HT2.out
        have q2 := reads_text HR2.out
        by_cases hT : T = b
        · have HY : Hid (rfOk b) := HOk.out.2 ⟨rfl, hT⟩
          have hbn : (T != b) = false := by simp [hT]
          have hbe : (T == b) = true := by simp [hT]
          clear hT
          go_wp2_with fail
          go_ret2
          exact ⟨HB2.out, .inl ⟨HY.out, _, ys, rfl, HYl.out, HO2.out⟩⟩
        · have HN : Hid (¬ rfOk b) := fun h => hT (HOk.out.1 h).2
          have hbn : (T != b) = true := by simp [hT]
          have hbe : (T == b) = false := by simp [hT]
          clear hT
          go_wp2_with fail
          go_ret2
          exact ⟨HB2.out, .inr ⟨HN.out, rfl⟩⟩
      · have heb : (E == 0) = false := by simpa using hE
        have HN : Hid (¬ rfOk b) := fun h => hE (HOk.out.1 h).1
        have hen : (E != 0) = true := by simp [hE]
        go_wp2_with fail
        go_ret2
        exact ⟨HB2.out, .inr ⟨HN.out, rfl⟩⟩
end Go.Proofs.Ytlpjdfgknmfmnaa
