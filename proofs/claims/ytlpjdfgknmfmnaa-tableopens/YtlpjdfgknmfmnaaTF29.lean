/- TT4, joined. -/
import Derived.Test.YtlpjdfgknmfmnaaTZ0
import Derived.Test.YtlpjdfgknmfmnaaTF28
/- table: Write of any list: the walk. -/
namespace Go.Proofs.Ytlpjdfgknmfmnaa
open Go.RowKit Go.Shelf
attribute [local go_sem] Oper.semAt_some

set_option maxRecDepth 100000 in
set_option maxHeartbeats 4000000 in
theorem twrite_bad (v : Value) (L : List Et) (w : World) (h : TRd w v L) (hE : tmF L ≠ 0) : Calls Try.prog 7 #[v] w fun e w' => e = .returned (.tuple #[.slice none 0 0, .int .i64 (tmF L)]) ∧ Below w.heap.size w w' := by
  have HM : Hid (Calls Try.prog 15 #[v] w _) := tmayBe_any v L w h
  obtain ⟨a, cap, rfl, _⟩ : ∃ a cap, v = .slice a L.length cap ∧ L.length ≤ cap := by obtain ⟨a, cap, h1, h2, _⟩ := h; exact ⟨a, cap, h1, h2⟩
  obtain ⟨N, HN⟩ : ∃ n, Hid (L.length = n) := ⟨_, rfl⟩
  rw [HN.out] at HM ⊢
  obtain ⟨E, HE⟩ := hid_ex (tmF L)
  rw [← HE.out] at HM hE ⊢
  have h2 : (E != 0) = true := by simpa using hE
  clear h HE
  go_enter Try.func7, Try.ntmps7
  go_wp2_with fail
  refine HM.out.mono ?_
  clear HM
  rintro e w1 ⟨rfl, hb1⟩
  go_wp2_with fail
  go_ret2
  exact ⟨rfl, hb1⟩
set_option maxRecDepth 100000 in
set_option maxHeartbeats 4000000 in
theorem twrite_any (v : Value) (L : List Et) (w : World) (h : TRd w v L) (hT : tmF L = 0) : Calls Try.prog 7 #[v] w fun e w' => ∃ v', e = .returned (.tuple #[v', .int .i64 (twE L)]) ∧ Own w' w.heap.size v' (twB L) ∧ Below w.heap.size w w' := by
  have HM : Hid (Calls Try.prog 15 #[v] w _) := tmayBe_any v L w h
  rw [hT] at HM
  obtain ⟨a, cap, rfl, _⟩ : ∃ a cap, v = .slice a L.length cap ∧ L.length ≤ cap := by obtain ⟨a, cap, h1, h2, _⟩ := h; exact ⟨a, cap, h1, h2⟩
  have HR : Hid (TRd w (.slice a L.length cap) L) := h
  have HT : Hid (TOk L) := tm_ok hT
  have hL := (tm_ok hT).n
  have HI0 : Hid (∀ z W, Below w.heap.size w W → w.heap.size ≤ z → Boxed W z 25 (.slice none 0 0) → Boxed W (z + 1) 47 (.slice none 0 0) → Boxed W (z + 1 + 1) 22 (.slice a L.length cap) → Boxed W (z + 1 + 1 + 1) 3 (.int .i64 16) → IW w z (.slice a L.length cap) L [] W) :=
    fun z W h1 h2 h3 h4 h5 h6 => ⟨⟨_, _, h3, Own.nil _ _, h4, IxR.nil _ _ _ _⟩, h5, h6, h1, h2⟩
  obtain ⟨N, HN⟩ : ∃ n, Hid (L.length = n) := ⟨_, rfl⟩
  rw [HN.out] at HM HR HI0 hL ⊢
  clear h hT
  refine (callsIn_wide (n := 5)).1 (callsIn_of_wp_marks Try.func7 rfl trivial ?_ rfl)
  simp only [Try.ntmps7, List.size_toArray, List.length_cons, List.length_nil, Nat.reduceAdd, Nat.reduceSub, Array.replicate_succ, Array.replicate_zero, List.push_toArray, List.append_toArray, List.nil_append, List.cons_append]
  refine wpIn_wide.2 ?_
  go_wp2_with fail
  refine HM.out.mono ?_
  clear HM
  rintro e w1 ⟨rfl, hb1⟩
  have HB1 : Hid (Below w.heap.size w w1) := hb1
  clear hb1
  go_wp2_with fail
  refine (chunk_any _ _ _ _).mono ?_
  rintro e w2 ⟨rfl, rfl⟩
  simp only [World.size_alloc]
  obtain ⟨W0, HW0⟩ := hid_ex ((((w1.alloc (.cells #[.slice none 0 0] 25)).alloc (.cells #[.slice none 0 0] 47)).alloc (.cells #[.slice a N cap] 22)).alloc (.cells #[.int .i64 16] 3))
  have HO0 : Hid (Boxed W0 w1.heap.size 25 (.slice none 0 0)) := by unfold Hid; rw [HW0.out]; exact (((Boxed.new w1 25 (.slice none 0 0)).alloc _).alloc _).alloc _
  have HX0 : Hid (Boxed W0 (w1.heap.size + 1) 47 (.slice none 0 0)) := by
    unfold Hid; rw [HW0.out]
    have := Boxed.new (w1.alloc (.cells #[.slice none 0 0] 25)) 47 (.slice none 0 0)
    rw [World.size_alloc] at this
    exact (this.alloc _).alloc _
  have HS0 : Hid (Boxed W0 (w1.heap.size + 1 + 1) 22 (.slice a N cap)) := by
    unfold Hid; rw [HW0.out]
    have := Boxed.new ((w1.alloc (.cells #[.slice none 0 0] 25)).alloc (.cells #[.slice none 0 0] 47)) 22 (.slice a N cap)
    rw [World.size_alloc, World.size_alloc] at this
    exact this.alloc _
  have HN0 : Hid (Boxed W0 (w1.heap.size + 1 + 1 + 1) 3 (.int .i64 16)) := by
    unfold Hid; rw [HW0.out]
    have := Boxed.new (((w1.alloc (.cells #[.slice none 0 0] 25)).alloc (.cells #[.slice none 0 0] 47)).alloc (.cells #[.slice a N cap] 22)) 3 (.int .i64 16)
    rw [World.size_alloc, World.size_alloc, World.size_alloc] at this
    exact this
  have HB0 : Hid (Below w.heap.size w W0) := by unfold Hid; rw [HW0.out]; exact HB1.out.trans ((((((Below.refl _ w1).alloc (Nat.le_refl _) _).alloc (by simp) _).alloc (by simp; omega) _).alloc (by simp; omega) _).mono HB1.out.size)
  have hz0 : W0.heap.size = w1.heap.size + 4 := by rw [HW0.out]; simp
  have HIW : Hid (IW w w1.heap.size (.slice a N cap) L [] W0) := HI0.out _ _ HB0.out HB1.out.size HO0.out HX0.out HS0.out HN0.out
  rw [← HW0.out]
  clear HW0 HO0 HX0 HS0 HN0 HI0
  obtain ⟨z, HZ⟩ := hid_ex w1.heap.size
  rw [← HZ.out] at HIW hz0 ⊢
  go_wp2_with fail
  refine (wpIn_wide (n := 5)).1 ?_
  refine wpIn_range_g rfl (by decide) (gf := 50) (lb := #[.pointer (some ⟨z + 1 + 1, 0, none⟩), .pointer (some ⟨z + 1 + 1 + 1, 0, none⟩)]) rfl trivial (enters_of Try.func50 (by kernel_rfl) rfl) (encs := fun x : Value => #[x]) (fun _ => rfl) (IW w z (.slice a N cap) L) (PreT w L) (GT (z + 1 + 1) (z + 1 + 1 + 1) (.slice a N cap)) (fun xs => xs.length = tK N) z (by omega)
    (fun l J W _ hn₀ hJ hG hY h0 => by
      have q := chunk1_in 4 (by decide) z l (z + 1 + 1) (z + 1 + 1 + 1) (.slice a N cap) L w HR.out (by rw [HN.out]; omega) J W hJ hG hY hn₀ h0
      rw [HN.out] at q
      exact q)
    (fun _ _ h => ⟨h.s.cell, h.n.cell⟩) (fun _ _ _ h hk => h.kc hk) (fun _ _ _ _ hp _ => hp) HIW.out
    (fun x => { tmps := #[.slice a N cap, undef, .slice none 0 0, .int .i64 0, .int .i64 0, .pointer (some ⟨z, 0, none⟩), .pointer (some ⟨z + 1, 0, none⟩), x, undef, undef, undef, undef, undef, undef, .slice a N cap, .int .i64 0, .int .i64 0, .bool false, undef, .slice a N cap, .func (.func 50) #[] #[.pointer (some ⟨z + 1 + 1, 0, none⟩), .pointer (some ⟨z + 1 + 1 + 1, 0, none⟩)], x, undef, undef, undef, undef, undef, undef, undef, undef, undef, undef, undef, undef, undef, undef, undef, undef, undef, undef, undef, undef, undef, undef, undef, undef, undef, undef, undef, undef, undef, undef, undef, undef, undef, undef, undef, undef, undef, undef, undef, undef, undef, undef, undef, undef, undef, undef, undef, undef, undef, undef, undef, undef, undef, undef, undef], defers := [] }) ?assign ?body ?done
  case assign =>
    intro l x W K hK
    dsimp only at hK ⊢
    gi_wp2
    exact hK
  case body =>
    rintro l pre x W hI ⟨hTx, hlt⟩ hnW
    obtain ⟨j, HJ⟩ : ∃ n, Hid (pre.length = n) := ⟨_, rfl⟩
    rw [HJ.out] at hTx hlt
    rw [HN.out] at hlt
    obtain ⟨⟨vo, vi, ho1, ho2, hi1, hi2⟩, hs, hn, hB, hz⟩ := hI
    rw [HJ.out] at ho2 hi2
    have hjr : j < (tRows L).length := by rw [tRows_len, HN.out]; exact tK_lt.2 hlt
    have hji : j < (tIdx L).length := by rw [tIdx_len, HN.out]; exact tK_lt.2 hlt
    have HRow : Hid (cat ((tRows L).take (j + 1)) = cat ((tRows L).take j) ++ frm (tRow L j)) := by unfold Hid; rw [cat_snoc _ _ hjr, tRows_at hjr]
    have HIx : Hid ((tIdx L).take (j + 1) = (tIdx L).take j ++ [(tLast L j, u8s (cat ((tRows L).take j)).length)]) := by
      unfold Hid
      rw [List.take_add_one, List.getElem?_eq_getElem hji, tIdx_at hji]
      rfl
    have HOL : Hid ((cat ((tRows L).take j)).length ≤ 1300000) := Nat.le_trans (en_le (tRows L) j) (tCat_len HT.out)
    have HXL : Hid (((tIdx L).take j).length = j) := by unfold Hid; rw [List.length_take]; omega
    have HRW : Hid (wrB (rowP (tCh L j)) = tRow L j) := rfl
    have HRWL : Hid ((tRow L j).length ≤ 4848) := tRow_len HT.out j
    obtain ⟨O, HO⟩ := hid_ex (cat ((tRows L).take j))
    obtain ⟨X, HX⟩ := hid_ex ((tIdx L).take j)
    obtain ⟨R, HRr⟩ := hid_ex (tRow L j)
    rw [← HO.out] at ho2 HRow HIx HOL
    rw [← HX.out] at hi2 HIx HXL
    rw [← HRr.out] at HRow HRW HRWL
    have hE := tCh_len L j
    rw [HN.out] at hE
    obtain ⟨c, HC⟩ := hid_ex (tCh L j)
    obtain ⟨E, HE⟩ : ∃ n, Hid (c.length = n) := ⟨_, rfl⟩
    rw [← HC.out, HE.out] at hE
    rw [← HC.out] at hTx HRW
    have hE0 : 0 < E := by omega
    have hE1 : E ≤ 16 := by omega
    clear hE
    have hla := tLast_of HC.out HE.out hE0
    obtain ⟨ax, cx, rfl, hcx, hmx⟩ : ∃ a cap, x = .slice a E cap ∧ E ≤ cap ∧ cap ≤ maxLen := by obtain ⟨a, cap, h1, h2, h3, _⟩ := hTx; rw [HE.out] at h1 h2; exact ⟨a, cap, h1, h2, h3⟩
    unfold maxLen at hmx
    have HTX : Hid (TRd w (.slice ax E cx) c) := hTx
    obtain ⟨b, off, kv, rfl, hbw, hcs, hrk, _⟩ := hTx.at (j := E - 1) (by rw [HE.out]; omega) rfl
    rw [← hla] at hrk
    clear hla hTx
    obtain ⟨T, HTL⟩ := hid_ex (tLast L j)
    rw [← HTL.out] at hrk HIx
    obtain ⟨ka, kc, rfl, hkm⟩ := hrk.form
    unfold maxLen at hkm
    obtain ⟨KL, HKL⟩ : ∃ n, Hid (T.length = n) := ⟨_, rfl⟩
    rw [HKL.out] at hrk hkm hcs
    have HKr : Hid (Reads w (.slice ka KL kc) T) := hrk
    have c0 := (hB.cell (p := ⟨b, off + (E - 1) * 7 + 0, none⟩) hbw).trans (hcs 0 (by decide))
    simp only [e7, List.getElem_cons_zero, Nat.add_zero] at c0
    have hcI : ((E - 1 : Nat) : Int) = (E : Int) - 1 := by omega
    obtain ⟨ao, co, hvo, _⟩ := ho2.form
    subst hvo
    obtain ⟨ai, ci, hvi⟩ := hi2.form
    subst hvi
    have HJW : Hid (JW w z (.slice a N cap) (.slice ao O.length co) O (.slice ai X.length ci) X W W) := ⟨ho1, ho2, hi1, hi2, hs, hn, hB, hz, KeepsOthers.refl _, Below.refl _ _, hnW⟩
    obtain ⟨OL, HOl⟩ : ∃ n, Hid (O.length = n) := ⟨_, rfl⟩
    rw [HXL.out, HOl.out] at HJW
    rw [HOl.out] at HIx HOL
    have hOL := HOL.out
    have hwu : IntKind.u64.wrap (OL : Int) = (OL : Int) := by rw [IntKind.wrap_u64]; omega
    clear ho1 ho2 hi1 hi2 hs hn hB hrk hcs
    dsimp only
    gi_wp2
    have HJ0 : Hid (JW w z (.slice a N cap) (.slice ao OL co) O (.slice ai j ci) X W W.drew) := HJW.out.drew
    refine wpIn_round_S 10 (fun w' => w'.cell? ⟨z, 0, none⟩ = some (.slice ao OL co)) (fun w' => w'.cell? ⟨z + 1, 0, none⟩ = some (.slice ai j ci)) (by kernel_rfl) (by kernel_rfl) (by rintro ⟨_, _, q⟩; exact q) ?_ ?_ (fun hHeld => ?_)
    · exact HJ0.out.o1.cell
    · exact HJ0.out.i1.cell
    refine wpAnyS_take (i := 0) (v := .slice ai j ci) true rfl (by kernel_rfl) (by kernel_rfl) (by kernel_rfl) (by kernel_rfl) (by kernel_rfl) (by kernel_rfl) (fun _ _ _ h => h) (Or.inl ⟨by rfl, ?_⟩) hHeld (fun hHeld => ?_)
    · (intro w1 hSw; have hSw2 := hSw.2 rfl; have hSw := hSw.1; (try dsimp only at hSw hSw2); go_simp)
    simp only [za, zc, Act.put, zd, ze, zf]
    refine wpAnyS_take (i := 1) (v := .slice ka KL kc) _ rfl (by kernel_rfl) (by kernel_rfl) (by kernel_rfl) (by kernel_rfl) (by kernel_rfl) rfl (fun _ _ _ h => h) (Or.inl ⟨by rfl, ?_⟩) hHeld (fun hHeld => ?_)
    · (intro w1 hSw; have hSw := hSw.1; (try dsimp only at hSw); go_simp)
    simp only [za, zb, zc, Act.put, zd, ze, zf]
    refine wpAnyS_take (i := 2) (v := .slice ao OL co) _ rfl (by kernel_rfl) (by kernel_rfl) (by kernel_rfl) (by kernel_rfl) (by kernel_rfl) rfl (fun _ _ _ h => h) (Or.inl ⟨by rfl, ?_⟩) hHeld (fun hHeld => ?_)
    · (intro w1 hSw; have hSw := hSw.1; (try dsimp only at hSw); go_simp)
    simp only [za, zb, zc, Act.put, zd, ze, zf]
    refine wpAnyS_take (i := 3) (v := .int .i64 (OL : Int)) _ rfl (by kernel_rfl) (by kernel_rfl) (by kernel_rfl) (by kernel_rfl) (by kernel_rfl) rfl (fun _ _ _ h => h) (Or.inl ⟨by rfl, ?_⟩) hHeld (fun hHeld => ?_)
    · (intro w1 hSw; have hSw := hSw.1; (try dsimp only at hSw); go_simp)
    simp only [za, zb, zc, Act.put, zd, ze, zf]
    refine wpAnyS_take (i := 4) (v := .int .u64 (OL : Int)) _ rfl (by kernel_rfl) (by kernel_rfl) (by kernel_rfl) (by kernel_rfl) (by kernel_rfl) rfl (fun _ _ _ h => h) (Or.inl ⟨by rfl, ?_⟩) hHeld (fun hHeld => ?_)
    · (intro w1 hSw; have hSw := hSw.1; (try dsimp only at hSw); go_simp)
    simp only [za, zb, zc, Act.put, zd, ze, zf]
    refine wpAnyS_ready (i := 5) (by kernel_rfl) rfl (fun K hK => ?_)
    go_simp
    obtain ⟨Wa, HWa⟩ := hid_ex ((W.alloc (.cells #[.int .u64 (OL : Int)] 37)).drew)
    have HJa : Hid (JW w z (.slice a N cap) (.slice ao OL co) O (.slice ai j ci) X W Wa) := by unfold Hid; rw [HWa.out]; exact (HJW.out.below ((Below.refl _ _).alloc (Nat.le_refl _) _)).drew
    have hxa : Wa.heap[W.heap.size]? = some (.cells #[.int .u64 (OL : Int)] 37) := by rw [HWa.out]; exact heap_alloc_new _ _
    have HWr : Hid (Calls Try.prog 17 #[.slice (some ⟨W.heap.size, 0, none⟩) 1 1] Wa _) := word1 W.heap.size (OL : Int) (by omega) Wa (Array.getElem?_eq_some_iff.1 hxa).1 (by simp [World.cell?, hxa])
    rw [← HWa.out]
    clear HWa hxa
    refine hK.out _ _ ⟨?_, fun _ => ?_⟩ (fun hHeld => ?_)
    · exact HJa.out.o1.cell
    · exact HJa.out.i1.cell
    clear hK K
    refine wpAnyS_ready (i := 6) (by kernel_rfl) rfl (fun K hK => ?_)
    go_simp
    refine HWr.out.mono ?_
    clear HWr
    rintro e Wb ⟨vb, rfl, hob, hbb⟩
    rw [cells8] at hob
    have HOb : Hid (Own Wb Wa.heap.size vb (u8s OL)) := hob
    have HJb : Hid (JW w z (.slice a N cap) (.slice ao OL co) O (.slice ai j ci) X W Wb) := HJa.out.below hbb
    have HAp : Hid (∀ k, vb.ownBlock = some k → (Value.slice ao OL co).ownBlock ≠ some k) := fun k hk e => by
      have h1 := (World.ownsRow.lt HJa.out.o2 k e).2
      have h2 := (World.ownsRow.lt hob k hk).1
      omega
    obtain ⟨ab, cb, hvb, _⟩ := HOb.out.form
    rw [u8s_len] at hvb
    subst hvb
    have hza : z ≤ Wa.heap.size := HJa.out.zl
    clear hob hbb HJa
    go_simp
    refine hK.out _ _ ⟨?_, fun _ => ?_⟩ (fun hHeld => ?_)
    · exact HJb.out.o1.cell
    · exact HJb.out.i1.cell
    clear hK K
    refine wpAnyS_take (i := 7) (v := .agg #[.slice ka KL kc, .slice ab 8 cb]) _ rfl (by kernel_rfl) (by kernel_rfl) (by kernel_rfl) (by kernel_rfl) (by kernel_rfl) rfl (fun _ _ _ h => h) (Or.inl ⟨by rfl, ?_⟩) hHeld (fun hHeld => ?_)
    · (intro w1 hSw; have hSw := hSw.1; (try dsimp only at hSw); go_simp)
    simp only [za, zb, zc, Act.put, zd, ze, zf]
    refine wpAnyS_ready (i := 8) (by kernel_rfl) rfl (fun K hK => ?_)
    go_simp
    obtain ⟨Wc, HWc⟩ := hid_ex (Wb.alloc (.cells #[.slice ka KL kc, .slice ab 8 cb] 53))
    have hbc : Below Wb.heap.size Wb Wc := by rw [HWc.out]; exact (Below.refl _ _).alloc (Nat.le_refl _) _
    have HJc : Hid (JW w z (.slice a N cap) (.slice ao OL co) O (.slice ai j ci) X W Wc) := HJb.out.below hbc
    have hxc : Wc.heap[Wb.heap.size]? = some (.cells #[.slice ka KL kc, .slice ab 8 cb] 53) := by rw [HWc.out]; exact heap_alloc_new _ _
    obtain ⟨vd, Wd, hrd, ⟨ad, cd, hvd⟩, hd1, hd2, hd3, hJd⟩ := HJc.out.app HKr.out ((HOb.out.below hbc).mono hza) HAp.out hxc (by rw [HXL.out]; omega) 47
    rw [HXL.out] at hvd
    subst hvd
    rw [← HWc.out]
    clear HWc hxc hbc HJb HOb HAp
    have HJd : Hid (JW w z (.slice a N cap) (.slice ao OL co) O (.slice ad (j + 1) cd) (X ++ [(T, u8s OL)]) W (Wd.setCell ⟨z + 1, 0, none⟩ (.slice ad (j + 1) cd))) := hJd
    clear hJd
    refine hK.out _ _ ⟨?_, fun _ => ?_⟩ (fun hHeld => ?_)
    · exact HJc.out.o1.cell
    · exact HJc.out.i1.cell
    clear hK K
    refine wpAnyS_ready (i := 9) (by kernel_rfl) rfl (fun K hK => ?_)
    refine wp_app_runT _ _ _ _ (by rfl) (by rfl) _ _ _ (by rfl) (by rfl) hrd ?_
    simp only [za, zb, zc, Act.put, zd, ze, zf]
    refine hK.out _ _ ⟨?_, fun _ => ?_⟩ (fun hHeld => ?_)
    · exact hd3
    · exact hd1
    clear hK K
    refine wpAnyS_ready (i := 10) (by kernel_rfl) rfl (fun K hK => ?_)
    go_simp
    refine hK.out _ _ ⟨?_, fun hno => absurd hno (by decide)⟩ (fun hHeld => ?_)
    · exact HJd.out.o1.cell
    clear hK K
    refine wpAnyS_done (by kernel_rfl) ?_ _
    refine NoPanic.normal ?_
    obtain ⟨We, HWe⟩ := hid_ex (Wd.setCell ⟨z + 1, 0, none⟩ (.slice ad (j + 1) cd))
    rw [← HWe.out] at HJd hHeld ⊢
    clear HWe hrd hd1 hd2 hd3 HJc HJ0 HJW
    gi_wp2
    have HWt : Hid (Calls Try.prog 19 #[.slice (some ⟨b, off, none⟩) E cx] We.drew _) := written_any _ c We.drew (HTX.out.below ((HJd.out.b).drew)) (by rw [HE.out]; omega)
    rw [HRW.out] at HWt
    have HJe : Hid (JW w z (.slice a N cap) (.slice ao OL co) O (.slice ad (j + 1) cd) (X ++ [(T, u8s OL)]) W We.drew) := HJd.out.drew
    clear HJd
    refine wpIn_round_S 5 (fun w' => w'.cell? ⟨z + 1, 0, none⟩ = some (.slice ad (j + 1) cd)) (fun w' => w'.cell? ⟨z, 0, none⟩ = some (.slice ao OL co)) (by kernel_rfl) (by kernel_rfl) (by rintro ⟨_, _, q⟩; exact q) ?_ ?_ (fun hHeld => ?_)
    · exact HJe.out.i1.cell
    · exact HJe.out.o1.cell
    refine wpAnyS_take (i := 0) (v := .slice ao OL co) true rfl (by kernel_rfl) (by kernel_rfl) (by kernel_rfl) (by kernel_rfl) (by kernel_rfl) (by kernel_rfl) (fun _ _ _ h => h) (Or.inl ⟨by rfl, ?_⟩) hHeld (fun hHeld => ?_)
    · (intro w1 hSw; have hSw2 := hSw.2 rfl; have hSw := hSw.1; (try dsimp only at hSw hSw2); go_simp)
    simp only [za, zc, Act.put, zd, ze, zf]
    refine wpAnyS_take (i := 1) (v := .slice (some ⟨b, off, none⟩) E cx) _ rfl (by kernel_rfl) (by kernel_rfl) (by kernel_rfl) (by kernel_rfl) (by kernel_rfl) rfl (fun _ _ _ h => h) (Or.inl ⟨by rfl, ?_⟩) hHeld (fun hHeld => ?_)
    · (intro w1 hSw; have hSw := hSw.1; (try dsimp only at hSw); go_simp)
    simp only [za, zb, zc, Act.put, zd, ze, zf]
    refine wpAnyS_ready (i := 2) (by kernel_rfl) rfl (fun K hK => ?_)
    go_simp
    refine HWt.out.mono ?_
    clear HWt
    rintro e Wf ⟨vf, rfl, hof, hbf⟩
    have HJf : Hid (JW w z (.slice a N cap) (.slice ao OL co) O (.slice ad (j + 1) cd) (X ++ [(T, u8s OL)]) W Wf) := HJe.out.below hbf
    have HFm : Hid (Calls Try.prog 18 #[vf] Wf _) := framed_reads vf R (by have := HRWL.out; omega) Wf hof.reads
    obtain ⟨af, cf, hvf, _⟩ := hof.form
    subst hvf
    clear hof hbf HJe
    go_simp
    refine hK.out _ _ ⟨?_, fun _ => ?_⟩ (fun hHeld => ?_)
    · exact HJf.out.i1.cell
    · exact HJf.out.o1.cell
    clear hK K
    refine wpAnyS_ready (i := 3) (by kernel_rfl) rfl (fun K hK => ?_)
    go_simp
    refine HFm.out.mono ?_
    clear HFm
    rintro e Wg ⟨vg, rfl, hog, hbg⟩
    have HJg : Hid (JW w z (.slice a N cap) (.slice ao OL co) O (.slice ad (j + 1) cd) (X ++ [(T, u8s OL)]) W Wg) := HJf.out.below hbg
    obtain ⟨vh, Wh, hrh, ⟨ah, ch, hvh⟩, hh1, hh2, hh3, hJh, _⟩ := HJg.out.appO hog.reads (by rw [frm_len]; omega) (by rw [HOl.out, frm_len]; have := HRWL.out; omega) 25
    have HFl : Hid ((O ++ frm R).length = OL + (R.length + 8)) := by unfold Hid; rw [List.length_append, frm_len, HOl.out]
    rw [HFl.out] at hvh
    subst hvh
    have HJh : Hid (JW w z (.slice a N cap) (.slice ah (OL + (R.length + 8)) ch) (O ++ frm R) (.slice ad (j + 1) cd) (X ++ [(T, u8s OL)]) W (Wh.setCell ⟨z, 0, none⟩ (.slice ah (OL + (R.length + 8)) ch))) := hJh
    obtain ⟨ag, cg, hvg, _⟩ := hog.form
    subst hvg
    clear hog hbg HJf hJh
    go_simp
    refine hK.out _ _ ⟨?_, fun _ => ?_⟩ (fun hHeld => ?_)
    · exact HJg.out.i1.cell
    · exact HJg.out.o1.cell
    clear hK K
    refine wpAnyS_ready (i := 4) (by kernel_rfl) rfl (fun K hK => ?_)
    refine wp_app_runT _ _ _ _ (by rfl) (by rfl) _ _ _ (by rfl) (by rfl) hrh ?_
    simp only [za, zb, zc, Act.put, zd, ze, zf]
    refine hK.out _ _ ⟨?_, fun _ => ?_⟩ (fun hHeld => ?_)
    · exact hh3
    · exact hh1
    clear hK K
    refine wpAnyS_ready (i := 5) (by kernel_rfl) rfl (fun K hK => ?_)
    go_simp
    refine hK.out _ _ ⟨?_, fun hno => absurd hno (by decide)⟩ (fun hHeld => ?_)
    · exact HJh.out.i1.cell
    clear hK K
    refine wpAnyS_done (by kernel_rfl) ?_ _
    refine NoPanic.normal ?_
    obtain ⟨Wi, HWi⟩ := hid_ex (Wh.setCell ⟨z, 0, none⟩ (.slice ah (OL + (R.length + 8)) ch))
    rw [← HWi.out] at HJh ⊢
    clear HWi hrh hh1 hh2 hh3 HJg hHeld
    have hq := HJh.out
    have e1 : cat ((tRows L).take (pre ++ [Value.slice (some ⟨b, off, none⟩) E cx]).length) = O ++ frm R := by rw [List.length_append, HJ.out]; exact HRow.out
    have e2 : (tIdx L).take (pre ++ [Value.slice (some ⟨b, off, none⟩) E cx]).length = X ++ [(T, u8s OL)] := by rw [List.length_append, HJ.out]; exact HIx.out
    gi_wp2
    exact ⟨hq.k, hq.bz, ⟨_, _, hq.o1, by rw [e1]; exact hq.o2, hq.i1, by rw [e2]; exact hq.i2⟩, hq.s, hq.n, hq.b, hq.z⟩
  case done =>
    rintro D xs W hD hxs hI hK
    have hTE : twE L = if 65535 < (wrB (tIdx L)).length then 2 else 0 := by unfold twE; rw [if_neg (by rw [tm_of HT.out]; simp)]
    have hIxOk := tIdx_ok HT.out
    have hIxL := tIdx_len_le HT.out
    have hCat := tCat_len HT.out
    have HRmL : Hid ((rmB L).length ≤ 65535) := by
      unfold Hid; rw [rmB_len]; have := (rmN_ok HT.out.n).2.2.1; omega
    have e1 : (tRows L).take xs.length = tRows L := List.take_of_length_le (by rw [tRows_len, hxs, HN.out]; exact Nat.le_refl _)
    have e2 : (tIdx L).take xs.length = tIdx L := List.take_of_length_le (by rw [tIdx_len, hxs, HN.out]; exact Nat.le_refl _)
    obtain ⟨⟨vo, vi, ho1, ho2, hi1, hi2⟩, hs, hn, hB, hz⟩ := hI
    rw [e1] at ho2
    rw [e2] at hi2
    clear e1 e2 hxs
    have HB' : Hid (twB L = if twE L = 0 then cat (tRows L) ++ (frm (wrB (tIdx L)) ++ (frm (rmB L) ++ frm (tFoot L))) else []) := by
      unfold Hid twB tabL
      rw [cat_append]
      simp [cat]
    have HFt : Hid (tFoot L = u8s N ++ u8s (cat (tRows L)).length) := by unfold Hid tFoot; rw [HN.out]
    obtain ⟨O, HO⟩ := hid_ex (cat (tRows L))
    obtain ⟨X, HX⟩ := hid_ex (tIdx L)
    rw [← HO.out] at ho2 hCat HB' HFt
    rw [← HX.out] at hi2 hTE hIxOk hIxL HB'
    obtain ⟨ao, co, hvo, _⟩ := ho2.form
    subst hvo
    obtain ⟨ai, ci, hvi⟩ := hi2.form
    subst hvi
    have hDz : D < W.heap.size := (Array.getElem?_eq_some_iff.1 hK).1
    have HJ : Hid (JW w z (.slice a N cap) (.slice ao O.length co) O (.slice ai X.length ci) X W W) := ⟨ho1, ho2, hi1, hi2, hs, hn, hB, hz, KeepsOthers.refl _, Below.refl _ _, by have := ho1.lt; omega⟩
    have HK : Hid (W.heap[D]? = some (.deferred (some []))) := hK
    have HWr : Hid (Calls Try.prog 20 #[.slice ai X.length ci] W _) := write_any _ X W (hi2.reads hB)
    rw [hIxOk] at HWr
    obtain ⟨P, HP⟩ := hid_ex (wrB X)
    rw [← HP.out] at HWr hTE hIxL HB'
    obtain ⟨OL, HOl⟩ : ∃ n, Hid (O.length = n) := ⟨_, rfl⟩
    obtain ⟨XL, HXl⟩ : ∃ n, Hid (X.length = n) := ⟨_, rfl⟩
    rw [HOl.out] at HJ hCat HFt
    rw [HXl.out] at HJ HWr
    have HTE : Hid (twE L = if 65535 < P.length then 2 else 0) := hTE
    clear ho1 ho2 hi1 hi2 hs hn hB hK hIxOk hTE
    have hc1 := HJ.out.o1.cell
    have hc2 := HJ.out.i1.cell
    go_wp2_with fail
    refine HWr.out.mono ?_
    clear HWr
    rintro e W2 ⟨v2, rfl, ho2, hb2⟩
    have HJ2 : Hid (JW w z (.slice a N cap) (.slice ao OL co) O (.slice ai XL ci) X W W2) := HJ.out.below hb2
    have HR2 : Hid (Reads W2 v2 P) := ho2.reads
    obtain ⟨a2, c2, hv2, _⟩ := ho2.form
    subst hv2
    clear ho2 hb2 hc1 hc2
    by_cases hPl : 65535 < P.length
    · have HFr : Hid (Calls Try.prog 21 #[.slice a2 P.length c2] W2 _) := frame_long _ P hPl W2 HR2.out
      have HTE2 : Hid (twE L = 2) := by unfold Hid; rw [HTE.out, if_pos hPl]
      have HTB2 : Hid (twB L = []) := by unfold Hid; rw [HB'.out, HTE2.out]; rfl
      go_wp2_with fail
      refine HFr.out.mono ?_
      clear HFr
      rintro e W3 ⟨rfl, rfl⟩
      go_wp2_with fail
      have hK2 := HJ2.out.k.same D _ HK.out rfl
      refine ⟨by simp, .inl ⟨_, _, rfl, run_takeDeferred hK2, ?_⟩⟩
      have hpk := Kc.put (n := w.heap.size) (.deferred none) hK2 rfl (by have := HB0.out.size; omega)
      refine ⟨_, results_tmp2 rfl _ _ _, .slice none 0 0, by rw [HTE2.out]; rfl, ?_, HJ2.out.b.trans hpk.b⟩
      rw [HTB2.out]
      exact Own.nil _ _
    · have hPl' : P.length ≤ 65535 := by omega
      have HFr : Hid (Calls Try.prog 21 #[.slice a2 P.length c2] W2 _) := frame_any _ P hPl' W2 HR2.out
      have HTE2 : Hid (twE L = 0) := by unfold Hid; rw [HTE.out, if_neg hPl]
      have HTB2 : Hid (twB L = O ++ (frm P ++ (frm (rmB L) ++ frm (tFoot L)))) := by unfold Hid; rw [HB'.out, HTE2.out, if_pos rfl]
      obtain ⟨RB, HRB⟩ := hid_ex (rmB L)
      obtain ⟨FT, HFT⟩ := hid_ex (tFoot L)
      rw [← HRB.out] at HRmL HTB2
      rw [← HFT.out] at HFt HTB2
      clear HTE HB'
      obtain ⟨FP, HFP⟩ := hid_ex (frm P)
      have HFPl : Hid (FP.length = P.length + 8) := by unfold Hid; rw [HFP.out, frm_len]
      rw [← HFP.out] at HFr HTB2
      go_wp2_with fail
      refine HFr.out.mono ?_
      clear HFr
      rintro e W3 ⟨v3, rfl, ho3, hb3⟩
      have HJ3 : Hid (JW w z (.slice a N cap) (.slice ao OL co) O (.slice ai XL ci) X W W3) := HJ2.out.below hb3
      have HR3 : Hid (Reads W3 v3 FP) := ho3.reads
      obtain ⟨v4, W4, hr4, ⟨a4, c4, hv4⟩, hh1, hh2, hh3, hJ4, _⟩ := HJ3.out.appO HR3.out (by rw [HFPl.out]; omega) (by rw [HOl.out, HFPl.out]; omega) 25
      obtain ⟨O4, HO4⟩ := hid_ex (O ++ FP)
      obtain ⟨L4, HL4⟩ : ∃ n, Hid (O4.length = n) := ⟨_, rfl⟩
      have HL4e : Hid (L4 = OL + (P.length + 8)) := by unfold Hid; rw [← HL4.out, HO4.out, List.length_append, HOl.out, HFPl.out]
      rw [← HO4.out, HL4.out] at hv4
      subst hv4
      rw [← HO4.out] at hJ4
      have HJ4 : Hid (JW w z (.slice a N cap) (.slice a4 L4 c4) O4 (.slice ai XL ci) X W (W4.setCell ⟨z, 0, none⟩ (.slice a4 L4 c4))) := hJ4
      obtain ⟨a3, c3, hv3, _⟩ := ho3.form
      subst hv3
      have hc3 := HJ3.out.o1.cell
      clear ho3 hb3 HJ2 hJ4
      go_wp2_with (at_builtin; refine wpList_app_runT rfl _ _ _ _ (by rfl) (by rfl) _ _ _ (by rfl) (by rfl) hr4 ?_; clear hr4)
      obtain ⟨W5, HW5⟩ := hid_ex (W4.setCell ⟨z, 0, none⟩ (.slice a4 L4 c4))
      rw [← HW5.out] at HJ4 ⊢
      clear HW5 hh1 hh2 hh3 HJ3 hc3 HR3 HR2
      have HJ5 : Hid (JW w z (.slice a N cap) (.slice a4 L4 c4) O4 (.slice ai XL ci) X W W5.drew) := HJ4.out.drew
      have hRm := remembered_any _ L W5.drew (by rw [← HN.out] at HR; exact HR.out.below HJ5.out.b) HT.out.n
      rw [HN.out, ← HRB.out] at hRm
      have HRm : Hid (Calls Try.prog 22 #[.slice a N cap] W5.drew _) := hRm
      clear HJ4 hRm
      refine wp_region_noPanic ?_
      refine wp_region_S 5 (fun _ => True) (fun w' => w'.cell? ⟨z, 0, none⟩ = some (.slice a4 L4 c4)) (by kernel_rfl) ?_ ?_ (fun hHeld => ?_)
      · trivial
      · exact HJ5.out.o1.cell
      refine wpAnyS_take (i := 0) (v := .slice a4 L4 c4) true rfl (by kernel_rfl) (by kernel_rfl) (by kernel_rfl) (by kernel_rfl) (by kernel_rfl) (by kernel_rfl) (fun _ _ _ h => h) (Or.inl ⟨by rfl, ?_⟩) hHeld (fun hHeld => ?_)
      · (intro w1 hSw; have hSw2 := hSw.2 rfl; have hSw := hSw.1; (try dsimp only at hSw hSw2); go_simp)
      simp only [za, zc, Act.put, zd, ze, zf]
      refine wpAnyS_take (i := 1) (v := .slice a N cap) _ rfl (by kernel_rfl) (by kernel_rfl) (by kernel_rfl) (by kernel_rfl) (by kernel_rfl) rfl (fun _ _ _ h => h) (Or.inl ⟨by rfl, ?_⟩) hHeld (fun hHeld => ?_)
      · (intro w1 hSw; have hSw := hSw.1; (try dsimp only at hSw); go_simp)
      simp only [za, zb, zc, Act.put, zd, ze, zf]
      refine wpAnyS_ready (i := 2) (by kernel_rfl) rfl (fun K hK => ?_)
      go_simp
      refine HRm.out.mono ?_
      clear HRm
      rintro e W6 ⟨v6, rfl, ho6, hb6⟩
      have HJ6 : Hid (JW w z (.slice a N cap) (.slice a4 L4 c4) O4 (.slice ai XL ci) X W W6) := HJ5.out.below hb6
      have HFm : Hid (Calls Try.prog 18 #[v6] W6 _) := framed_reads v6 RB HRmL.out W6 ho6.reads
      obtain ⟨FR, HFR⟩ := hid_ex (frm RB)
      have HFRl : Hid (FR.length = RB.length + 8) := by unfold Hid; rw [HFR.out, frm_len]
      rw [← HFR.out] at HFm HTB2
      obtain ⟨a6, c6, hv6, _⟩ := ho6.form
      subst hv6
      clear ho6 hb6 HJ5
      go_simp
      refine hK.out _ _ ⟨?_, fun _ => ?_⟩ (fun hHeld => ?_)
      · trivial
      · exact HJ6.out.o1.cell
      clear hK K
      refine wpAnyS_ready (i := 3) (by kernel_rfl) rfl (fun K hK => ?_)
      go_simp
      refine HFm.out.mono ?_
      clear HFm
      rintro e W7 ⟨v7, rfl, ho7, hb7⟩
      have HJ7 : Hid (JW w z (.slice a N cap) (.slice a4 L4 c4) O4 (.slice ai XL ci) X W W7) := HJ6.out.below hb7
      have HRl := HRmL.out
      obtain ⟨v8, W8, hr8, ⟨a8, c8, hv8⟩, hh1, hh2, hh3, hJ8, _⟩ := HJ7.out.appO ho7.reads (by rw [HFRl.out]; omega) (by rw [HL4.out, HL4e.out, HFRl.out]; omega) 25
      obtain ⟨O8, HO8⟩ := hid_ex (O4 ++ FR)
      obtain ⟨L8, HL8⟩ : ∃ n, Hid (O8.length = n) := ⟨_, rfl⟩
      have HL8e : Hid (L8 = OL + (P.length + 8) + (RB.length + 8)) := by unfold Hid; rw [← HL8.out, HO8.out, List.length_append, HL4.out, HL4e.out, HFRl.out]
      rw [← HO8.out, HL8.out] at hv8
      subst hv8
      rw [← HO8.out] at hJ8
      have HJ8 : Hid (JW w z (.slice a N cap) (.slice a8 L8 c8) O8 (.slice ai XL ci) X W (W8.setCell ⟨z, 0, none⟩ (.slice a8 L8 c8))) := hJ8
      obtain ⟨a7, c7, hv7, _⟩ := ho7.form
      subst hv7
      clear ho7 hb7 HJ6 hJ8 HRl
      go_simp
      refine hK.out _ _ ⟨?_, fun _ => ?_⟩ (fun hHeld => ?_)
      · trivial
      · exact HJ7.out.o1.cell
      clear hK K
      refine wpAnyS_ready (i := 4) (by kernel_rfl) rfl (fun K hK => ?_)
      refine wp_app_runT _ _ _ _ (by rfl) (by rfl) _ _ _ (by rfl) (by rfl) hr8 ?_
      simp only [za, zb, zc, Act.put, zd, ze, zf]
      refine hK.out _ _ ⟨?_, fun _ => ?_⟩ (fun hHeld => ?_)
      · trivial
      · exact hh1
      clear hK K
      refine wpAnyS_ready (i := 5) (by kernel_rfl) rfl (fun K hK => ?_)
      go_simp
      refine hK.out _ _ ⟨?_, fun hno => absurd hno (by decide)⟩ (fun hHeld => ?_)
      · trivial
      clear hK K
      refine wpAnyS_done (by kernel_rfl) ?_ _
      refine NoPanic.normal ?_
      obtain ⟨W9, HW9⟩ := hid_ex (W8.setCell ⟨z, 0, none⟩ (.slice a8 L8 c8))
      rw [← HW9.out] at HJ8 ⊢
      clear HW9 hr8 hh1 hh2 hh3 HJ7 hHeld
      have HJ9 : Hid (JW w z (.slice a N cap) (.slice a8 L8 c8) O8 (.slice ai XL ci) X W W9.drew) := HJ8.out.drew
      have hN : (N : Int) ≤ 4096 := by omega
      have hOL : (OL : Int) ≤ 1300000 := by omega
      have hw1 : IntKind.u64.wrap (N : Int) = (N : Int) := by rw [IntKind.wrap_u64]; omega
      have hw2 : IntKind.u64.wrap (OL : Int) = (OL : Int) := by rw [IntKind.wrap_u64]; omega
      go_wp2_with fail
      refine wp_region_noPanic ?_
      refine wp_region_held_drew (S := fun w' => w'.cell? ⟨z, 0, none⟩ = some (.slice a8 L8 c8)) (by kernel_rfl) ?_ (fun hHeld => ?_)
      · exact HJ9.out.o1.cell
      refine tk (i := 0) (v := .slice a8 L8 c8) rfl ?_ ?_
      · intro w1 hSw; go_simp
      simp only [za, zc, Act.put, zd, ze, zf]
      refine tk (i := 1) (v := .slice a N cap) rfl ?_ ?_
      · intro w1 hSw; go_simp
      simp only [za, zb, zc, Act.put, zd, ze, zf]
      refine tk (i := 2) (v := .int .i64 (N : Int)) rfl ?_ ?_
      · intro w1 hSw; go_simp
      simp only [za, zb, zc, Act.put, zd, ze, zf]
      refine tk (i := 3) (v := .int .u64 (N : Int)) rfl ?_ ?_
      · intro w1 hSw; go_simp
      simp only [za, zb, zc, Act.put, zd, ze, zf]
      refine tk (i := 4) (v := .int .i64 (OL : Int)) rfl ?_ ?_
      · intro w1 hSw; go_simp
      simp only [za, zb, zc, Act.put, zd, ze, zf]
      refine tk (i := 5) (v := .int .u64 (OL : Int)) rfl ?_ ?_
      · intro w1 hSw; go_simp
      simp only [za, zb, zc, Act.put, zd, ze, zf]
      refine wpAnyH_ready (rs := [6]) (by kernel_rfl) (by simp) ?_
      refine AllReadyH.cons (o := _) rfl (fun K hK => ?_) AllReadyH.nil
      go_simp
      obtain ⟨Wa, HWa⟩ := hid_ex ((W9.alloc (.cells #[.int .u64 (N : Int), .int .u64 (OL : Int)] 37)).drew)
      have HJa : Hid (JW w z (.slice a N cap) (.slice a8 L8 c8) O8 (.slice ai XL ci) X W Wa) := by unfold Hid; rw [HWa.out]; exact (HJ8.out.below ((Below.refl _ _).alloc (Nat.le_refl _) _)).drew
      have hxa : Wa.heap[W9.heap.size]? = some (.cells #[.int .u64 (N : Int), .int .u64 (OL : Int)] 37) := by rw [HWa.out]; exact heap_alloc_new _ _
      have HWr : Hid (Calls Try.prog 17 #[.slice (some ⟨W9.heap.size, 0, none⟩) 2 2] Wa _) := word2 W9.heap.size (N : Int) (OL : Int) (by omega) (by omega) Wa (Array.getElem?_eq_some_iff.1 hxa).1 (by simp [World.cell?, hxa]) (by simp [World.cell?, hxa])
      rw [← HWa.out]
      clear HWa hxa HJ9 HJ8
      refine hK.out _ _ ?_ (fun hHeld => ?_)
      · exact HJa.out.o1.cell
      clear hK K
      refine wpAnyH_ready (rs := [7]) (by kernel_rfl) (by simp) ?_
      refine AllReadyH.cons (o := _) rfl (fun K hK => ?_) AllReadyH.nil
      go_simp
      refine HWr.out.mono ?_
      clear HWr
      rintro e Wb ⟨vb, rfl, hob, hbb⟩
      rw [cells16] at hob
      have hob' : Own Wb Wa.heap.size vb FT := by rw [HFt.out]; exact hob
      have HJb : Hid (JW w z (.slice a N cap) (.slice a8 L8 c8) O8 (.slice ai XL ci) X W Wb) := HJa.out.below hbb
      have HFTl : Hid (FT.length = 16) := by unfold Hid; rw [HFt.out, List.length_append, u8s_len, u8s_len]
      have HFm : Hid (Calls Try.prog 18 #[vb] Wb _) := framed_reads vb FT (by rw [HFTl.out]; decide) Wb hob'.reads
      obtain ⟨ab, cb, hvb, _⟩ := hob'.form
      subst hvb
      clear hob hob' hbb HJa
      go_simp
      refine hK.out _ _ ?_ (fun hHeld => ?_)
      · exact HJb.out.o1.cell
      clear hK K
      refine wpAnyH_ready (rs := [8]) (by kernel_rfl) (by simp) ?_
      refine AllReadyH.cons (o := _) rfl (fun K hK => ?_) AllReadyH.nil
      go_simp
      refine HFm.out.mono ?_
      clear HFm
      rintro e Wc ⟨vc, rfl, hoc, hbc⟩
      have HJc : Hid (JW w z (.slice a N cap) (.slice a8 L8 c8) O8 (.slice ai XL ci) X W Wc) := HJb.out.below hbc
      obtain ⟨FF, HFF⟩ := hid_ex (frm FT)
      have HFFl : Hid (FF.length = 24) := by unfold Hid; rw [HFF.out, frm_len, HFTl.out]
      rw [← HFF.out] at hoc HTB2
      have HRc : Hid (Reads Wc vc FF) := hoc.reads
      obtain ⟨ac, cc, hvc, _⟩ := hoc.form
      subst hvc
      clear hoc hbc HJb
      go_simp
      refine hK.out _ _ ?_ (fun hHeld => ?_)
      · exact HJc.out.o1.cell
      clear hK K
      refine wpAnyH_ready (rs := [9]) (by kernel_rfl) (by simp) ?_
      refine AllReadyH.cons (o := _) rfl (fun K hK => ?_) AllReadyH.nil
      obtain ⟨FB, HFB⟩ := hid_ex (O8 ++ FF)
      have HJc' : Hid (JW w z (.slice a N cap) (.slice a8 L8 c8) O8 (.slice ai XL ci) X W Wc) := HJc
      obtain ⟨vd, Wd, hrd, ⟨ad, cd, hvd⟩, hh1, _, _, _, hod, hbd, hkd⟩ := HJc'.out.appO HRc.out (by rw [HFFl.out]; decide) (by rw [HL8.out, HL8e.out, HFFl.out]; have := HRmL.out; omega) 25
      rw [← HFB.out] at hvd hod
      subst hvd
      have HOd : Hid (Own Wd z (.slice ad FB.length cd) FB) := hod
      have HBd : Hid (Below w.heap.size w Wd) := hbd
      have HKd : Hid (Wd.heap[D]? = some (.deferred (some []))) := hkd.same D _ HK.out rfl
      clear hod hbd hkd
      refine wp_app_runT _ _ _ _ (by rfl) (by rfl) _ _ _ (by rfl) (by rfl) hrd ?_
      simp only [za, zb, zc, Act.put, zd, ze, zf]
      refine hK.out _ _ ?_ (fun hHeld => ?_)
      · exact hh1
      clear hK K
      refine tk (i := 10) (v := .slice ad FB.length cd) rfl ?_ ?_
      · intro w1 hSw; go_simp
      simp only [za, zb, zc, Act.put, zd, ze, zf]
      refine tk (i := 11) (v := .int .i64 0) rfl ?_ ?_
      · intro w1 hSw; go_simp
      simp only [za, zb, zc, Act.put, zd, ze, zf]
      refine wpAnyH_done (by kernel_rfl) ?_ _
      refine NoPanic.normal ?_
      go_wp2_with fail
      refine ⟨by simp, .inl ⟨_, _, rfl, run_takeDeferred HKd.out, ?_⟩⟩
      have hpk := Kc.put (n := w.heap.size) (.deferred none) HKd.out rfl (by have := HB0.out.size; omega)
      refine ⟨_, results_tmp2 rfl _ _ _, .slice ad FB.length cd, by rw [HTE2.out]; rfl, ?_, HBd.out.trans hpk.b⟩
      have e : twB L = FB := by rw [HTB2.out, HFB.out, HO8.out, HO4.out, List.append_assoc, List.append_assoc]
      rw [e]
      exact (HOd.out.kcC hpk).mono HJc'.out.z
end Go.Proofs.Ytlpjdfgknmfmnaa
