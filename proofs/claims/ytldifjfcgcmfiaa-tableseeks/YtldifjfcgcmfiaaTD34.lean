/- TLb, joined. -/
import Derived.Test.YtldifjfcgcmfiaaTD33
/- TableBack's walk. -/
namespace Go.Proofs.Ytldifjfcgcmfiaa
open Go.RowKit

set_option maxRecDepth 100000 in
set_option maxHeartbeats 4000000 in
theorem back10_walk (v : Value) (L : List Et) (W : World) (hR : TRd W v L) : Calls Try.prog 3 #[v] W fun e W' => e = .returned (.bool true) ∧ Below W.heap.size W W' := by
  obtain ⟨a, cap, rfl, hc, hm⟩ : ∃ a cap, v = .slice a L.length cap ∧ L.length ≤ cap ∧ cap ≤ maxLen := by obtain ⟨a, cap, h1, h2, h3, _⟩ := hR; exact ⟨a, cap, h1, h2, h3⟩
  unfold maxLen at hm
  have HR : Hid (TRd W (.slice a L.length cap) L) := hR
  have HGr : Hid (Calls Try.prog 7 #[.slice a L.length cap] W _) := great10_any _ L W hR
  have HWr : Hid (Calls Try.prog 9 #[.slice a L.length cap] W _) := twrite_all _ L W hR
  have HAg : Hid (∀ x ∈ L, AgOk x.2) := hR.ag
  obtain ⟨N, HN⟩ : ∃ n, Hid (L.length = n) := ⟨_, rfl⟩
  rw [HN.out] at HR HGr HWr hc ⊢
  obtain ⟨G, HG⟩ := hid_ex (grB L)
  rw [← HG.out] at HGr
  clear hR
  go_enter Try.func3, Try.ntmps3
  go_wp2_with fail
  refine HGr.out.mono ?_
  clear HGr
  rintro e w0 ⟨rfl, rfl⟩
  cases G with
  | true =>
    go_wp2_with fail
    refine (alive10_any w0).mono ?_
    rintro e w1 ⟨rfl, hb1⟩
    go_wp2_with fail
    go_ret
    exact ⟨rfl, hb1⟩
  | false =>
    have HGn : Hid ((L.length ≤ 80 ∨ (4096 < L.length ∧ L.length ≤ 5000)) ∧ ∀ x ∈ L, x.1.length ≤ 1000) := gr_no HG.out.symm
    obtain ⟨E, HE⟩ := hid_ex (twE L)
    obtain ⟨T, HT⟩ := hid_ex (twB L)
    rw [← HE.out, ← HT.out] at HWr
    go_wp2_with fail
    refine HWr.out.mono ?_
    clear HWr
    rintro e w1 ⟨v1, rfl, ho1, hb1⟩
    have HB1 : Hid (Below w0.heap.size w0 w1) := hb1
    by_cases hE : E = 0
    · subst hE
      have HOp : Hid (twE L = 0) := HE.out.symm
      obtain ⟨hL, hK⟩ := op_back HOp.out HAg.out
      have hfew := twE_few HOp.out HGn.out.1
      have hOpen := topen_any v1 T w1 ho1.reads (by rw [HT.out]; exact twB_len HOp.out hfew)
      rw [HT.out] at hOpen
      have HOpn : Hid (Calls Try.prog 10 #[v1] w1 fun e w' => Below w1.heap.size w1 w' ∧ ∃ B, e = .returned (.tuple #[.pointer (some ⟨B, 0, none⟩), .int .i64 0]) ∧ Tb w' w1.heap.size B L) := by
        refine hOpen.mono ?_
        rintro e w' ⟨h1, ⟨_, B, h2, h3⟩ | ⟨h2, _⟩⟩
        · rw [hL] at h3; exact ⟨h1, B, h2, h3⟩
        · exact absurd hK h2
      obtain ⟨a1, c1, rfl, _⟩ := ho1.form
      have hN80 : N ≤ 80 := by rw [← HN.out]; exact hfew
      clear hL hK hOpen ho1 hb1 hfew HE HT
      go_wp2_with fail
      refine HOpn.out.mono ?_
      clear HOpn
      rintro e w2 ⟨hb2, B, rfl, hTb⟩
      have HB2 : Hid (Below w0.heap.size w0 w2) := HB1.out.trans (hb2.mono HB1.out.size)
      have HTb : Hid (Tb w2 w1.heap.size B L) := hTb
      have HAl : Hid (Calls Try.prog 12 #[.pointer (some ⟨B, 0, none⟩)] w2 (FiP w2 L)) := tall_any hTb
      have hnn : (decide (some (⟨B, 0, none⟩ : Addr) = none)) = false := by simp
      clear hTb hb2
      go_wp2_with fail
      refine HAl.out.mono ?_
      clear HAl
      rintro e w3 ⟨v3, xs, rfl, hxs, hto, hb3⟩
      have HB3 : Hid (Below w0.heap.size w0 w3) := HB2.out.trans (hb3.mono HB2.out.size)
      have HTb3 : Hid (Tb w3 w1.heap.size B L) := HTb.out.below hb3
      have hSm := same10_true v3 (.slice a L.length cap) L w3 (by rw [← hxs]; exact hto.reads) (by rw [← HN.out] at HR; exact HR.out.below HB3.out)
      rw [HN.out] at hSm
      have HSm : Hid (Calls Try.prog 11 #[v3, .slice a N cap] w3 _) := hSm
      obtain ⟨a3, c3, rfl, _⟩ := hto.form
      clear hSm hto hxs hb3 HTb HB2
      go_wp2_with fail
      refine HSm.out.mono ?_
      clear HSm
      rintro e w4 ⟨rfl, hb4⟩
      have HB4 : Hid (Below w0.heap.size w0 w4) := HB3.out.trans (hb4.mono HB3.out.size)
      have HTb4 : Hid (Tb w4 w1.heap.size B L) := HTb3.out.below hb4
      clear hb4 HTb3 HB3
      go_wp2_with fail
      go_loopw [7] (fun i wr => ∃ j : Nat, i = .int .i64 (j : Int) ∧ j ≤ N ∧ Hid (Tb wr w1.heap.size B L) ∧ Hid (Below w0.heap.size w0 wr)) (fun i _ => N - (intOf i).toNat)
      case atStart => exact ⟨0, rfl, by omega, HTb4, HB4⟩
      case round =>
        clear HTb4 HB4
        obtain ⟨j, rfl, hj, HTb, HB⟩ := hrel
        by_cases hlt : j < N
        · have hlt' : (j : Int) < (N : Int) := by omega
          have hjl : j < L.length := by rw [HN.out]; exact hlt
          obtain ⟨x, Hx⟩ := hid_ex L[j]
          have HGo : Hid (gtT L x.1 = some x.2 ∧ tmyF L x.1 = true) := ⟨by rw [Hx.out]; exact get_own HTb.out.ok hjl, by rw [Hx.out]; exact my_own HTb.out.ok (List.getElem_mem hjl)⟩
          obtain ⟨b, off, kv, rfl, hbw, hcs, hrk, _⟩ := (HR.out.below HB.out).at hjl Hx.out
          obtain ⟨k, A⟩ := x
          have HxK : Hid ((k, A) = L[j]) := Hx.out
          simp only at hcs hrk HGo
          have hGt := tget_any HTb.out kv k hrk
          rw [HGo.out.1] at hGt
          obtain ⟨ka, kc, rfl, hkm⟩ := hrk.form
          obtain ⟨KL, HKL⟩ : ∃ n, Hid (k.length = n) := ⟨_, rfl⟩
          rw [HKL.out] at hcs hGt hrk
          have HKr : Hid (Reads wr (.slice ka KL kc) k) := hrk
          have HGt : Hid (Calls Try.prog 13 #[.pointer (some ⟨B, 0, none⟩), .slice ka KL kc] wr (GtP wr (some A))) := hGt
          have c0 := hcs 0 (by decide)
          have c1 := hcs (1 + 0) (by decide)
          have c2 := hcs (1 + 1) (by decide)
          have c3 := hcs (1 + 2) (by decide)
          have c4 := hcs (1 + 3) (by decide)
          have c5 := hcs (1 + 4) (by decide)
          have c6 := hcs (1 + 5) (by decide)
          simp only [e7, List.getElem_cons_succ, List.getElem_cons_zero, Nat.add_zero, Nat.reduceAdd] at c0 c1 c2 c3 c4 c5 c6
          clear hGt hrk hcs Hx
          go_wp2_with fail
          refine HGt.out.mono ?_
          clear HGt
          rintro e w5 ⟨rfl, hb5, _⟩
          have HB5 : Hid (Below w0.heap.size w0 w5) := HB.out.trans (hb5.mono HB.out.size)
          have HTb5 : Hid (Tb w5 w1.heap.size B L) := HTb.out.below hb5
          rw [show agV (gtA (some A)) = .agg #[.int .u64 A.c, .bool A.o, .int .i64 (hi A.s), .int .u64 (lo A.s), .int .i64 A.mn, .int .i64 A.mx] from rfl, show (some A : Option Ag).isSome = true from rfl]
          clear hb5 c0 c1 c2 c3 c4 c5 c6 HTb HB HKr
          have HOn : Hid (([.int .u64 A.c, .bool A.o, .int .i64 (hi A.s), .int .u64 (lo A.s), .int .i64 A.mn, .int .i64 A.mx] : List Value).toArray.all (·.oneCell') = true) := by unfold Hid; kernel_rfl
          go_wp2_with (refine stop_store 38 _ _ rfl ?_)
          refine Stop.of ?_
          refine wpList_storeN rfl _ _ _ rfl w5.heap.size 0 [.int .u64 A.c, .bool A.o, .int .i64 (hi A.s), .int .u64 (lo A.s), .int .i64 A.mn, .int .i64 A.mx] rfl rfl _ _ (heap_alloc_new _ _) (by simp) (by kernel_rfl) HOn.out ?_
          intro w6 hw6
          obtain ⟨hb6, hx6, _⟩ := stW_nw hw6 (by simp)
          have HB6 : Hid (Below w0.heap.size w0 w6) := HB5.out.trans (hb6.mono HB5.out.size)
          have HTb6 : Hid (Tb w6 w1.heap.size B L) := HTb5.out.below hb6
          have q0 := cell_rw hx6 0 (by simp)
          have q1 := cell_rw hx6 1 (by simp)
          have q2 := cell_rw hx6 2 (by simp)
          have q3 := cell_rw hx6 3 (by simp)
          have q4 := cell_rw hx6 4 (by simp)
          have q5 := cell_rw hx6 5 (by simp)
          simp only [List.getElem_toArray, List.getElem_cons_succ, List.getElem_cons_zero] at q0 q1 q2 q3 q4 q5
          obtain ⟨b', off', kv', hbb, hbw, hcs, hrk, _⟩ := (HR.out.below HB6.out).at hjl rfl
          simp only [Option.some.injEq, Addr.mk.injEq, and_true] at hbb
          obtain ⟨rfl, rfl⟩ := hbb
          rw [← HxK.out] at hcs hrk
          simp only at hcs hrk
          have hMy := tmay_any HTb6.out kv' k hrk
          rw [HGo.out.2] at hMy
          obtain ⟨ka', kc', rfl, _⟩ := hrk.form
          rw [HKL.out] at hcs hMy
          have HMy : Hid (Calls Try.prog 14 #[.pointer (some ⟨B, 0, none⟩), .slice ka' KL kc'] w6 _) := hMy
          have c0 := hcs 0 (by decide)
          have c1 := hcs (1 + 0) (by decide)
          have c2 := hcs (1 + 1) (by decide)
          have c3 := hcs (1 + 2) (by decide)
          have c4 := hcs (1 + 3) (by decide)
          have c5 := hcs (1 + 4) (by decide)
          have c6 := hcs (1 + 5) (by decide)
          simp only [e7, List.getElem_cons_succ, List.getElem_cons_zero, Nat.add_zero, Nat.reduceAdd] at c0 c1 c2 c3 c4 c5 c6
          have HCs : Hid (w6.drew.cell? ⟨w5.heap.size, 0, none⟩ = some (.int .u64 A.c) ∧ w6.drew.cell? ⟨w5.heap.size, 1, none⟩ = some (.bool A.o) ∧ w6.drew.cell? ⟨w5.heap.size, 2, none⟩ = some (.int .i64 (hi A.s)) ∧ w6.drew.cell? ⟨w5.heap.size, 3, none⟩ = some (.int .u64 (lo A.s)) ∧ w6.drew.cell? ⟨w5.heap.size, 4, none⟩ = some (.int .i64 A.mn) ∧ w6.drew.cell? ⟨w5.heap.size, 5, none⟩ = some (.int .i64 A.mx)) := ⟨q0, q1, q2, q3, q4, q5⟩
          have HDs : Hid (w6.drew.cell? ⟨b, off + j * 7, none⟩ = some (.slice ka' KL kc') ∧ w6.drew.cell? ⟨b, off + j * 7 + 1, none⟩ = some (.int .u64 A.c) ∧ w6.drew.cell? ⟨b, off + j * 7 + 2, none⟩ = some (.bool A.o) ∧ w6.drew.cell? ⟨b, off + j * 7 + 3, none⟩ = some (.int .i64 (hi A.s)) ∧ w6.drew.cell? ⟨b, off + j * 7 + 4, none⟩ = some (.int .u64 (lo A.s)) ∧ w6.drew.cell? ⟨b, off + j * 7 + 5, none⟩ = some (.int .i64 A.mn) ∧ w6.drew.cell? ⟨b, off + j * 7 + 6, none⟩ = some (.int .i64 A.mx)) := ⟨c0, c1, c2, c3, c4, c5, c6⟩
          have HBz : Hid (w5.heap.size < w6.drew.heap.size ∧ b < w6.drew.heap.size) := ⟨(Array.getElem?_eq_some_iff.1 hx6).1, hbw⟩
          have HB6' : Hid (Below w0.heap.size w0 w6.drew) := HB6.out.drew
          have HTb6' : Hid (Tb w6.drew w1.heap.size B L) := HTb6.out.below (Below.refl _ _).drew
          have hMy2 := tmay_any HTb6'.out (.slice ka' k.length kc') k (hrk.below (Below.refl _ _).drew)
          rw [HGo.out.2, HKL.out] at hMy2
          have HMy2 : Hid (Calls Try.prog 14 #[.pointer (some ⟨B, 0, none⟩), .slice ka' KL kc'] w6.drew _) := hMy2
          clear hMy HMy hMy2 hrk hcs hw6 hb6 hx6 HB5 HTb5 c0 c1 c2 c3 c4 c5 c6 q0 q1 q2 q3 q4 q5
          go_wp2_with fail
          refine wp_region_noPanic ?_
          refine wp_region_held_drew (S := fun w' => Below w6.drew.heap.size w6.drew w') (by kernel_rfl) ?_ (fun hHeld => ?_)
          · exact Below.refl _ _
          refine wpAnyH_take (i := 0) (v := .bool true) rfl (by kernel_rfl) (by kernel_rfl) (by kernel_rfl) (fun _ _ _ h => h) (Or.inl ⟨by rfl, ?_⟩) (by assumption) ?_
          · (intro w1 hSw; (try dsimp only at hSw); go_simp)
          simp only [List.getElem_toArray, List.getElem_cons_zero, Act.put, List.setIfInBounds_toArray, List.set_cons_zero, List.set_cons_succ]
          refine wpAnyH_take (i := 1) (v := .bool false) rfl (by kernel_rfl) (by kernel_rfl) (by kernel_rfl) (fun _ _ _ h => h) (Or.inl ⟨by rfl, ?_⟩) (by assumption) ?_
          · (intro w1 hSw; (try dsimp only at hSw); go_simp)
          simp only [List.getElem_toArray, List.getElem_cons_succ, List.getElem_cons_zero, Act.put, List.setIfInBounds_toArray, List.set_cons_zero, List.set_cons_succ]
          refine wpAnyH_take (i := 2) (v := .bool false) rfl (by kernel_rfl) (by kernel_rfl) (by kernel_rfl) (fun _ _ _ h => h) (Or.inl ⟨by rfl, ?_⟩) (by assumption) ?_
          · (intro w1 hSw; (try dsimp only at hSw); go_simp)
          simp only [List.getElem_toArray, List.getElem_cons_succ, List.getElem_cons_zero, Act.put, List.setIfInBounds_toArray, List.set_cons_zero, List.set_cons_succ]
          refine wpAnyH_take (i := 3) (v := .agg #[.int .u64 A.c, .bool A.o, .int .i64 (hi A.s), .int .u64 (lo A.s), .int .i64 A.mn, .int .i64 A.mx]) rfl (by kernel_rfl) (by kernel_rfl) (by kernel_rfl) (fun _ _ _ h => h) (Or.inl ⟨by rfl, ?_⟩) (by assumption) ?_
          · (intro w1 hSw; (try dsimp only at hSw); have h0 := (hSw.cell (p := ⟨w5.heap.size, 0, none⟩) HBz.out.1).trans HCs.out.1; have h1 := (hSw.cell (p := ⟨w5.heap.size, 1, none⟩) HBz.out.1).trans HCs.out.2.1; have h2 := (hSw.cell (p := ⟨w5.heap.size, 2, none⟩) HBz.out.1).trans HCs.out.2.2.1; have h3 := (hSw.cell (p := ⟨w5.heap.size, 3, none⟩) HBz.out.1).trans HCs.out.2.2.2.1; have h4 := (hSw.cell (p := ⟨w5.heap.size, 4, none⟩) HBz.out.1).trans HCs.out.2.2.2.2.1; have h5 := (hSw.cell (p := ⟨w5.heap.size, 5, none⟩) HBz.out.1).trans HCs.out.2.2.2.2.2; go_simp)
          simp only [List.getElem_toArray, List.getElem_cons_succ, List.getElem_cons_zero, Act.put, List.setIfInBounds_toArray, List.set_cons_zero, List.set_cons_succ]
          refine wpAnyH_take (i := 4) (v := .slice (some ⟨b, off, none⟩) N cap) rfl (by kernel_rfl) (by kernel_rfl) (by kernel_rfl) (fun _ _ _ h => h) (Or.inl ⟨by rfl, ?_⟩) (by assumption) ?_
          · (intro w1 hSw; (try dsimp only at hSw); go_simp)
          simp only [List.getElem_toArray, List.getElem_cons_succ, List.getElem_cons_zero, Act.put, List.setIfInBounds_toArray, List.set_cons_zero, List.set_cons_succ]
          refine wpAnyH_take (i := 5) (v := .int .i64 (j : Int)) rfl (by kernel_rfl) (by kernel_rfl) (by kernel_rfl) (fun _ _ _ h => h) (Or.inl ⟨by rfl, ?_⟩) (by assumption) ?_
          · (intro w1 hSw; (try dsimp only at hSw); go_simp)
          simp only [List.getElem_toArray, List.getElem_cons_succ, List.getElem_cons_zero, Act.put, List.setIfInBounds_toArray, List.set_cons_zero, List.set_cons_succ]
          refine wpAnyH_take (i := 6) (v := .pointer (some ⟨b, off + j * 7, none⟩)) rfl (by kernel_rfl) (by kernel_rfl) (by kernel_rfl) (fun _ _ _ h => h) (Or.inl ⟨by rfl, ?_⟩) (by assumption) ?_
          · (intro w1 hSw; (try dsimp only at hSw); go_simp)
          simp only [List.getElem_toArray, List.getElem_cons_succ, List.getElem_cons_zero, Act.put, List.setIfInBounds_toArray, List.set_cons_zero, List.set_cons_succ]
          refine wpAnyH_take (i := 7) (v := .pointer (some ⟨b, off + j * 7 + 1, none⟩)) rfl (by kernel_rfl) (by kernel_rfl) (by kernel_rfl) (fun _ _ _ h => h) (Or.inl ⟨by rfl, ?_⟩) (by assumption) ?_
          · (intro w1 hSw; (try dsimp only at hSw); go_simp)
          simp only [List.getElem_toArray, List.getElem_cons_succ, List.getElem_cons_zero, Act.put, List.setIfInBounds_toArray, List.set_cons_zero, List.set_cons_succ]
          refine wpAnyH_take (i := 8) (v := .agg #[.int .u64 A.c, .bool A.o, .int .i64 (hi A.s), .int .u64 (lo A.s), .int .i64 A.mn, .int .i64 A.mx]) rfl (by kernel_rfl) (by kernel_rfl) (by kernel_rfl) (fun _ _ _ h => h) (Or.inl ⟨by rfl, ?_⟩) (by assumption) ?_
          · (intro w1 hSw; (try dsimp only at hSw); have h0 := (hSw.cell (p := ⟨b, off + j * 7 + 1, none⟩) HBz.out.2).trans HDs.out.2.1; have h1 := (hSw.cell (p := ⟨b, off + j * 7 + 2, none⟩) HBz.out.2).trans HDs.out.2.2.1; have h2 := (hSw.cell (p := ⟨b, off + j * 7 + 3, none⟩) HBz.out.2).trans HDs.out.2.2.2.1; have h3 := (hSw.cell (p := ⟨b, off + j * 7 + 4, none⟩) HBz.out.2).trans HDs.out.2.2.2.2.1; have h4 := (hSw.cell (p := ⟨b, off + j * 7 + 5, none⟩) HBz.out.2).trans HDs.out.2.2.2.2.2.1; have h5 := (hSw.cell (p := ⟨b, off + j * 7 + 6, none⟩) HBz.out.2).trans HDs.out.2.2.2.2.2.2; go_simp)
          simp only [List.getElem_toArray, List.getElem_cons_succ, List.getElem_cons_zero, Act.put, List.setIfInBounds_toArray, List.set_cons_zero, List.set_cons_succ]
          refine wpAnyH_take (i := 9) (v := .bool false) rfl (by kernel_rfl) (by kernel_rfl) (by kernel_rfl) (fun _ _ _ h => h) (Or.inl ⟨by rfl, ?_⟩) (by assumption) ?_
          · (intro w1 hSw; (try dsimp only at hSw); go_simp)
          simp only [List.getElem_toArray, List.getElem_cons_succ, List.getElem_cons_zero, Act.put, List.setIfInBounds_toArray, List.set_cons_zero, List.set_cons_succ]
          refine wpAnyH_take (i := 10) (v := .bool false) rfl (by kernel_rfl) (by kernel_rfl) (by kernel_rfl) (fun _ _ _ h => h) (Or.inl ⟨by rfl, ?_⟩) (by assumption) ?_
          · (intro w1 hSw; (try dsimp only at hSw); go_simp)
          simp only [List.getElem_toArray, List.getElem_cons_succ, List.getElem_cons_zero, Act.put, List.setIfInBounds_toArray, List.set_cons_zero, List.set_cons_succ]
          refine wpAnyH_take (i := 11) (v := .bool false) rfl (by kernel_rfl) (by kernel_rfl) (by kernel_rfl) (fun _ _ _ h => h) (Or.inl ⟨by rfl, ?_⟩) (by assumption) ?_
          · (intro w1 hSw; (try dsimp only at hSw); go_simp)
          simp only [List.getElem_toArray, List.getElem_cons_succ, List.getElem_cons_zero, Act.put, List.setIfInBounds_toArray, List.set_cons_zero, List.set_cons_succ]
          refine wpAnyH_take (i := 12) (v := .pointer (some ⟨B, 0, none⟩)) rfl (by kernel_rfl) (by kernel_rfl) (by kernel_rfl) (fun _ _ _ h => h) (Or.inl ⟨by rfl, ?_⟩) (by assumption) ?_
          · (intro w1 hSw; (try dsimp only at hSw); go_simp)
          simp only [List.getElem_toArray, List.getElem_cons_succ, List.getElem_cons_zero, Act.put, List.setIfInBounds_toArray, List.set_cons_zero, List.set_cons_succ]
          refine wpAnyH_take (i := 13) (v := .slice (some ⟨b, off, none⟩) N cap) rfl (by kernel_rfl) (by kernel_rfl) (by kernel_rfl) (fun _ _ _ h => h) (Or.inl ⟨by rfl, ?_⟩) (by assumption) ?_
          · (intro w1 hSw; (try dsimp only at hSw); go_simp)
          simp only [List.getElem_toArray, List.getElem_cons_succ, List.getElem_cons_zero, Act.put, List.setIfInBounds_toArray, List.set_cons_zero, List.set_cons_succ]
          refine wpAnyH_take (i := 14) (v := .int .i64 (j : Int)) rfl (by kernel_rfl) (by kernel_rfl) (by kernel_rfl) (fun _ _ _ h => h) (Or.inl ⟨by rfl, ?_⟩) (by assumption) ?_
          · (intro w1 hSw; (try dsimp only at hSw); go_simp)
          simp only [List.getElem_toArray, List.getElem_cons_succ, List.getElem_cons_zero, Act.put, List.setIfInBounds_toArray, List.set_cons_zero, List.set_cons_succ]
          refine wpAnyH_take (i := 15) (v := .pointer (some ⟨b, off + j * 7, none⟩)) rfl (by kernel_rfl) (by kernel_rfl) (by kernel_rfl) (fun _ _ _ h => h) (Or.inl ⟨by rfl, ?_⟩) (by assumption) ?_
          · (intro w1 hSw; (try dsimp only at hSw); go_simp)
          simp only [List.getElem_toArray, List.getElem_cons_succ, List.getElem_cons_zero, Act.put, List.setIfInBounds_toArray, List.set_cons_zero, List.set_cons_succ]
          refine wpAnyH_take (i := 16) (v := .pointer (some ⟨b, off + j * 7, none⟩)) rfl (by kernel_rfl) (by kernel_rfl) (by kernel_rfl) (fun _ _ _ h => h) (Or.inl ⟨by rfl, ?_⟩) (by assumption) ?_
          · (intro w1 hSw; (try dsimp only at hSw); go_simp)
          simp only [List.getElem_toArray, List.getElem_cons_succ, List.getElem_cons_zero, Act.put, List.setIfInBounds_toArray, List.set_cons_zero, List.set_cons_succ]
          refine wpAnyH_take (i := 17) (v := .slice ka' KL kc') rfl (by kernel_rfl) (by kernel_rfl) (by kernel_rfl) (fun _ _ _ h => h) (Or.inl ⟨by rfl, ?_⟩) (by assumption) ?_
          · (intro w1 hSw; (try dsimp only at hSw); have h0 := (hSw.cell (p := ⟨b, off + j * 7, none⟩) HBz.out.2).trans HDs.out.1; go_simp)
          simp only [List.getElem_toArray, List.getElem_cons_succ, List.getElem_cons_zero, Act.put, List.setIfInBounds_toArray, List.set_cons_zero, List.set_cons_succ]
          refine wpAnyH_ready (rs := [18]) (by kernel_rfl) (by simp) ?_
          refine AllReadyH.cons (o := _) rfl (fun K hK => ?_) AllReadyH.nil
          go_simp
          refine HMy2.out.mono ?_
          clear HMy2
          rintro e w7 ⟨rfl, hb7⟩
          go_simp
          refine hK.out _ _ ?_ (fun hHeld => ?_)
          · exact hb7
          clear hK K
          refine wpAnyH_take (i := 19) (v := .bool false) rfl (by kernel_rfl) (by kernel_rfl) (by kernel_rfl) (fun _ _ _ h => h) (Or.inl ⟨by rfl, ?_⟩) (by assumption) ?_
          · (intro w1 hSw; (try dsimp only at hSw); go_simp)
          simp only [List.getElem_toArray, List.getElem_cons_succ, List.getElem_cons_zero, Act.put, List.setIfInBounds_toArray, List.set_cons_zero, List.set_cons_succ]
          refine wpAnyH_take (i := 20) (v := .bool false) rfl (by kernel_rfl) (by kernel_rfl) (by kernel_rfl) (fun _ _ _ h => h) (Or.inl ⟨by rfl, ?_⟩) (by assumption) ?_
          · (intro w1 hSw; (try dsimp only at hSw); go_simp)
          simp only [List.getElem_toArray, List.getElem_cons_succ, List.getElem_cons_zero, Act.put, List.setIfInBounds_toArray, List.set_cons_zero, List.set_cons_succ]
          refine wpAnyH_done (by kernel_rfl) ?_ _
          refine NoPanic.normal ?_
          have HB7 : Hid (Below w0.heap.size w0 w7) := HB6'.out.trans (hb7.mono HB6'.out.size)
          have HTb7 : Hid (Tb w7 w1.heap.size B L) := HTb6'.out.below hb7
          clear hb7 hHeld
          go_wp2_with fail
          go_roundw
          case rel => exact ⟨j + 1, by go_num, by omega, HTb7, HB7⟩
          case measure => simp [intOf]; omega
        · have hlt' : ¬ (j : Int) < (N : Int) := by omega
          go_wp2_with fail
          refine (alive10_any wr).mono ?_
          rintro e w5 ⟨rfl, hb5⟩
          have HB5 : Hid (Below w0.heap.size w0 w5) := HB.out.trans (hb5.mono HB.out.size)
          clear hb5
          go_wp2_with fail
          go_ret
          exact ⟨rfl, HB5.out⟩
    · have HTe : Hid (T = []) := by
        unfold Hid
        rw [HT.out]; unfold twB
        rw [if_neg (by rw [← HE.out]; exact hE)]
      have hE2 : (E != 0) = true := by simpa using hE
      rw [HTe.out] at ho1
      obtain ⟨a1, c1, rfl, _⟩ := ho1.form
      clear ho1 hb1 HE HT
      simp only [List.length_nil]
      go_wp2_with fail
      refine (alive10_any w1).mono ?_
      rintro e w2 ⟨rfl, hb2⟩
      have HB2 : Hid (Below w0.heap.size w0 w2) := HB1.out.trans (hb2.mono HB1.out.size)
      clear hb2
      go_wp2_with fail
      go_ret
      exact ⟨rfl, HB2.out⟩
end Go.Proofs.Ytldifjfcgcmfiaa
