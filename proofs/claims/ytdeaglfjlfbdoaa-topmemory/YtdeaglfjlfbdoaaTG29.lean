/- TM6, joined. -/
import Derived.Test.YtdeaglfjlfbdoaaTG28
/- TopMemory, walked (written by mktm6.py). -/
namespace Go.Proofs.Ytdeaglfjlfbdoaa
open Go.RowKit

set_option maxRecDepth 100000 in
set_option maxHeartbeats 40000000 in
theorem mem_walk (v : Value) (fs : List Fa) (tv : Value) (ts : List UInt8) (w : World) (hF : FReads w v fs) (hT : Reads w tv ts) : Calls Try.prog 3 #[v, tv] w fun e w' => e = .returned (.bool true) ∧ Below w.heap.size w w' := by
  have HAL : Hid (∀ W, Calls Try.prog 5 #[] W fun e w' => e = .returned (.bool true) ∧ Below W.heap.size W w') := fun W => alive4_any W
  have HMY : Hid _ := many15_any v fs w hF
  have HF : Hid (FReads w v fs) := hF
  have HT : Hid (Reads w tv ts) := hT
  obtain ⟨fa, fc, rfl, hm1, hm2⟩ := hF.form
  obtain ⟨ta, tc, rfl, hm3⟩ := hT.form
  unfold maxLen at hm2 hm3
  clear hF hT
  go_enter Try.func3, Try.ntmps3
  go_wp2_with fail
  refine Calls.mono HMY.out ?_
  rintro e w0 ⟨gm, rfl, hg60, hw0⟩
  subst hw0
  cases gm with
  | true =>
    go_wp2_with fail
    refine (HAL.out _).mono ?_
    rintro e w6 ⟨rfl, hb6⟩
    have HB6 : Hid (Below w0.heap.size w0 w6) := hb6
    clear hb6
    go_wp2_with fail
    go_ret
    exact ⟨rfl, HB6.out⟩
  | false =>
    have h60 : fs.length ≤ 60 := hg60 rfl
    clear HMY hg60
    go_wp2_with fail
    refine (new_any _).mono ?_
    rintro e w1 ⟨L0, rfl, hS1, hb1⟩
    have HS1 : Hid (SK w1 w0.heap.size L0 [] false) := hS1
    have HB1 : Hid (Below w0.heap.size w0 w1) := hb1
    clear hS1 hb1
    go_wp2_with fail
    refine (new_anyB 512 4 _).mono ?_
    rintro e w2 h2
    rcases h2 with ⟨v2, rfl, -, hf2, hb2⟩ | ⟨-, hno, -⟩
    · obtain ⟨B, g, hvB, hfg⟩ := Fil.fg (D := List.replicate 64 0) hf2
      subst hvB
      have hs1 := HB1.out.size
      have HI2 : Hid (MI w0 w0.heap.size L0 B g 0 fs w2) := by
        refine ⟨?_, ⟨Nat.le_trans hs1 hfg.1, hfg.2.1, ?_, hfg.2.2.2⟩, (fun f hf => by simp at hf), HB1.out.trans (hb2.mono hs1)⟩
        · exact (HS1.out.x.mono (fun c hc e => by subst e; have := hfg.1; omega)).below hb2
        · obtain ⟨b', g', cap', e1, h5, h6, h7, h8⟩ := hfg.2.2.1
          exact ⟨b', g', cap', e1, Nat.le_trans hs1 h5, h6, h7.mono hs1, h8⟩
      clear hf2 hb2 hfg HS1 HB1
      go_wp2_with fail
      go_loopw [8] (fun i wr => ∃ k : Nat, k ≤ fs.length ∧ i = .int .i64 (k : Int) ∧ Hid (MI w0 w0.heap.size L0 B g k fs wr)) (fun i _ => fs.length - (intOf i).toNat)
      case atStart => exact ⟨0, by omega, rfl, HI2.out⟩
      case round =>
        clear HI2
        obtain ⟨k, hk, rfl, HI⟩ := hrel
        have hsr := HI.out.b.size
        by_cases hlt : k < fs.length
        · have hil : decide ((k : Int) < (fs.length : Int)) = true := by simp; omega
          obtain ⟨b, off, rfl, hbb, hcs, hsr0, hfb⟩ := HF.out.at hlt
          obtain ⟨f, Hf⟩ := hid_ex fs[k]
          rw [← Hf.out] at hcs hsr0 hfb
          obtain ⟨fv, D, t, x⟩ := f
          obtain ⟨va, vc, hvd, hdm⟩ := hsr0.form
          simp only at hvd
          subst hvd
          have HSR : Hid (SReads w0 (.slice va D.length vc) D) := hsr0
          have HFB : Hid (FaB ⟨.slice va D.length vc, D, t, x⟩) := hfb
          have HKL : Hid (∀ W, Below w0.heap.size w0 W → KLies ⟨.slice va D.length vc, D, t, 0⟩ W) := fun W hb => ⟨HSR.out.below hb, HFB.out.t1, HFB.out.t2, by show (-9223372036854775808 : Int) ≤ 0; decide, by show (0 : Int) ≤ 9223372036854775807; decide⟩
          have p0 := hcs 0 (by decide)
          have p1 := hcs 1 (by decide)
          have p2 := hcs 2 (by decide)
          simp only [c3, List.getElem_cons_zero, List.getElem_cons_succ, Nat.add_zero] at p0 p1 p2
          have HC0 : Hid (w0.cell? ⟨b, off + k * 3, none⟩ = some (.slice va D.length vc)) := p0
          have HC1 : Hid (w0.cell? ⟨b, off + k * 3 + 1, none⟩ = some (.int .i64 t)) := p1
          have HC2 : Hid (w0.cell? ⟨b, off + k * 3 + 2, none⟩ = some (.int .i64 x)) := p2
          have HFE : Hid (feE fs[k] = (kb D t 0, oneF x)) := by rw [← Hf.out]; rfl
          have HFF : Hid (fs[k].D = D ∧ fs[k].t = t) := by rw [← Hf.out]; exact ⟨rfl, rfl⟩
          have hkx : (k : Int) < (fs.length : Int) := by omega
          clear p0 p1 p2 hcs hsr0 hfb hdm
          have HBr : Hid (Below w0.heap.size w0 wr) := HI.out.b
          by_cases hr : rightBK D t 0 = true
          · obtain ⟨KB, HKK⟩ := hid_ex (kb D t 0)
            have HKN : Hid (1 ≤ KB.length ∧ KB.length ≤ 256) := by rw [HKK.out]; exact kb_short hr
            have HWY : Hid (∀ W, Below w0.heap.size w0 W → Calls Try.prog 8 #[.agg #[.slice va D.length vc, .int .i64 t, .int .i64 0]] W fun e w' => ∃ v, e = .returned (.tuple #[v, .int .i64 0]) ∧ Own w' W.heap.size v KB ∧ Below W.heap.size W w') := fun W hb => by
              rw [HKK.out]
              exact write_yes ⟨.slice va D.length vc, D, t, 0⟩ hr W (HKL.out W hb)
            obtain ⟨O, HO⟩ := hid_ex (oneF x)
            have HOc : Hid (0 ≤ O.c ∧ O.c < 18446744073709551616) := by rw [HO.out]; exact ⟨by show (0 : Int) ≤ 1; decide, by show (1 : Int) < 18446744073709551616; decide⟩
            have HON : Hid (∀ w, Calls Try.prog 10 #[.int .i64 x] w fun e w' => e = .returned (.agg #[.int .u64 O.c, .bool O.o, .int .i64 (hi O.s), .int .u64 (lo O.s), .int .i64 O.mn, .int .i64 O.mx]) ∧ Below w.heap.size w w') := by
              intro w; rw [HO.out]; exact one_any x HFB.out.x1 HFB.out.x2 w
            go_wp2_with fail
            refine wp_region_noPanic ?_
            refine wp_region_held_drew (S := (fun w' => Below w0.heap.size w0 w')) (by kernel_rfl) ?_ (fun hHeld => ?_)
            · exact HBr.out.drew
            refine wpAnyH_take (i := 0) (v := .slice (some ⟨b, off, none⟩) fs.length fc) rfl (by as_aux_lemma => kernel_rfl) (by as_aux_lemma => kernel_rfl) (by as_aux_lemma => kernel_rfl) (fun _ _ _ h => h) (Or.inl ⟨by rfl, ?_⟩) (by assumption) ?_
            · (intro w1 hSw; (try dsimp only at hSw); go_simp)
            simp only [List.getElem_toArray, List.getElem_cons_zero, Act.put, List.setIfInBounds_toArray, List.set_cons_zero, List.set_cons_succ]
            refine wpAnyH_take (i := 1) (v := .int .i64 (k : Int)) rfl (by as_aux_lemma => kernel_rfl) (by as_aux_lemma => kernel_rfl) (by as_aux_lemma => kernel_rfl) (fun _ _ _ h => h) (Or.inl ⟨by rfl, ?_⟩) (by assumption) ?_
            · (intro w1 hSw; (try dsimp only at hSw); go_simp)
            simp only [List.getElem_toArray, List.getElem_cons_succ, List.getElem_cons_zero, Act.put, List.setIfInBounds_toArray, List.set_cons_zero, List.set_cons_succ]
            refine wpAnyH_take (i := 2) (v := .pointer (some ⟨b, off + k * 3, none⟩)) rfl (by as_aux_lemma => kernel_rfl) (by as_aux_lemma => kernel_rfl) (by as_aux_lemma => kernel_rfl) (fun _ _ _ h => h) (Or.inl ⟨by rfl, ?_⟩) (by assumption) ?_
            · (intro w1 hSw; (try dsimp only at hSw); go_simp)
            simp only [List.getElem_toArray, List.getElem_cons_succ, List.getElem_cons_zero, Act.put, List.setIfInBounds_toArray, List.set_cons_zero, List.set_cons_succ]
            refine wpAnyH_take (i := 3) (v := .pointer (some ⟨b, off + k * 3, none⟩)) rfl (by as_aux_lemma => kernel_rfl) (by as_aux_lemma => kernel_rfl) (by as_aux_lemma => kernel_rfl) (fun _ _ _ h => h) (Or.inl ⟨by rfl, ?_⟩) (by assumption) ?_
            · (intro w1 hSw; (try dsimp only at hSw); go_simp)
            simp only [List.getElem_toArray, List.getElem_cons_succ, List.getElem_cons_zero, Act.put, List.setIfInBounds_toArray, List.set_cons_zero, List.set_cons_succ]
            refine wpAnyH_take (i := 4) (v := .slice va D.length vc) rfl (by as_aux_lemma => kernel_rfl) (by as_aux_lemma => kernel_rfl) (by as_aux_lemma => kernel_rfl) (fun _ _ _ h => h) (Or.inl ⟨by rfl, ?_⟩) (by assumption) ?_
            · (intro w1 hSw; (try dsimp only at hSw); have c0 := (hSw.cell (p := ⟨b, off + k * 3, none⟩) hbb).trans HC0.out; go_simp)
            simp only [List.getElem_toArray, List.getElem_cons_succ, List.getElem_cons_zero, Act.put, List.setIfInBounds_toArray, List.set_cons_zero, List.set_cons_succ]
            refine wpAnyH_take (i := 5) (v := .slice (some ⟨b, off, none⟩) fs.length fc) rfl (by as_aux_lemma => kernel_rfl) (by as_aux_lemma => kernel_rfl) (by as_aux_lemma => kernel_rfl) (fun _ _ _ h => h) (Or.inl ⟨by rfl, ?_⟩) (by assumption) ?_
            · (intro w1 hSw; (try dsimp only at hSw); go_simp)
            simp only [List.getElem_toArray, List.getElem_cons_succ, List.getElem_cons_zero, Act.put, List.setIfInBounds_toArray, List.set_cons_zero, List.set_cons_succ]
            refine wpAnyH_take (i := 6) (v := .int .i64 (k : Int)) rfl (by as_aux_lemma => kernel_rfl) (by as_aux_lemma => kernel_rfl) (by as_aux_lemma => kernel_rfl) (fun _ _ _ h => h) (Or.inl ⟨by rfl, ?_⟩) (by assumption) ?_
            · (intro w1 hSw; (try dsimp only at hSw); go_simp)
            simp only [List.getElem_toArray, List.getElem_cons_succ, List.getElem_cons_zero, Act.put, List.setIfInBounds_toArray, List.set_cons_zero, List.set_cons_succ]
            refine wpAnyH_take (i := 7) (v := .pointer (some ⟨b, off + k * 3, none⟩)) rfl (by as_aux_lemma => kernel_rfl) (by as_aux_lemma => kernel_rfl) (by as_aux_lemma => kernel_rfl) (fun _ _ _ h => h) (Or.inl ⟨by rfl, ?_⟩) (by assumption) ?_
            · (intro w1 hSw; (try dsimp only at hSw); go_simp)
            simp only [List.getElem_toArray, List.getElem_cons_succ, List.getElem_cons_zero, Act.put, List.setIfInBounds_toArray, List.set_cons_zero, List.set_cons_succ]
            refine wpAnyH_take (i := 8) (v := .pointer (some ⟨b, off + k * 3 + 1, none⟩)) rfl (by as_aux_lemma => kernel_rfl) (by as_aux_lemma => kernel_rfl) (by as_aux_lemma => kernel_rfl) (fun _ _ _ h => h) (Or.inl ⟨by rfl, ?_⟩) (by assumption) ?_
            · (intro w1 hSw; (try dsimp only at hSw); go_simp)
            simp only [List.getElem_toArray, List.getElem_cons_succ, List.getElem_cons_zero, Act.put, List.setIfInBounds_toArray, List.set_cons_zero, List.set_cons_succ]
            refine wpAnyH_take (i := 9) (v := .int .i64 t) rfl (by as_aux_lemma => kernel_rfl) (by as_aux_lemma => kernel_rfl) (by as_aux_lemma => kernel_rfl) (fun _ _ _ h => h) (Or.inl ⟨by rfl, ?_⟩) (by assumption) ?_
            · (intro w1 hSw; (try dsimp only at hSw); have c1 := (hSw.cell (p := ⟨b, off + k * 3 + 1, none⟩) hbb).trans HC1.out; go_simp)
            simp only [List.getElem_toArray, List.getElem_cons_succ, List.getElem_cons_zero, Act.put, List.setIfInBounds_toArray, List.set_cons_zero, List.set_cons_succ]
            refine wpAnyH_take (i := 10) (v := .agg #[.slice va D.length vc, .int .i64 t, .int .i64 0]) rfl (by as_aux_lemma => kernel_rfl) (by as_aux_lemma => kernel_rfl) (by as_aux_lemma => kernel_rfl) (fun _ _ _ h => h) (Or.inl ⟨by rfl, ?_⟩) (by assumption) ?_
            · (intro w1 hSw; (try dsimp only at hSw); go_simp)
            simp only [List.getElem_toArray, List.getElem_cons_succ, List.getElem_cons_zero, Act.put, List.setIfInBounds_toArray, List.set_cons_zero, List.set_cons_succ]
            refine wpAnyH_ready (rs := [11]) (by as_aux_lemma => kernel_rfl) (by simp) ?_
            refine AllReadyH.cons (o := _) rfl (fun K hK => ?_) AllReadyH.nil
            go_simp
            refine (HWY.out _ HBr.out.drew).mono ?_
            rintro e w5 ⟨v5, rfl, ho5', hb5'⟩
            have hb5 : Below wr.heap.size wr w5 := (Below.refl _ _).drew.trans hb5'
            have HB5 : Hid (Below w0.heap.size w0 w5) := HBr.out.trans (hb5.mono hsr)
            have HI5 : Hid (MI w0 w0.heap.size L0 B g k fs w5) := HI.out.below hb5 hsr
            obtain ⟨a5, c5, hv5, -⟩ := ho5'.form
            subst hv5
            have HO5 : Hid (Own w5 wr.heap.size (.slice a5 KB.length c5) KB) := ho5'
            clear hb5 hb5' ho5'
            refine hK.out _ _ ?_ (fun hHeld => ?_)
            · exact HB5.out
            clear hK K
            refine wpAnyH_take (i := 12) (v := .tuple #[.slice a5 KB.length c5, .int .i64 0]) rfl (by as_aux_lemma => kernel_rfl) (by as_aux_lemma => kernel_rfl) (by as_aux_lemma => kernel_rfl) (fun _ _ _ h => h) (Or.inl ⟨by rfl, ?_⟩) (by assumption) ?_
            · (intro w1 hSw; (try dsimp only at hSw); go_simp)
            simp only [List.getElem_toArray, List.getElem_cons_succ, List.getElem_cons_zero, Act.put, List.setIfInBounds_toArray, List.set_cons_zero, List.set_cons_succ]
            refine wpAnyH_take (i := 13) (v := .slice a5 KB.length c5) rfl (by as_aux_lemma => kernel_rfl) (by as_aux_lemma => kernel_rfl) (by as_aux_lemma => kernel_rfl) (fun _ _ _ h => h) (Or.inl ⟨by rfl, ?_⟩) (by assumption) ?_
            · (intro w1 hSw; (try dsimp only at hSw); go_simp)
            simp only [List.getElem_toArray, List.getElem_cons_succ, List.getElem_cons_zero, Act.put, List.setIfInBounds_toArray, List.set_cons_zero, List.set_cons_succ]
            refine wpAnyH_take (i := 14) (v := .int .i64 0) rfl (by as_aux_lemma => kernel_rfl) (by as_aux_lemma => kernel_rfl) (by as_aux_lemma => kernel_rfl) (fun _ _ _ h => h) (Or.inl ⟨by rfl, ?_⟩) (by assumption) ?_
            · (intro w1 hSw; (try dsimp only at hSw); go_simp)
            simp only [List.getElem_toArray, List.getElem_cons_succ, List.getElem_cons_zero, Act.put, List.setIfInBounds_toArray, List.set_cons_zero, List.set_cons_succ]
            refine wpAnyH_take (i := 15) (v := .slice a5 KB.length c5) rfl (by as_aux_lemma => kernel_rfl) (by as_aux_lemma => kernel_rfl) (by as_aux_lemma => kernel_rfl) (fun _ _ _ h => h) (Or.inl ⟨by rfl, ?_⟩) (by assumption) ?_
            · (intro w1 hSw; (try dsimp only at hSw); go_simp)
            simp only [List.getElem_toArray, List.getElem_cons_succ, List.getElem_cons_zero, Act.put, List.setIfInBounds_toArray, List.set_cons_zero, List.set_cons_succ]
            refine wpAnyH_take (i := 16) (v := .int .i64 0) rfl (by as_aux_lemma => kernel_rfl) (by as_aux_lemma => kernel_rfl) (by as_aux_lemma => kernel_rfl) (fun _ _ _ h => h) (Or.inl ⟨by rfl, ?_⟩) (by assumption) ?_
            · (intro w1 hSw; (try dsimp only at hSw); go_simp)
            simp only [List.getElem_toArray, List.getElem_cons_succ, List.getElem_cons_zero, Act.put, List.setIfInBounds_toArray, List.set_cons_zero, List.set_cons_succ]
            refine wpAnyH_done (by as_aux_lemma => kernel_rfl) ?_ _
            refine NoPanic.normal ?_
            clear hHeld
            have c2 := (HB5.out.cell (p := ⟨b, off + k * 3 + 2, none⟩) hbb).trans HC2.out
            by_cases ht : k < ts.length
            · have hit : decide ((k : Int) < (ts.length : Int)) = true := by simp; omega
              obtain ⟨bt, ot, eta, hbt, htc⟩ := HT.out.at k ht
              subst eta
              obtain ⟨y, Hy⟩ := hid_ex ts[k]
              rw [← Hy.out] at htc
              have h0 := (HB5.out.cell (p := ⟨bt, ot + k, none⟩) hbt).trans htc
              unfold bc at h0
              clear Hy htc
              go_wp2_with fail
              obtain ⟨hgt, eH, hg1, hg2⟩ := hgtv y
              rw [eH]
              clear eH h0
              refine (HON.out _).mono ?_
              rintro e w6 ⟨rfl, hb6⟩
              have HI6 : Hid (MI w0 w0.heap.size L0 B g k fs w6) := HI5.out.below hb6 HB5.out.size
              have HO6 : Hid (Own w6 wr.heap.size (.slice a5 KB.length c5) KB) := HO5.out.below hb6
              have HB6 : Hid (Below w0.heap.size w0 w6) := HB5.out.trans (hb6.mono HB5.out.size)
              have HPU : Hid (Calls Try.prog 9 #[.pointer (some ⟨L0, 0, none⟩), .agg #[.slice a5 KB.length c5, .int .u64 O.c, .bool O.o, .int .i64 (hi O.s), .int .u64 (lo O.s), .int .i64 O.mn, .int .i64 O.mx], .int .i64 hgt] w6 fun e w' => e = .returned (.int .i64 0) ∧ SKx (fun c => c ≠ g) w' w0.heap.size L0 (putE (putL [] ((fs.take k).map feE)) KB O) false ∧ Below w0.heap.size w6 w' ∧ Kt w6 w') := by
                refine (put_x (fun c => c ≠ g) L0 _ false _ KB O hgt w6 w0.heap.size HB6.out.size HI6.out.s (fun c hc e => by subst e; have := HI6.out.f.2.1; omega) HO6.out.reads HOc.out (by have h1 := putL_len ((fs.take k).map feE) []; rw [List.length_map, List.length_take, List.length_nil] at h1; omega)).mono ?_
                rintro e w' ⟨rfl, hs, hb, hk⟩
                have hz : mpF false hgt KB.length O = 0 := by rw [HO.out]; exact mp_one x _ (by omega) (by omega) _ HKN.out.1 HKN.out.2
                rw [hz, if_pos rfl] at hs
                rw [hz]
                exact ⟨rfl, hs, hb, hk⟩
              clear hb6
              go_wp2_with fail
              refine Calls.mono HPU.out ?_
              rintro e w7 ⟨rfl, hs7, hb7, hk7⟩
              have HS7 : Hid _ := hs7
              have HG7 : Hid (FG w7 w0.heap.size B g _) := HI6.out.f.kt hk7 hb7.size
              have HO7 : Hid (Own w7 wr.heap.size (.slice a5 KB.length c5) KB) := own_via HO6.out fun c cs q _ hc => hk7 _ _ _ _ (by decide) (by decide) hc
              have HB7 : Hid (Below w0.heap.size w0 w7) := HB6.out.trans hb7
              have HB67 : Hid (Below w0.heap.size w6 w7) := hb7
              clear hs7 hb7 hk7 HPU
              go_wp2_with fail
              refine (addG HB7.out.size HG7.out _ KB HO7.out.reads).mono ?_
              rintro e w8 ⟨rfl, hf8, hb8, hx8⟩
              have HI8 : Hid (MI w0 w0.heap.size L0 B g (k + 1) fs w8) := by
                obtain ⟨cs, q, hcs⟩ := HG7.out.own
                refine HI6.out.next hlt ?_ (HB67.out.trans hb8) ?_ ?_
                · unfold okF; rw [HFF.out.1, HFF.out.2]; exact hr
                · rw [HFE.out, ← HKK.out, ← HO.out]; exact SKx.kx HS7.out hx8 hcs
                · rw [HFF.out.1, HFF.out.2, ← HKK.out]; exact hf8
              clear hf8 hb8 hx8
              go_wp2_with fail
              go_roundw
              case rel => exact ⟨k + 1, by omega, by go_num, HI8.out⟩
              case measure => simp [intOf]; omega
            · have hit : decide ((k : Int) < (ts.length : Int)) = false := by simp; omega
              go_wp2_with fail
              refine (HON.out _).mono ?_
              rintro e w6 ⟨rfl, hb6⟩
              have HI6 : Hid (MI w0 w0.heap.size L0 B g k fs w6) := HI5.out.below hb6 HB5.out.size
              have HO6 : Hid (Own w6 wr.heap.size (.slice a5 KB.length c5) KB) := HO5.out.below hb6
              have HB6 : Hid (Below w0.heap.size w0 w6) := HB5.out.trans (hb6.mono HB5.out.size)
              have HPU : Hid (Calls Try.prog 9 #[.pointer (some ⟨L0, 0, none⟩), .agg #[.slice a5 KB.length c5, .int .u64 O.c, .bool O.o, .int .i64 (hi O.s), .int .u64 (lo O.s), .int .i64 O.mn, .int .i64 O.mx], .int .i64 1] w6 fun e w' => e = .returned (.int .i64 0) ∧ SKx (fun c => c ≠ g) w' w0.heap.size L0 (putE (putL [] ((fs.take k).map feE)) KB O) false ∧ Below w0.heap.size w6 w' ∧ Kt w6 w') := by
                refine (put_x (fun c => c ≠ g) L0 _ false _ KB O 1 w6 w0.heap.size HB6.out.size HI6.out.s (fun c hc e => by subst e; have := HI6.out.f.2.1; omega) HO6.out.reads HOc.out (by have h1 := putL_len ((fs.take k).map feE) []; rw [List.length_map, List.length_take, List.length_nil] at h1; omega)).mono ?_
                rintro e w' ⟨rfl, hs, hb, hk⟩
                have hz : mpF false 1 KB.length O = 0 := by rw [HO.out]; exact mp_one x _ (by omega) (by omega) _ HKN.out.1 HKN.out.2
                rw [hz, if_pos rfl] at hs
                rw [hz]
                exact ⟨rfl, hs, hb, hk⟩
              clear hb6
              go_wp2_with fail
              refine Calls.mono HPU.out ?_
              rintro e w7 ⟨rfl, hs7, hb7, hk7⟩
              have HS7 : Hid _ := hs7
              have HG7 : Hid (FG w7 w0.heap.size B g _) := HI6.out.f.kt hk7 hb7.size
              have HO7 : Hid (Own w7 wr.heap.size (.slice a5 KB.length c5) KB) := own_via HO6.out fun c cs q _ hc => hk7 _ _ _ _ (by decide) (by decide) hc
              have HB7 : Hid (Below w0.heap.size w0 w7) := HB6.out.trans hb7
              have HB67 : Hid (Below w0.heap.size w6 w7) := hb7
              clear hs7 hb7 hk7 HPU
              go_wp2_with fail
              refine (addG HB7.out.size HG7.out _ KB HO7.out.reads).mono ?_
              rintro e w8 ⟨rfl, hf8, hb8, hx8⟩
              have HI8 : Hid (MI w0 w0.heap.size L0 B g (k + 1) fs w8) := by
                obtain ⟨cs, q, hcs⟩ := HG7.out.own
                refine HI6.out.next hlt ?_ (HB67.out.trans hb8) ?_ ?_
                · unfold okF; rw [HFF.out.1, HFF.out.2]; exact hr
                · rw [HFE.out, ← HKK.out, ← HO.out]; exact SKx.kx HS7.out hx8 hcs
                · rw [HFF.out.1, HFF.out.2, ← HKK.out]; exact hf8
              clear hf8 hb8 hx8
              go_wp2_with fail
              go_roundw
              case rel => exact ⟨k + 1, by omega, by go_num, HI8.out⟩
              case measure => simp [intOf]; omega
          · have HWN : Hid (∀ W, Below w0.heap.size w0 W → Calls Try.prog 8 #[.agg #[.slice va D.length vc, .int .i64 t, .int .i64 0]] W fun e w' => e = .returned (.tuple #[.slice none 0 0, .int .i64 40]) ∧ Below W.heap.size W w') := fun W hb => write_noK ⟨.slice va D.length vc, D, t, 0⟩ (by simpa using hr) W (HKL.out W hb)
            go_wp2_with fail
            refine wp_region_noPanic ?_
            refine wp_region_held_drew (S := (fun w' => Below w0.heap.size w0 w')) (by kernel_rfl) ?_ (fun hHeld => ?_)
            · exact HBr.out.drew
            refine wpAnyH_take (i := 0) (v := .slice (some ⟨b, off, none⟩) fs.length fc) rfl (by as_aux_lemma => kernel_rfl) (by as_aux_lemma => kernel_rfl) (by as_aux_lemma => kernel_rfl) (fun _ _ _ h => h) (Or.inl ⟨by rfl, ?_⟩) (by assumption) ?_
            · (intro w1 hSw; (try dsimp only at hSw); go_simp)
            simp only [List.getElem_toArray, List.getElem_cons_zero, Act.put, List.setIfInBounds_toArray, List.set_cons_zero, List.set_cons_succ]
            refine wpAnyH_take (i := 1) (v := .int .i64 (k : Int)) rfl (by as_aux_lemma => kernel_rfl) (by as_aux_lemma => kernel_rfl) (by as_aux_lemma => kernel_rfl) (fun _ _ _ h => h) (Or.inl ⟨by rfl, ?_⟩) (by assumption) ?_
            · (intro w1 hSw; (try dsimp only at hSw); go_simp)
            simp only [List.getElem_toArray, List.getElem_cons_succ, List.getElem_cons_zero, Act.put, List.setIfInBounds_toArray, List.set_cons_zero, List.set_cons_succ]
            refine wpAnyH_take (i := 2) (v := .pointer (some ⟨b, off + k * 3, none⟩)) rfl (by as_aux_lemma => kernel_rfl) (by as_aux_lemma => kernel_rfl) (by as_aux_lemma => kernel_rfl) (fun _ _ _ h => h) (Or.inl ⟨by rfl, ?_⟩) (by assumption) ?_
            · (intro w1 hSw; (try dsimp only at hSw); go_simp)
            simp only [List.getElem_toArray, List.getElem_cons_succ, List.getElem_cons_zero, Act.put, List.setIfInBounds_toArray, List.set_cons_zero, List.set_cons_succ]
            refine wpAnyH_take (i := 3) (v := .pointer (some ⟨b, off + k * 3, none⟩)) rfl (by as_aux_lemma => kernel_rfl) (by as_aux_lemma => kernel_rfl) (by as_aux_lemma => kernel_rfl) (fun _ _ _ h => h) (Or.inl ⟨by rfl, ?_⟩) (by assumption) ?_
            · (intro w1 hSw; (try dsimp only at hSw); go_simp)
            simp only [List.getElem_toArray, List.getElem_cons_succ, List.getElem_cons_zero, Act.put, List.setIfInBounds_toArray, List.set_cons_zero, List.set_cons_succ]
            refine wpAnyH_take (i := 4) (v := .slice va D.length vc) rfl (by as_aux_lemma => kernel_rfl) (by as_aux_lemma => kernel_rfl) (by as_aux_lemma => kernel_rfl) (fun _ _ _ h => h) (Or.inl ⟨by rfl, ?_⟩) (by assumption) ?_
            · (intro w1 hSw; (try dsimp only at hSw); have c0 := (hSw.cell (p := ⟨b, off + k * 3, none⟩) hbb).trans HC0.out; go_simp)
            simp only [List.getElem_toArray, List.getElem_cons_succ, List.getElem_cons_zero, Act.put, List.setIfInBounds_toArray, List.set_cons_zero, List.set_cons_succ]
            refine wpAnyH_take (i := 5) (v := .slice (some ⟨b, off, none⟩) fs.length fc) rfl (by as_aux_lemma => kernel_rfl) (by as_aux_lemma => kernel_rfl) (by as_aux_lemma => kernel_rfl) (fun _ _ _ h => h) (Or.inl ⟨by rfl, ?_⟩) (by assumption) ?_
            · (intro w1 hSw; (try dsimp only at hSw); go_simp)
            simp only [List.getElem_toArray, List.getElem_cons_succ, List.getElem_cons_zero, Act.put, List.setIfInBounds_toArray, List.set_cons_zero, List.set_cons_succ]
            refine wpAnyH_take (i := 6) (v := .int .i64 (k : Int)) rfl (by as_aux_lemma => kernel_rfl) (by as_aux_lemma => kernel_rfl) (by as_aux_lemma => kernel_rfl) (fun _ _ _ h => h) (Or.inl ⟨by rfl, ?_⟩) (by assumption) ?_
            · (intro w1 hSw; (try dsimp only at hSw); go_simp)
            simp only [List.getElem_toArray, List.getElem_cons_succ, List.getElem_cons_zero, Act.put, List.setIfInBounds_toArray, List.set_cons_zero, List.set_cons_succ]
            refine wpAnyH_take (i := 7) (v := .pointer (some ⟨b, off + k * 3, none⟩)) rfl (by as_aux_lemma => kernel_rfl) (by as_aux_lemma => kernel_rfl) (by as_aux_lemma => kernel_rfl) (fun _ _ _ h => h) (Or.inl ⟨by rfl, ?_⟩) (by assumption) ?_
            · (intro w1 hSw; (try dsimp only at hSw); go_simp)
            simp only [List.getElem_toArray, List.getElem_cons_succ, List.getElem_cons_zero, Act.put, List.setIfInBounds_toArray, List.set_cons_zero, List.set_cons_succ]
            refine wpAnyH_take (i := 8) (v := .pointer (some ⟨b, off + k * 3 + 1, none⟩)) rfl (by as_aux_lemma => kernel_rfl) (by as_aux_lemma => kernel_rfl) (by as_aux_lemma => kernel_rfl) (fun _ _ _ h => h) (Or.inl ⟨by rfl, ?_⟩) (by assumption) ?_
            · (intro w1 hSw; (try dsimp only at hSw); go_simp)
            simp only [List.getElem_toArray, List.getElem_cons_succ, List.getElem_cons_zero, Act.put, List.setIfInBounds_toArray, List.set_cons_zero, List.set_cons_succ]
            refine wpAnyH_take (i := 9) (v := .int .i64 t) rfl (by as_aux_lemma => kernel_rfl) (by as_aux_lemma => kernel_rfl) (by as_aux_lemma => kernel_rfl) (fun _ _ _ h => h) (Or.inl ⟨by rfl, ?_⟩) (by assumption) ?_
            · (intro w1 hSw; (try dsimp only at hSw); have c1 := (hSw.cell (p := ⟨b, off + k * 3 + 1, none⟩) hbb).trans HC1.out; go_simp)
            simp only [List.getElem_toArray, List.getElem_cons_succ, List.getElem_cons_zero, Act.put, List.setIfInBounds_toArray, List.set_cons_zero, List.set_cons_succ]
            refine wpAnyH_take (i := 10) (v := .agg #[.slice va D.length vc, .int .i64 t, .int .i64 0]) rfl (by as_aux_lemma => kernel_rfl) (by as_aux_lemma => kernel_rfl) (by as_aux_lemma => kernel_rfl) (fun _ _ _ h => h) (Or.inl ⟨by rfl, ?_⟩) (by assumption) ?_
            · (intro w1 hSw; (try dsimp only at hSw); go_simp)
            simp only [List.getElem_toArray, List.getElem_cons_succ, List.getElem_cons_zero, Act.put, List.setIfInBounds_toArray, List.set_cons_zero, List.set_cons_succ]
            refine wpAnyH_ready (rs := [11]) (by as_aux_lemma => kernel_rfl) (by simp) ?_
            refine AllReadyH.cons (o := _) rfl (fun K hK => ?_) AllReadyH.nil
            go_simp
            refine (HWN.out _ HBr.out.drew).mono ?_
            rintro e w5 ⟨rfl, hb5'⟩
            have HB5 : Hid (Below w0.heap.size w0 w5) := HBr.out.trans (((Below.refl _ _).drew.trans hb5').mono hsr)
            clear hb5'
            refine hK.out _ _ ?_ (fun hHeld => ?_)
            · exact HB5.out
            clear hK K
            refine wpAnyH_take (i := 12) (v := .tuple #[.slice none 0 0, .int .i64 40]) rfl (by as_aux_lemma => kernel_rfl) (by as_aux_lemma => kernel_rfl) (by as_aux_lemma => kernel_rfl) (fun _ _ _ h => h) (Or.inl ⟨by rfl, ?_⟩) (by assumption) ?_
            · (intro w1 hSw; (try dsimp only at hSw); go_simp)
            simp only [List.getElem_toArray, List.getElem_cons_succ, List.getElem_cons_zero, Act.put, List.setIfInBounds_toArray, List.set_cons_zero, List.set_cons_succ]
            refine wpAnyH_take (i := 13) (v := .slice none 0 0) rfl (by as_aux_lemma => kernel_rfl) (by as_aux_lemma => kernel_rfl) (by as_aux_lemma => kernel_rfl) (fun _ _ _ h => h) (Or.inl ⟨by rfl, ?_⟩) (by assumption) ?_
            · (intro w1 hSw; (try dsimp only at hSw); go_simp)
            simp only [List.getElem_toArray, List.getElem_cons_succ, List.getElem_cons_zero, Act.put, List.setIfInBounds_toArray, List.set_cons_zero, List.set_cons_succ]
            refine wpAnyH_take (i := 14) (v := .int .i64 40) rfl (by as_aux_lemma => kernel_rfl) (by as_aux_lemma => kernel_rfl) (by as_aux_lemma => kernel_rfl) (fun _ _ _ h => h) (Or.inl ⟨by rfl, ?_⟩) (by assumption) ?_
            · (intro w1 hSw; (try dsimp only at hSw); go_simp)
            simp only [List.getElem_toArray, List.getElem_cons_succ, List.getElem_cons_zero, Act.put, List.setIfInBounds_toArray, List.set_cons_zero, List.set_cons_succ]
            refine wpAnyH_take (i := 15) (v := .slice none 0 0) rfl (by as_aux_lemma => kernel_rfl) (by as_aux_lemma => kernel_rfl) (by as_aux_lemma => kernel_rfl) (fun _ _ _ h => h) (Or.inl ⟨by rfl, ?_⟩) (by assumption) ?_
            · (intro w1 hSw; (try dsimp only at hSw); go_simp)
            simp only [List.getElem_toArray, List.getElem_cons_succ, List.getElem_cons_zero, Act.put, List.setIfInBounds_toArray, List.set_cons_zero, List.set_cons_succ]
            refine wpAnyH_take (i := 16) (v := .int .i64 40) rfl (by as_aux_lemma => kernel_rfl) (by as_aux_lemma => kernel_rfl) (by as_aux_lemma => kernel_rfl) (fun _ _ _ h => h) (Or.inl ⟨by rfl, ?_⟩) (by assumption) ?_
            · (intro w1 hSw; (try dsimp only at hSw); go_simp)
            simp only [List.getElem_toArray, List.getElem_cons_succ, List.getElem_cons_zero, Act.put, List.setIfInBounds_toArray, List.set_cons_zero, List.set_cons_succ]
            refine wpAnyH_done (by as_aux_lemma => kernel_rfl) ?_ _
            refine NoPanic.normal ?_
            clear hHeld
            by_cases ht : k < ts.length
            · have hit : decide ((k : Int) < (ts.length : Int)) = true := by simp; omega
              obtain ⟨bt, ot, eta, hbt, htc⟩ := HT.out.at k ht
              subst eta
              obtain ⟨y, Hy⟩ := hid_ex ts[k]
              rw [← Hy.out] at htc
              have h0 := (HB5.out.cell (p := ⟨bt, ot + k, none⟩) hbt).trans htc
              unfold bc at h0
              clear Hy htc
              go_wp2_with fail
              obtain ⟨hgt, eH, hg1, hg2⟩ := hgtv y
              rw [eH]
              clear eH h0
              refine (HAL.out _).mono ?_
              rintro e w6 ⟨rfl, hb6⟩
              have HB6 : Hid (Below w0.heap.size w0 w6) := HB5.out.trans (hb6.mono HB5.out.size)
              clear hb6
              go_wp2_with fail
              go_ret
              exact ⟨rfl, HB6.out⟩
            · have hit : decide ((k : Int) < (ts.length : Int)) = false := by simp; omega
              go_wp2_with fail
              refine (HAL.out _).mono ?_
              rintro e w6 ⟨rfl, hb6⟩
              have HB6 : Hid (Below w0.heap.size w0 w6) := HB5.out.trans (hb6.mono HB5.out.size)
              clear hb6
              go_wp2_with fail
              go_ret
              exact ⟨rfl, HB6.out⟩
        · have hil : decide ((k : Int) < (fs.length : Int)) = false := by simp; omega
          have hkk : fs.take k = fs := List.take_of_length_le (by omega)
          clear hsr
          obtain ⟨E, HE⟩ := hid_ex (putL [] (fs.map feE))
          obtain ⟨DD, HDD⟩ := hid_ex (adK 4 (List.replicate 64 0) (fs.map fun f => kb f.D f.t 0))
          have HSK : Hid (SK wr w0.heap.size L0 E false) := by have h := HI.out.s.sk; rw [hkk, ← HE.out] at h; exact h
          have HFG : Hid (FG wr w0.heap.size B g DD) := by have h := HI.out.f; rw [hkk, ← HDD.out] at h; exact h
          have HOKS : Hid (∀ f ∈ fs, okF f) := by have h := HI.out.o; rw [hkk] at h; exact h
          have HB0 : Hid (Below w0.heap.size w0 wr) := HI.out.b
          clear HI hkk
          go_wp2_with fail
          refine (all_any L0 E false _ _ HSK.out).mono ?_
          rintro e w3 ⟨v3, xs, rfl, ho3, hxs, hb3⟩
          obtain ⟨xa, xc, hv3, -, -⟩ := ho3.row.rc.form
          subst hv3
          have HO3 : Hid (EOwn w3 wr.heap.size (.slice xa xs.length xc) xs) := ho3
          have HF3 : Hid (FG w3 w0.heap.size B g DD) := HFG.out.below hb3
          have HB3 : Hid (Below w0.heap.size w0 w3) := HB0.out.trans (hb3.mono HB0.out.size)
          have HXE : Hid (xs.map evE = putL [] (fs.map feE)) := by rw [← HE.out]; exact hxs
          have HAT : Hid (∀ m (h : m < xs.length), ∃ f ∈ fs, kb f.D f.t 0 = xs[m].k ∧ xs[m].a = mnF (vls fs xs[m].k) ∧ 0 < (vls fs xs[m].k).length) := fun m h => by
            have hl : m < (putL [] (fs.map feE)).length := by rw [← HXE.out, List.length_map]; exact h
            have he : (putL [] (fs.map feE))[m] = evE xs[m] := by simp [← HXE.out]
            have h1 := all_at hl
            rw [he] at h1
            exact h1
          have HSO : Hid (∀ i j (hi : i < xs.length) (hj : j < xs.length), i < j → ltK xs[i].k xs[j].k) := fun i j hi hj hij => by
            have h1 := List.pairwise_iff_getElem.1 (putL_srt (fs.map feE)) i j (by simp [keysE, ← HXE.out]; exact hi) (by simp [keysE, ← HXE.out]; exact hj) hij
            simp only [keysE, List.getElem_map, ← HXE.out] at h1
            exact h1
          have hxl : xs.length ≤ fs.length := by
            have h1 := putL_len (fs.map feE) []
            rw [← HXE.out] at h1
            simpa using h1
          have HX0 : Hid (0 < fs.length → 0 < xs.length) := fun h => by
            have h1 := all_any0 h
            rw [← HXE.out, List.length_map] at h1
            exact h1
          have HRDC : Hid (∀ m (h : m < xs.length) W, Below w3.heap.size w3 W → ∃ D0 t0, rightBK D0 t0 0 = true ∧ kb D0 t0 0 = xs[m].k ∧ Calls Try.prog 13 #[xs[m].kv] W fun e w' => ∃ da dc, e = .returned (.tuple #[.agg #[.slice da D0.length dc, .int .i64 t0, .int .i64 0], .int .i64 0]) ∧ KLies ⟨.slice da D0.length dc, D0, t0, 0⟩ w' ∧ Below W.heap.size W w') := fun m h W hb => by
            obtain ⟨f, hf, hk, _, _⟩ := HAT.out m h
            have hok := HOKS.out f hf
            refine ⟨f.D, f.t, hok, hk, ?_⟩
            have hlen : xs[m].k.length ≤ 1000 := by rw [← hk]; have := (kb_short hok).2; omega
            refine (read_any xs[m].kv xs[m].k hlen W ((HO3.out.evr.below hb) _ (List.getElem_mem h))).mono ?_
            rintro e w' (⟨D, t, g', vd, h1, rfl, h3, h4⟩ | ⟨h1, _⟩)
            · rw [← hk, rdF_kb _ _ _ hok] at h1
              simp at h1
              obtain ⟨rfl, rfl, rfl⟩ := h1
              obtain ⟨da, dc, hvd, _⟩ := h3.r.form
              simp only at hvd
              subst hvd
              exact ⟨da, dc, rfl, h3, h4⟩
            · rw [← hk, rdF_kb _ _ _ hok] at h1
              cases h1
          have HMAY : Hid (∀ m (h : m < xs.length) W, Below w3.heap.size w3 W → Calls Try.prog 14 #[.pointer (some ⟨B, 0, none⟩), xs[m].kv] W fun e w' => e = .returned (.bool true) ∧ Below W.heap.size W w') := fun m h W hb => by
            obtain ⟨f, hf, hk, _, _⟩ := HAT.out m h
            have h1 := may_any _ _ 4 DD xs[m].k W _ (HF3.out.below hb).2.2.1 ((HO3.out.evr.below hb) _ (List.getElem_mem h))
            have h2 : myF DD (plc xs[m].k (8 * DD.length) 4) = true := by
              have h3 : DD.length = (List.replicate 64 (0 : UInt8)).length := by rw [HDD.out]; exact fold_len _ _ _ _
              rw [h3, HDD.out]
              exact my_adK (by simp) (List.mem_map.2 ⟨f, hf, hk⟩)
            rw [h2] at h1
            exact h1
          clear ho3 hb3 hxs HSK HFG HB0
          go_wp2_with fail
          go_loopw [13] (fun i wz => ∃ m : Nat, m ≤ xs.length ∧ i = .int .i64 (m : Int) ∧ Hid (Below w3.heap.size w3 wz)) (fun i _ => xs.length - (intOf i).toNat)
          case atStart => exact ⟨0, by omega, rfl, Below.refl _ _⟩
          case round =>
            obtain ⟨m, hm, rfl, HBz⟩ := hrel
            by_cases hlt2 : m < xs.length
            · have hil2 : decide ((m : Int) < (xs.length : Int)) = true := by simp; omega
              obtain ⟨xg, off, hxa, hgl, hcs⟩ := HO3.out.row.rc.ptr (by omega)
              subst hxa
              obtain ⟨f1, hf1, hk1, ha1, hn1⟩ := HAT.out m hlt2
              obtain ⟨D0, t0, hr0, hkb0, HRD0⟩ := HRDC.out m hlt2 _ HBz.out
              have HRD : Hid _ := HRD0
              have HMA := HMAY.out m hlt2
              have HCR : Hid (∀ i (hi : i < 7), w3.cell? ⟨xg, off + (7 * m + i), none⟩ = some ((c7 xs[m])[i]'hi)) := fun i hi => hcs m hlt2 i hi
              have HPV : Hid (∀ h0 : 0 < m, w3.cell? ⟨xg, off + (m - 1) * 7, none⟩ = some (xs[m - 1]'(by omega)).kv) := fun h0 => by
                have h7 := hcs (m - 1) (by omega) 0 (by decide)
                rw [show off + (7 * (m - 1) + 0) = off + (m - 1) * 7 by omega] at h7
                exact h7
              have HLT : Hid (∀ h0 : 0 < m, ltK (xs[m - 1]'(by omega)).k xs[m].k) := fun h0 => HSO.out (m - 1) m (by omega) hlt2 (by omega)
              obtain ⟨Z, HZ⟩ := hid_ex xs[m]
              rw [← HZ.out] at hk1 ha1 hn1 hkb0 HRD HMA HCR HLT
              have HRZ : Hid (Reads w3 Z.kv Z.k) := by rw [HZ.out]; exact HO3.out.evr _ (List.getElem_mem hlt2)
              clear HRD0 hcs
              obtain ⟨kZ, KB, A⟩ := Z
              obtain ⟨ay, cy, eZ, _⟩ := HRZ.out.form
              simp only at eZ
              subst eZ
              simp only at hk1 ha1 hn1 hkb0 HRD HMA HLT
              have HMM : Hid _ := HMA
              have HAA : Hid (A = mnF (vls fs KB)) := ha1
              have HR0 : Hid (rightBK D0 t0 0 = true) := hr0
              have HK0 : Hid (kb D0 t0 0 = KB) := hkb0
              have HN1 : Hid (0 < (vls fs KB).length) := hn1
              clear HMA hk1 ha1 hn1 hkb0 hr0 hf1
              have HC0 : Hid (w3.cell? ⟨xg, off + m * 7, none⟩ = some (.slice ay KB.length cy)) := by
                have h7 := HCR.out 0 (by decide)
                rw [show off + (7 * m + 0) = off + m * 7 by omega] at h7
                exact h7
              have q0 := (HBz.out.cell (p := ⟨xg, off + m * 7, none⟩) hgl).trans HC0.out
              have hmx : (m : Int) < (xs.length : Int) := by omega
              go_wp2_with fail
              refine Calls.mono HRD.out ?_
              rintro e w5 ⟨da, dc, rfl, hkl5, hb5⟩
              obtain ⟨w6, HW6⟩ := hid_ex (w5.alloc (.cells #[.slice da D0.length dc, .int .i64 t0, .int .i64 0] 38))
              obtain ⟨P, HPP⟩ := hid_ex w5.heap.size
              have HPX : Hid (w6.heap[P]? = some (.cells #[.slice da D0.length dc, .int .i64 t0, .int .i64 0] 38)) := by rw [HW6.out, HPP.out]; exact World.alloc_heap_new _ _
              have HB56 : Below w5.heap.size w5 w6 := by rw [HW6.out]; exact (Below.refl _ _).alloc (Nat.le_refl _) _
              have HB6 : Hid (Below w3.heap.size w3 w6) := HBz.out.trans ((hb5.trans (HB56.mono hb5.size)).mono HBz.out.size)
              have HKL : Hid (KLies ⟨.slice da D0.length dc, D0, t0, 0⟩ w6) := hkl5.below HB56
              clear q0 hkl5 hb5 HB56 HRD
              have q0 := (HB6.out.cell (p := ⟨xg, off + m * 7, none⟩) hgl).trans HC0.out
              rw [HW6.out] at q0
              go_wp2_with fail
              rw [← HW6.out, ← HPP.out]
              rw [← HW6.out] at q0
              clear HW6 HPP
              refine (HMM.out _ HB6.out).mono ?_
              rintro e w7 ⟨rfl, hb7⟩
              have HB7 : Hid (Below w3.heap.size w3 w7) := HB6.out.trans (hb7.mono HB6.out.size)
              have HPX7 : Hid (w7.heap[P]? = some (.cells #[.slice da D0.length dc, .int .i64 t0, .int .i64 0] 38)) := (hb7.block _ (Array.getElem?_eq_some_iff.1 HPX.out).1).trans HPX.out
              have HKL7 : Hid (KLies ⟨.slice da D0.length dc, D0, t0, 0⟩ w7) := HKL.out.below hb7
              clear hb7 q0 HPX HKL HMM
              go_upto_if 118 with fail
              go_cut [16, 17] (fun _ _ wc => Hid (Below w7.heap.size w7 wc))
              case first =>
                by_cases hm0 : 0 < m
                · have hg0 : decide ((0 : Int) < (m : Int)) = true := decide_eq_true (by omega)
                  have hg1 : decide ((m : Int) > 0) = true := decide_eq_true (by omega)
                  obtain ⟨D1, t1, hr1, hkb1, HRD1'⟩ := HRDC.out (m - 1) (by omega) _ HB7.out
                  have HRD1 : Hid _ := HRD1'
                  have hltm := HLT.out hm0
                  have p0 := (HB7.out.cell (p := ⟨xg, off + (m - 1) * 7, none⟩) hgl).trans (HPV.out hm0)
                  have HRY : Hid (Reads w3 (xs[m - 1]'(by omega)).kv (xs[m - 1]'(by omega)).k) := HO3.out.evr _ (List.getElem_mem _)
                  obtain ⟨Z1, HZ1⟩ := hid_ex (xs[m - 1]'(by omega))
                  rw [← HZ1.out] at hltm p0 HRY hkb1 HRD1
                  obtain ⟨k1v, K1, A1⟩ := Z1
                  obtain ⟨ay1, cy1, eZ1, _⟩ := HRY.out.form
                  simp only at eZ1
                  subst eZ1
                  simp only at hltm p0 hkb1 HRD1
                  obtain ⟨p, Hp⟩ := hid_ex (m - 1)
                  rw [← Hp.out] at p0
                  have hsub : (m : Int) - 1 = (p : Int) := by have := Hp.out; omega
                  have hpx : (p : Int) < (xs.length : Int) := by have := Hp.out; omega
                  have HLE : Hid (lessK ⟨.bool false, D1, t1, 0⟩ ⟨.bool false, D0, t0, 0⟩ = true) := less_of (a := ⟨.bool false, D1, t1, 0⟩) (b := ⟨.bool false, D0, t0, 0⟩) hr1 HR0.out (by rw [hkb1, HK0.out]; exact hltm)
                  clear HRD1' hltm hkb1 hr1 HZ1
                  go_wp2_with fail
                  refine Calls.mono HRD1.out ?_
                  rintro e w8 ⟨da1, dc1, rfl, hkl8, hb8⟩
                  obtain ⟨w9, HW9⟩ := hid_ex (w8.alloc (.cells #[.slice da1 D1.length dc1, .int .i64 t1, .int .i64 0] 38))
                  obtain ⟨P1, HPP1⟩ := hid_ex w8.heap.size
                  have HPX1 : Hid (w9.heap[P1]? = some (.cells #[.slice da1 D1.length dc1, .int .i64 t1, .int .i64 0] 38)) := by rw [HW9.out, HPP1.out]; exact World.alloc_heap_new _ _
                  have HB89 : Below w8.heap.size w8 w9 := by rw [HW9.out]; exact (Below.refl _ _).alloc (Nat.le_refl _) _
                  have HB79 : Hid (Below w7.heap.size w7 w9) := hb8.trans (HB89.mono hb8.size)
                  have HLS : Hid (Calls Try.prog 15 #[.agg #[.slice da1 D1.length dc1, .int .i64 t1, .int .i64 0], .agg #[.slice da D0.length dc, .int .i64 t0, .int .i64 0]] w9 fun e w' => e = .returned (.bool true) ∧ Below w9.heap.size w9 w') := by
                    have h9 := less_any ⟨.slice da1 D1.length dc1, D1, t1, 0⟩ ⟨.slice da D0.length dc, D0, t0, 0⟩ w9 (hkl8.below HB89) (HKL7.out.below HB79.out)
                    have h10 : lessK ⟨.slice da1 D1.length dc1, D1, t1, 0⟩ ⟨.slice da D0.length dc, D0, t0, 0⟩ = true := HLE.out
                    rw [h10] at h9
                    exact h9
                  have HPX9 : Hid (w9.heap[P]? = some (.cells #[.slice da D0.length dc, .int .i64 t0, .int .i64 0] 38)) := (HB79.out.block _ (Array.getElem?_eq_some_iff.1 HPX7.out).1).trans HPX7.out
                  obtain ⟨b0, b1, b2⟩ := kbox38 HPX1.out
                  obtain ⟨d0, d1, d2⟩ := kbox38 HPX9.out
                  rw [HW9.out, HPP1.out] at b0 b1 b2
                  rw [HW9.out] at d0 d1 d2
                  clear hkl8 hb8 HB89 HRD1 p0
                  go_wp2_with fail
                  rw [← HW9.out]
                  clear b0 b1 b2 d0 d1 d2 HW9 HPP1
                  refine Calls.mono HLS.out ?_
                  rintro e w10 ⟨rfl, hb10⟩
                  have HB10 : Hid (Below w7.heap.size w7 w10) := HB79.out.trans (hb10.mono HB79.out.size)
                  clear hb10 HLS
                  go_wp2_with fail
                  go_meet
                  exact HB10
                · have hg0 : decide ((0 : Int) < (m : Int)) = false := decide_eq_false (by omega)
                  have hg1 : decide ((m : Int) > 0) = false := decide_eq_false (by omega)
                  go_wp2_with fail
                  go_meet
                  exact Below.refl _ _
              case rest =>
                have HBc : Hid (Below w3.heap.size w3 wc) := HB7.out.trans (hcut.out.mono HB7.out.size)
                have HPXc : Hid (wc.heap[P]? = some (.cells #[.slice da D0.length dc, .int .i64 t0, .int .i64 0] 38)) := (hcut.out.block _ (Array.getElem?_eq_some_iff.1 HPX7.out).1).trans HPX7.out
                have HKLc : Hid (KLies ⟨.slice da D0.length dc, D0, t0, 0⟩ wc) := HKL7.out.below hcut.out
                have HB0c : Hid (Below w0.heap.size w0 wc) := HB3.out.trans (HBc.out.mono HB3.out.size)
                clear hcut HPX7 HKL7 HB7 HB6
                go_wp2_with fail
                go_loopw [18, 19, 20] (fun o n _ wy => ∃ (j : Nat) (oa : Option Addr) (oc : Nat), j ≤ fs.length ∧ n = .int .i64 (j : Int) ∧ o = .slice oa (vls (fs.take j) KB).length oc ∧ Hid (IOwn wy wc.heap.size (.slice oa (vls (fs.take j) KB).length oc) (vls (fs.take j) KB)) ∧ Hid (Below wc.heap.size wc wy)) (fun _ n _ _ => fs.length - (intOf n).toNat)
                case atStart => exact ⟨0, none, 0, by omega, rfl, rfl, IOwn.nil _ _, Below.refl _ _⟩
                case round =>
                  obtain ⟨j, oa, oc, hj, rfl, rfl, HIO, HBy⟩ := hrel
                  have HB0y : Hid (Below w0.heap.size w0 wr) := HB0c.out.trans (HBy.out.mono HB0c.out.size)
                  have hs0y := HB0y.out.size
                  have HPXy : Hid (wr.heap[P]? = some (.cells #[.slice da D0.length dc, .int .i64 t0, .int .i64 0] 38)) := (HBy.out.block _ (Array.getElem?_eq_some_iff.1 HPXc.out).1).trans HPXc.out
                  have HKLy : Hid (KLies ⟨.slice da D0.length dc, D0, t0, 0⟩ wr) := HKLc.out.below HBy.out
                  obtain ⟨VL, HVL⟩ := hid_ex (vls (fs.take j) KB)
                  rw [← HVL.out] at HIO
                  rw [← HVL.out]
                  have hvl60 : VL.length ≤ 60 := by
                    rw [HVL.out]; unfold vls
                    rw [List.length_map]
                    have h1 := List.length_filter_le (fun f => decide (kb f.D f.t 0 = KB)) (fs.take j)
                    rw [List.length_take] at h1
                    omega
                  by_cases hlt3 : j < fs.length
                  · have hil3 : decide ((j : Int) < (fs.length : Int)) = true := by simp; omega
                    obtain ⟨b, foff, hfa, hbb, hcs, hsr0, hfb⟩ := HF.out.at hlt3
                    subst hfa
                    have HOKf : Hid (okF fs[j]) := HOKS.out _ (List.getElem_mem hlt3)
                    have HNX : Hid (vls (fs.take (j + 1)) KB = if kb fs[j].D fs[j].t 0 = KB then VL ++ [fs[j].x] else VL) := by
                      rw [List.take_succ_eq_append_getElem hlt3, vls_next, HVL.out]; rfl
                    obtain ⟨f, Hf⟩ := hid_ex fs[j]
                    rw [← Hf.out] at hcs hsr0 hfb HOKf HNX
                    obtain ⟨fv, D, t, x⟩ := f
                    obtain ⟨va, vc, hvd, hdm⟩ := hsr0.form
                    simp only at hvd
                    subst hvd
                    simp only at HOKf HNX
                    have HSR : Hid (SReads w0 (.slice va D.length vc) D) := hsr0
                    have HFB : Hid (FaB ⟨.slice va D.length vc, D, t, x⟩) := hfb
                    have HRT : Hid (rightBK D t 0 = true) := HOKf.out
                    have p0 := hcs 0 (by decide)
                    have p1 := hcs 1 (by decide)
                    have p2 := hcs 2 (by decide)
                    simp only [c3, List.getElem_cons_zero, List.getElem_cons_succ, Nat.add_zero] at p0 p1 p2
                    have HC0f : Hid (w0.cell? ⟨b, foff + j * 3, none⟩ = some (.slice va D.length vc)) := p0
                    have HC1f : Hid (w0.cell? ⟨b, foff + j * 3 + 1, none⟩ = some (.int .i64 t)) := p1
                    have HC2f : Hid (w0.cell? ⟨b, foff + j * 3 + 2, none⟩ = some (.int .i64 x)) := p2
                    have hjx : (j : Int) < (fs.length : Int) := by omega
                    clear p0 p1 p2 hcs hsr0 hfb hdm Hf
                    go_wp2_with fail
                    refine wp_region_noPanic ?_
                    refine wp_region_held_drew (S := (fun w' => Below w0.heap.size w0 w')) (by kernel_rfl) ?_ (fun hHeld => ?_)
                    · exact HB0y.out.drew
                    refine wpAnyH_take (i := 0) (v := .slice (some ⟨b, foff, none⟩) fs.length fc) rfl (by as_aux_lemma => kernel_rfl) (by as_aux_lemma => kernel_rfl) (by as_aux_lemma => kernel_rfl) (fun _ _ _ h => h) (Or.inl ⟨by rfl, ?_⟩) (by assumption) ?_
                    · (intro w1 hSw; (try dsimp only at hSw); go_simp)
                    simp only [List.getElem_toArray, List.getElem_cons_zero, Act.put, List.setIfInBounds_toArray, List.set_cons_zero, List.set_cons_succ]
                    refine wpAnyH_take (i := 1) (v := .int .i64 (j : Int)) rfl (by as_aux_lemma => kernel_rfl) (by as_aux_lemma => kernel_rfl) (by as_aux_lemma => kernel_rfl) (fun _ _ _ h => h) (Or.inl ⟨by rfl, ?_⟩) (by assumption) ?_
                    · (intro w1 hSw; (try dsimp only at hSw); go_simp)
                    simp only [List.getElem_toArray, List.getElem_cons_succ, List.getElem_cons_zero, Act.put, List.setIfInBounds_toArray, List.set_cons_zero, List.set_cons_succ]
                    refine wpAnyH_take (i := 2) (v := .pointer (some ⟨b, foff + j * 3, none⟩)) rfl (by as_aux_lemma => kernel_rfl) (by as_aux_lemma => kernel_rfl) (by as_aux_lemma => kernel_rfl) (fun _ _ _ h => h) (Or.inl ⟨by rfl, ?_⟩) (by assumption) ?_
                    · (intro w1 hSw; (try dsimp only at hSw); go_simp)
                    simp only [List.getElem_toArray, List.getElem_cons_succ, List.getElem_cons_zero, Act.put, List.setIfInBounds_toArray, List.set_cons_zero, List.set_cons_succ]
                    refine wpAnyH_take (i := 3) (v := .pointer (some ⟨b, foff + j * 3, none⟩)) rfl (by as_aux_lemma => kernel_rfl) (by as_aux_lemma => kernel_rfl) (by as_aux_lemma => kernel_rfl) (fun _ _ _ h => h) (Or.inl ⟨by rfl, ?_⟩) (by assumption) ?_
                    · (intro w1 hSw; (try dsimp only at hSw); go_simp)
                    simp only [List.getElem_toArray, List.getElem_cons_succ, List.getElem_cons_zero, Act.put, List.setIfInBounds_toArray, List.set_cons_zero, List.set_cons_succ]
                    refine wpAnyH_take (i := 4) (v := .slice va D.length vc) rfl (by as_aux_lemma => kernel_rfl) (by as_aux_lemma => kernel_rfl) (by as_aux_lemma => kernel_rfl) (fun _ _ _ h => h) (Or.inl ⟨by rfl, ?_⟩) (by assumption) ?_
                    · (intro w1 hSw; (try dsimp only at hSw); have c0 := (hSw.cell (p := ⟨b, foff + j * 3, none⟩) hbb).trans HC0f.out; go_simp)
                    simp only [List.getElem_toArray, List.getElem_cons_succ, List.getElem_cons_zero, Act.put, List.setIfInBounds_toArray, List.set_cons_zero, List.set_cons_succ]
                    refine wpAnyH_take (i := 5) (v := .slice (some ⟨b, foff, none⟩) fs.length fc) rfl (by as_aux_lemma => kernel_rfl) (by as_aux_lemma => kernel_rfl) (by as_aux_lemma => kernel_rfl) (fun _ _ _ h => h) (Or.inl ⟨by rfl, ?_⟩) (by assumption) ?_
                    · (intro w1 hSw; (try dsimp only at hSw); go_simp)
                    simp only [List.getElem_toArray, List.getElem_cons_succ, List.getElem_cons_zero, Act.put, List.setIfInBounds_toArray, List.set_cons_zero, List.set_cons_succ]
                    refine wpAnyH_take (i := 6) (v := .int .i64 (j : Int)) rfl (by as_aux_lemma => kernel_rfl) (by as_aux_lemma => kernel_rfl) (by as_aux_lemma => kernel_rfl) (fun _ _ _ h => h) (Or.inl ⟨by rfl, ?_⟩) (by assumption) ?_
                    · (intro w1 hSw; (try dsimp only at hSw); go_simp)
                    simp only [List.getElem_toArray, List.getElem_cons_succ, List.getElem_cons_zero, Act.put, List.setIfInBounds_toArray, List.set_cons_zero, List.set_cons_succ]
                    refine wpAnyH_take (i := 7) (v := .pointer (some ⟨b, foff + j * 3, none⟩)) rfl (by as_aux_lemma => kernel_rfl) (by as_aux_lemma => kernel_rfl) (by as_aux_lemma => kernel_rfl) (fun _ _ _ h => h) (Or.inl ⟨by rfl, ?_⟩) (by assumption) ?_
                    · (intro w1 hSw; (try dsimp only at hSw); go_simp)
                    simp only [List.getElem_toArray, List.getElem_cons_succ, List.getElem_cons_zero, Act.put, List.setIfInBounds_toArray, List.set_cons_zero, List.set_cons_succ]
                    refine wpAnyH_take (i := 8) (v := .pointer (some ⟨b, foff + j * 3 + 1, none⟩)) rfl (by as_aux_lemma => kernel_rfl) (by as_aux_lemma => kernel_rfl) (by as_aux_lemma => kernel_rfl) (fun _ _ _ h => h) (Or.inl ⟨by rfl, ?_⟩) (by assumption) ?_
                    · (intro w1 hSw; (try dsimp only at hSw); go_simp)
                    simp only [List.getElem_toArray, List.getElem_cons_succ, List.getElem_cons_zero, Act.put, List.setIfInBounds_toArray, List.set_cons_zero, List.set_cons_succ]
                    refine wpAnyH_take (i := 9) (v := .int .i64 t) rfl (by as_aux_lemma => kernel_rfl) (by as_aux_lemma => kernel_rfl) (by as_aux_lemma => kernel_rfl) (fun _ _ _ h => h) (Or.inl ⟨by rfl, ?_⟩) (by assumption) ?_
                    · (intro w1 hSw; (try dsimp only at hSw); have c1 := (hSw.cell (p := ⟨b, foff + j * 3 + 1, none⟩) hbb).trans HC1f.out; go_simp)
                    simp only [List.getElem_toArray, List.getElem_cons_succ, List.getElem_cons_zero, Act.put, List.setIfInBounds_toArray, List.set_cons_zero, List.set_cons_succ]
                    refine wpAnyH_take (i := 10) (v := .agg #[.slice va D.length vc, .int .i64 t, .int .i64 0]) rfl (by as_aux_lemma => kernel_rfl) (by as_aux_lemma => kernel_rfl) (by as_aux_lemma => kernel_rfl) (fun _ _ _ h => h) (Or.inl ⟨by rfl, ?_⟩) (by assumption) ?_
                    · (intro w1 hSw; (try dsimp only at hSw); go_simp)
                    simp only [List.getElem_toArray, List.getElem_cons_succ, List.getElem_cons_zero, Act.put, List.setIfInBounds_toArray, List.set_cons_zero, List.set_cons_succ]
                    refine wpAnyH_ready (rs := [11]) (by as_aux_lemma => kernel_rfl) (by simp) ?_
                    refine AllReadyH.cons (o := _) rfl (fun K hK => ?_) AllReadyH.nil
                    go_simp
                    refine hK.out _ _ ?_ (fun hHeld => ?_)
                    · exact (HB0y.out.alloc hs0y _).drew
                    clear hK K
                    refine wpAnyH_ready (rs := [12]) (by as_aux_lemma => kernel_rfl) (by simp) ?_
                    refine AllReadyH.cons (o := _) rfl (fun K hK => ?_) AllReadyH.nil
                    go_simp
                    refine hK.out _ _ ?_ (fun hHeld => ?_)
                    · exact (HB0y.out.alloc hs0y _).drew
                    clear hK K
                    refine wpAnyH_done (by as_aux_lemma => kernel_rfl) ?_ _
                    refine NoPanic.normal ?_
                    clear hHeld
                    obtain ⟨w5, HW5⟩ := hid_ex (wr.alloc (.cells #[.slice va D.length vc, .int .i64 t, .int .i64 0] 38)).drew
                    obtain ⟨PX, HPXX⟩ := hid_ex wr.heap.size
                    have HXX : Hid (w5.heap[PX]? = some (.cells #[.slice va D.length vc, .int .i64 t, .int .i64 0] 38)) := by rw [HW5.out, HPXX.out]; exact World.alloc_heap_new _ _
                    have HBy5 : Hid (Below wr.heap.size wr w5) := by rw [HW5.out]; exact ((Below.refl _ _).alloc (Nat.le_refl _) _).drew
                    have HPX5 : Hid (w5.heap[P]? = some (.cells #[.slice da D0.length dc, .int .i64 t0, .int .i64 0] 38)) := (HBy5.out.block _ (Array.getElem?_eq_some_iff.1 HPXy.out).1).trans HPXy.out
                    have HKA : Hid (∀ W, Below wr.heap.size wr W → KLies ⟨.slice va D.length vc, D, t, 0⟩ W) := fun W hb => ⟨HSR.out.below (HB0y.out.trans (hb.mono hs0y)), HFB.out.t1, HFB.out.t2, by show (-9223372036854775808 : Int) ≤ 0; decide, by show (0 : Int) ≤ 9223372036854775807; decide⟩
                    obtain ⟨l1, Hl1⟩ := hid_ex (lessK ⟨.bool false, D, t, 0⟩ ⟨.bool false, D0, t0, 0⟩)
                    obtain ⟨l2, Hl2⟩ := hid_ex (lessK ⟨.bool false, D0, t0, 0⟩ ⟨.bool false, D, t, 0⟩)
                    have HSAME : Hid ((l1 = false ∧ l2 = false) ↔ kb D t 0 = KB) := by
                      rw [Hl1.out, Hl2.out, ← HK0.out]
                      exact same_key (a := ⟨.bool false, D, t, 0⟩) (b := ⟨.bool false, D0, t0, 0⟩) HRT.out HR0.out
                    have HL1 : Hid (∀ W, Below wr.heap.size wr W → Calls Try.prog 15 #[.agg #[.slice va D.length vc, .int .i64 t, .int .i64 0], .agg #[.slice da D0.length dc, .int .i64 t0, .int .i64 0]] W fun e w' => e = .returned (.bool l1) ∧ Below W.heap.size W w') := fun W hb => by
                      rw [Hl1.out]
                      exact less_any ⟨.slice va D.length vc, D, t, 0⟩ ⟨.slice da D0.length dc, D0, t0, 0⟩ W (HKA.out W hb) (HKLy.out.below hb)
                    have HL2 : Hid (∀ W, Below wr.heap.size wr W → Calls Try.prog 15 #[.agg #[.slice da D0.length dc, .int .i64 t0, .int .i64 0], .agg #[.slice va D.length vc, .int .i64 t, .int .i64 0]] W fun e w' => e = .returned (.bool l2) ∧ Below W.heap.size W w') := fun W hb => by
                      rw [Hl2.out]
                      exact less_any ⟨.slice da D0.length dc, D0, t0, 0⟩ ⟨.slice va D.length vc, D, t, 0⟩ W (HKLy.out.below hb) (HKA.out W hb)
                    obtain ⟨b0, b1, b2⟩ := kbox38 HXX.out
                    obtain ⟨d0, d1, d2⟩ := kbox38 HPX5.out
                    rw [← HW5.out, ← HPXX.out]
                    clear HW5 HPXX Hl1 Hl2
                    go_wp2_with fail
                    refine (HL1.out _ HBy5.out).mono ?_
                    rintro e w6 ⟨rfl, hb6⟩
                    have HBy6 : Hid (Below wr.heap.size wr w6) := HBy5.out.trans (hb6.mono HBy5.out.size)
                    have HX6 : Hid (w6.heap[PX]? = some (.cells #[.slice va D.length vc, .int .i64 t, .int .i64 0] 38)) := (hb6.block _ (Array.getElem?_eq_some_iff.1 HXX.out).1).trans HXX.out
                    have HP6 : Hid (w6.heap[P]? = some (.cells #[.slice da D0.length dc, .int .i64 t0, .int .i64 0] 38)) := (hb6.block _ (Array.getElem?_eq_some_iff.1 HPX5.out).1).trans HPX5.out
                    clear hb6 b0 b1 b2 d0 d1 d2
                    cases l1 with
                    | true =>
                      have HBc6 : Hid (Below wc.heap.size wc w6) := HBy.out.trans (HBy6.out.mono HBy.out.size)
                      have HIO6 : Hid (IOwn w6 wc.heap.size (.slice oa VL.length oc) VL) := HIO.out.below HBy6.out
                      have HVN : Hid (vls (fs.take (j + 1)) KB = VL) := by rw [HNX.out, if_neg (fun h => by have := (HSAME.out.2 h).1; cases this)]; rfl
                      go_wp2_with fail
                      go_roundw
                      case rel => exact ⟨j + 1, oa, oc, by omega, by go_num, by rw [HVN.out], by rw [HVN.out]; exact HIO6.out, HBc6.out⟩
                      case measure => simp [intOf]; omega
                    | false =>
                      obtain ⟨b0, b1, b2⟩ := kbox38 HX6.out
                      obtain ⟨d0, d1, d2⟩ := kbox38 HP6.out
                      go_wp2_with fail
                      refine (HL2.out _ HBy6.out).mono ?_
                      rintro e w7y ⟨rfl, hb7⟩
                      have HBy7 : Hid (Below wr.heap.size wr w7y) := HBy6.out.trans (hb7.mono HBy6.out.size)
                      have HBc7 : Hid (Below wc.heap.size wc w7y) := HBy.out.trans (HBy7.out.mono HBy.out.size)
                      have HIO7 : Hid (IOwn w7y wc.heap.size (.slice oa VL.length oc) VL) := HIO.out.below HBy7.out
                      clear hb7 b0 b1 b2 d0 d1 d2
                      cases l2 with
                      | true =>
                        have HVN : Hid (vls (fs.take (j + 1)) KB = VL) := by rw [HNX.out, if_neg (fun h => by have := (HSAME.out.2 h).2; cases this)]; rfl
                        go_wp2_with fail
                        go_roundw
                        case rel => exact ⟨j + 1, oa, oc, by omega, by go_num, by rw [HVN.out], by rw [HVN.out]; exact HIO7.out, HBc7.out⟩
                        case measure => simp [intOf]; omega
                      | false =>
                        have HVN : Hid (vls (fs.take (j + 1)) KB = VL ++ [x]) := by rw [HNX.out, if_pos (HSAME.out.1 (by simp))]; rfl
                        have c2 := ((HB0y.out.trans (HBy7.out.mono hs0y)).cell (p := ⟨b, foff + j * 3 + 2, none⟩) hbb).trans HC2f.out
                        have hsc7 := HBc7.out.size
                        go_wp2_with (at_builtin; refine wpList_iapp1 rfl _ _ rfl wc.heap.size _ VL x (VL ++ [x]) rfl rfl rfl rfl HIO7.out (by omega) hsc7 ?_)
                        intro v8 w8 ho8 HB8
                        obtain ⟨a8, c8, hv8, -⟩ := ho8.form
                        subst hv8
                        have HO8 : Hid (IOwn w8 wc.heap.size (.slice a8 (VL ++ [x]).length c8) (VL ++ [x])) := ho8
                        have HBc8 : Hid (Below wc.heap.size wc w8) := HBc7.out.trans HB8.out
                        clear ho8 c2
                        go_wp2_with fail
                        go_roundw
                        case rel => exact ⟨j + 1, a8, c8, by omega, by go_num, by rw [HVN.out], by rw [HVN.out]; exact HO8.out, HBc8.out⟩
                        case measure => simp [intOf]; omega
                  · have hil3 : decide ((j : Int) < (fs.length : Int)) = false := by simp; omega
                    have hvv : VL = vls fs KB := by rw [HVL.out, List.take_of_length_le (by omega)]
                    have hne : VL.length ≠ 0 := by rw [hvv]; have := HN1.out; omega
                    have hb0 : ((VL.length : Int) == 0) = false := beq_eq_false_iff_ne.2 (by omega)
                    have HRI : Hid (IReads wr (.slice oa VL.length oc) VL) := HIO.out.reads
                    have HBD : Hid (∀ z ∈ VL, -9223372036854775808 ≤ z ∧ z ≤ 9223372036854775807) := fun z hz => by
                      rw [hvv] at hz
                      unfold vls at hz
                      obtain ⟨f, hf, rfl⟩ := List.mem_map.1 hz
                      obtain ⟨i, hi, rfl⟩ := List.getElem_of_mem (List.mem_filter.1 hf).1
                      obtain ⟨_, _, _, _, _, _, h9⟩ := HF.out.at hi
                      exact ⟨h9.x1, h9.x2⟩
                    have HMN : Hid (∀ W, Below wr.heap.size wr W → Calls Try.prog 16 #[.slice oa VL.length oc] W fun e w' => e = .returned (.agg #[.int .u64 A.c, .bool A.o, .int .i64 (hi A.s), .int .u64 (lo A.s), .int .i64 A.mn, .int .i64 A.mx]) ∧ Below W.heap.size W w') := fun W hb => by
                      refine (many_any _ VL (by omega) HBD.out W (HRI.out.below hb)).mono ?_
                      rintro e w' ⟨A', rfl, hA, hb'⟩
                      have e1 : A' = A := by rw [HAA.out, ← hvv]; exact hA
                      rw [e1]
                      exact ⟨rfl, hb'⟩
                    have HB3y : Hid (Below w3.heap.size w3 wr) := HBc.out.trans (HBy.out.mono HBc.out.size)
                    have HCE : Hid (∀ W, Below wr.heap.size wr W → W.cell? ⟨xg, off + m * 7 + 1, none⟩ = some (.int .u64 A.c) ∧ W.cell? ⟨xg, off + m * 7 + 1 + 1, none⟩ = some (.bool A.o) ∧ W.cell? ⟨xg, off + m * 7 + 1 + 2, none⟩ = some (.int .i64 (hi A.s)) ∧ W.cell? ⟨xg, off + m * 7 + 1 + 3, none⟩ = some (.int .u64 (lo A.s)) ∧ W.cell? ⟨xg, off + m * 7 + 1 + 4, none⟩ = some (.int .i64 A.mn) ∧ W.cell? ⟨xg, off + m * 7 + 1 + 5, none⟩ = some (.int .i64 A.mx)) := fun W hb => by
                      have hbW : Below w3.heap.size w3 W := HB3y.out.trans (hb.mono HB3y.out.size)
                      have hall : ∀ i (h : i < 6), W.cell? ⟨xg, off + m * 7 + 1 + i, none⟩ = some ((c7 ⟨.slice ay KB.length cy, KB, A⟩)[i + 1]'(by rw [c7_len]; omega)) := fun i h => by
                        have h7 := HCR.out (i + 1) (by omega)
                        rw [show off + (7 * m + (i + 1)) = off + m * 7 + 1 + i by omega] at h7
                        exact (hbW.cell (p := ⟨xg, off + m * 7 + 1 + i, none⟩) hgl).trans h7
                      exact ⟨hall 0 (by decide), hall 1 (by decide), hall 2 (by decide), hall 3 (by decide), hall 4 (by decide), hall 5 (by decide)⟩
                    clear hvv
                    go_wp2_with fail
                    refine wp_region_noPanic ?_
                    refine wp_region_held_drew (S := (fun w' => Below wr.heap.size wr w')) (by kernel_rfl) ?_ (fun hHeld => ?_)
                    · exact (Below.refl _ _).drew
                    refine wpAnyH_take (i := 0) (v := .slice oa VL.length oc) rfl (by as_aux_lemma => kernel_rfl) (by as_aux_lemma => kernel_rfl) (by as_aux_lemma => kernel_rfl) (fun _ _ _ h => h) (Or.inl ⟨by rfl, ?_⟩) (by assumption) ?_
                    · (intro w1 hSw; (try dsimp only at hSw); go_simp)
                    simp only [List.getElem_toArray, List.getElem_cons_zero, Act.put, List.setIfInBounds_toArray, List.set_cons_zero, List.set_cons_succ]
                    refine wpAnyH_take (i := 1) (v := .int .i64 (VL.length : Int)) rfl (by as_aux_lemma => kernel_rfl) (by as_aux_lemma => kernel_rfl) (by as_aux_lemma => kernel_rfl) (fun _ _ _ h => h) (Or.inl ⟨by rfl, ?_⟩) (by assumption) ?_
                    · (intro w1 hSw; (try dsimp only at hSw); go_simp)
                    simp only [List.getElem_toArray, List.getElem_cons_succ, List.getElem_cons_zero, Act.put, List.setIfInBounds_toArray, List.set_cons_zero, List.set_cons_succ]
                    refine wpAnyH_take (i := 2) (v := .bool false) rfl (by as_aux_lemma => kernel_rfl) (by as_aux_lemma => kernel_rfl) (by as_aux_lemma => kernel_rfl) (fun _ _ _ h => h) (Or.inl ⟨by rfl, ?_⟩) (by assumption) ?_
                    · (intro w1 hSw; (try dsimp only at hSw); go_simp)
                    simp only [List.getElem_toArray, List.getElem_cons_succ, List.getElem_cons_zero, Act.put, List.setIfInBounds_toArray, List.set_cons_zero, List.set_cons_succ]
                    refine wpAnyH_take (i := 3) (v := .bool false) rfl (by as_aux_lemma => kernel_rfl) (by as_aux_lemma => kernel_rfl) (by as_aux_lemma => kernel_rfl) (fun _ _ _ h => h) (Or.inl ⟨by rfl, ?_⟩) (by assumption) ?_
                    · (intro w1 hSw; (try dsimp only at hSw); go_simp)
                    simp only [List.getElem_toArray, List.getElem_cons_succ, List.getElem_cons_zero, Act.put, List.setIfInBounds_toArray, List.set_cons_zero, List.set_cons_succ]
                    refine wpAnyH_take (i := 4) (v := .slice oa VL.length oc) rfl (by as_aux_lemma => kernel_rfl) (by as_aux_lemma => kernel_rfl) (by as_aux_lemma => kernel_rfl) (fun _ _ _ h => h) (Or.inl ⟨by rfl, ?_⟩) (by assumption) ?_
                    · (intro w1 hSw; (try dsimp only at hSw); go_simp)
                    simp only [List.getElem_toArray, List.getElem_cons_succ, List.getElem_cons_zero, Act.put, List.setIfInBounds_toArray, List.set_cons_zero, List.set_cons_succ]
                    refine wpAnyH_take (i := 6) (v := .slice (some ⟨xg, off, none⟩) xs.length xc) rfl (by as_aux_lemma => kernel_rfl) (by as_aux_lemma => kernel_rfl) (by as_aux_lemma => kernel_rfl) (fun _ _ _ h => h) (Or.inl ⟨by rfl, ?_⟩) (by assumption) ?_
                    · (intro w1 hSw; (try dsimp only at hSw); go_simp)
                    simp only [List.getElem_toArray, List.getElem_cons_succ, List.getElem_cons_zero, Act.put, List.setIfInBounds_toArray, List.set_cons_zero, List.set_cons_succ]
                    refine wpAnyH_take (i := 7) (v := .int .i64 (m : Int)) rfl (by as_aux_lemma => kernel_rfl) (by as_aux_lemma => kernel_rfl) (by as_aux_lemma => kernel_rfl) (fun _ _ _ h => h) (Or.inl ⟨by rfl, ?_⟩) (by assumption) ?_
                    · (intro w1 hSw; (try dsimp only at hSw); go_simp)
                    simp only [List.getElem_toArray, List.getElem_cons_succ, List.getElem_cons_zero, Act.put, List.setIfInBounds_toArray, List.set_cons_zero, List.set_cons_succ]
                    refine wpAnyH_take (i := 8) (v := .pointer (some ⟨xg, off + m * 7, none⟩)) rfl (by as_aux_lemma => kernel_rfl) (by as_aux_lemma => kernel_rfl) (by as_aux_lemma => kernel_rfl) (fun _ _ _ h => h) (Or.inl ⟨by rfl, ?_⟩) (by assumption) ?_
                    · (intro w1 hSw; (try dsimp only at hSw); go_simp)
                    simp only [List.getElem_toArray, List.getElem_cons_succ, List.getElem_cons_zero, Act.put, List.setIfInBounds_toArray, List.set_cons_zero, List.set_cons_succ]
                    refine wpAnyH_take (i := 9) (v := .pointer (some ⟨xg, off + m * 7 + 1, none⟩)) rfl (by as_aux_lemma => kernel_rfl) (by as_aux_lemma => kernel_rfl) (by as_aux_lemma => kernel_rfl) (fun _ _ _ h => h) (Or.inl ⟨by rfl, ?_⟩) (by assumption) ?_
                    · (intro w1 hSw; (try dsimp only at hSw); go_simp)
                    simp only [List.getElem_toArray, List.getElem_cons_succ, List.getElem_cons_zero, Act.put, List.setIfInBounds_toArray, List.set_cons_zero, List.set_cons_succ]
                    refine wpAnyH_take (i := 10) (v := .agg #[.int .u64 A.c, .bool A.o, .int .i64 (hi A.s), .int .u64 (lo A.s), .int .i64 A.mn, .int .i64 A.mx]) rfl (by as_aux_lemma => kernel_rfl) (by as_aux_lemma => kernel_rfl) (by as_aux_lemma => kernel_rfl) (fun _ _ _ h => h) (Or.inl ⟨by rfl, ?_⟩) (by assumption) ?_
                    · (intro w1 hSw; (try dsimp only at hSw); obtain ⟨e1, e2, e3, e4, e5, e6⟩ := HCE.out w1 hSw; go_simp)
                    simp only [List.getElem_toArray, List.getElem_cons_succ, List.getElem_cons_zero, Act.put, List.setIfInBounds_toArray, List.set_cons_zero, List.set_cons_succ]
                    refine wpAnyH_ready (rs := [5]) (by as_aux_lemma => kernel_rfl) (by simp) ?_
                    refine AllReadyH.cons (o := _) rfl (fun K hK => ?_) AllReadyH.nil
                    go_simp
                    refine (HMN.out _ (Below.refl _ _).drew).mono ?_
                    rintro e w9 ⟨rfl, hb9'⟩
                    have HB9 : Hid (Below wr.heap.size wr w9) := (Below.refl _ _).drew.trans hb9'
                    have HB39 : Hid (Below w3.heap.size w3 w9) := HB3y.out.trans (HB9.out.mono HB3y.out.size)
                    clear hb9'
                    refine hK.out _ _ ?_ (fun hHeld => ?_)
                    · exact HB9.out
                    clear hK K
                    refine wpAnyH_take (i := 11) (v := .bool false) rfl (by as_aux_lemma => kernel_rfl) (by as_aux_lemma => kernel_rfl) (by as_aux_lemma => kernel_rfl) (fun _ _ _ h => h) (Or.inl ⟨by rfl, ?_⟩) (by assumption) ?_
                    · (intro w1 hSw; (try dsimp only at hSw); go_simp)
                    simp only [List.getElem_toArray, List.getElem_cons_succ, List.getElem_cons_zero, Act.put, List.setIfInBounds_toArray, List.set_cons_zero, List.set_cons_succ]
                    refine wpAnyH_take (i := 12) (v := .bool false) rfl (by as_aux_lemma => kernel_rfl) (by as_aux_lemma => kernel_rfl) (by as_aux_lemma => kernel_rfl) (fun _ _ _ h => h) (Or.inl ⟨by rfl, ?_⟩) (by assumption) ?_
                    · (intro w1 hSw; (try dsimp only at hSw); go_simp)
                    simp only [List.getElem_toArray, List.getElem_cons_succ, List.getElem_cons_zero, Act.put, List.setIfInBounds_toArray, List.set_cons_zero, List.set_cons_succ]
                    refine wpAnyH_done (by as_aux_lemma => kernel_rfl) ?_ _
                    refine NoPanic.normal ?_
                    clear hHeld
                    go_wp2_with fail
                    go_roundw
                    case rel => exact ⟨m + 1, by omega, by go_num, HB39.out⟩
                    case measure => simp [intOf]; omega
            · have hil2 : decide ((m : Int) < (xs.length : Int)) = false := by simp; omega
              go_wp2_with fail
              refine (HAL.out _).mono ?_
              rintro e w6 ⟨rfl, hb6⟩
              have HB6 : Hid (Below w0.heap.size w0 w6) := HB3.out.trans ((HBz.out.trans (hb6.mono HBz.out.size)).mono HB3.out.size)
              clear hb6
              have hle : decide ((xs.length : Int) ≤ (fs.length : Int)) = true := by simp; omega
              by_cases hf0 : 0 < fs.length
              · have hx0 := HX0.out hf0
                have e1 : decide ((xs.length : Int) > 0) = true := decide_eq_true (by omega)
                have e2 : decide ((fs.length : Int) > 0) = true := decide_eq_true (by omega)
                have e3 : decide ((0 : Int) < (xs.length : Int)) = true := decide_eq_true (by omega)
                have e4 : decide ((0 : Int) < (fs.length : Int)) = true := decide_eq_true (by omega)
                go_wp2_with fail
                go_ret
                exact ⟨rfl, HB6.out⟩
              · have hx0 : xs.length = 0 := by omega
                have e1 : decide ((xs.length : Int) > 0) = false := decide_eq_false (by omega)
                have e2 : decide ((fs.length : Int) > 0) = false := decide_eq_false (by omega)
                have e3 : decide ((0 : Int) < (xs.length : Int)) = false := decide_eq_false (by omega)
                have e4 : decide ((0 : Int) < (fs.length : Int)) = false := decide_eq_false (by omega)
                go_wp2_with fail
                go_ret
                exact ⟨rfl, HB6.out⟩
    · exact absurd (show newOk 512 4 by unfold newOk; decide) hno
end Go.Proofs.Ytdeaglfjlfbdoaa
