/- The walk of FoldKeeps (written by mkfk2.py). -/
import Derived.Test.YtbadjigfcncfcaaFK1
namespace Go.Proofs.Ytbadjigfcncfcaa
open Go.RowKit

theorem set6' {w : World} {b : Nat} {T : TypeId} {x0 x1 x2 x3 x4 x5 : Value} (h : w.heap[b]? = some (.cells #[x0, x1, x2, x3, x4, x5] T)) (v0 v1 v2 v3 v4 v5 : Value) :
    ((((((w.setCell ⟨b, 0, none⟩ v0).setCell ⟨b, 1, none⟩ v1).setCell ⟨b, 2, none⟩ v2).setCell ⟨b, 3, none⟩ v3).setCell ⟨b, 4, none⟩ v4).setCell ⟨b, 5, none⟩ v5).heap[b]? = some (.cells #[v0, v1, v2, v3, v4, v5] T) := by
  have h0 := Go.heap_setCell_same w b 0 _ _ v0 h
  have h1 := Go.heap_setCell_same _ b 1 _ _ v1 h0
  have h2 := Go.heap_setCell_same _ b 2 _ _ v2 h1
  have h3 := Go.heap_setCell_same _ b 3 _ _ v3 h2
  have h4 := Go.heap_setCell_same _ b 4 _ _ v4 h3
  have h5 := Go.heap_setCell_same _ b 5 _ _ v5 h4
  simpa using h5
theorem below6' {w0 w : World} {n b : Nat} (h : Below n w0 w) (hb : n ≤ b) (v0 v1 v2 v3 v4 v5 : Value) :
    Below n w0 ((((((w.setCell ⟨b, 0, none⟩ v0).setCell ⟨b, 1, none⟩ v1).setCell ⟨b, 2, none⟩ v2).setCell ⟨b, 3, none⟩ v3).setCell ⟨b, 4, none⟩ v4).setCell ⟨b, 5, none⟩ v5) := (((((h.setCell hb _).setCell hb _).setCell hb _).setCell hb _).setCell hb _).setCell hb _
theorem c_rw {w : World} {b : Nat} {cs : Array Value} {T : TypeId} (h : w.heap[b]? = some (.cells cs T)) (i : Nat) (hi : i < cs.size) : w.cell? ⟨b, i, none⟩ = some cs[i] := by
  simp [World.cell?, h, hi]
theorem f_rw {w : World} {b : Nat} {cs : Array Value} {T : TypeId} (h : w.heap[b]? = some (.cells cs T)) (i : Nat) : w.frozen? ⟨b, i, none⟩ = false := by
  simp [World.frozen?, h]
theorem heap_2 (w : World) (o1 o2 : Obj) : ((w.alloc o1).alloc o2).heap[w.heap.size + 1]? = some o2 ∧ ((w.alloc o1).alloc o2).heap[w.heap.size]? = some o1 := by
  have h1 := heap_alloc_new (w.alloc o1) o2
  rw [show (w.alloc o1).heap.size = w.heap.size + 1 by simp] at h1
  refine ⟨h1, ?_⟩
  have h2 := heap_alloc_new w o1
  have hb := (Below.refl (w.alloc o1).heap.size (w.alloc o1)).alloc (Nat.le_refl _) o2
  rw [hb.block w.heap.size (by simp)]; exact h2
theorem other6 {w : World} {b c : Nat} {o : Obj} (hne : c ≠ b) (h : w.heap[c]? = some o) (v0 v1 v2 v3 v4 v5 : Value) :
    ((((((w.setCell ⟨b, 0, none⟩ v0).setCell ⟨b, 1, none⟩ v1).setCell ⟨b, 2, none⟩ v2).setCell ⟨b, 3, none⟩ v3).setCell ⟨b, 4, none⟩ v4).setCell ⟨b, 5, none⟩ v5).heap[c]? = some o := by
  rw [Go.heap_setCell_other _ _ _ _ hne, Go.heap_setCell_other _ _ _ _ hne, Go.heap_setCell_other _ _ _ _ hne, Go.heap_setCell_other _ _ _ _ hne, Go.heap_setCell_other _ _ _ _ hne, Go.heap_setCell_other _ _ _ _ hne]
  exact h
theorem eReads_lt {w : World} {a : Option Addr} {n cap : Nat} {L : List En} (h : EReads w (.slice a n cap) L) {k : Nat} (hk : k < L.length) : ∃ b off, a = some ⟨b, off, none⟩ ∧ b < w.heap.size := by
  obtain ⟨b, off, sa, sc, rfl, hc⟩ := eReads_key h hk
  exact ⟨b, off, rfl, (cell_block hc).1⟩
theorem six_cells {W : World} {p : Nat} {A : Ag} {T : TypeId} (h : W.heap[p]? = some (.cells #[.int .u64 A.c, .bool A.o, .int .i64 (hi A.s), .int .u64 (lo A.s), .int .i64 A.mn, .int .i64 A.mx] T)) : W.cell? ⟨p, 0, none⟩ = some (.int .u64 A.c) ∧ W.cell? ⟨p, 1, none⟩ = some (.bool A.o) ∧ W.cell? ⟨p, 2, none⟩ = some (.int .i64 (hi A.s)) ∧ W.cell? ⟨p, 3, none⟩ = some (.int .u64 (lo A.s)) ∧ W.cell? ⟨p, 4, none⟩ = some (.int .i64 A.mn) ∧ W.cell? ⟨p, 5, none⟩ = some (.int .i64 A.mx) := by
  refine ⟨?_, ?_, ?_, ?_, ?_, ?_⟩
  · exact c_rw h 0 (by simp)
  · exact c_rw h 1 (by simp)
  · exact c_rw h 2 (by simp)
  · exact c_rw h 3 (by simp)
  · exact c_rw h 4 (by simp)
  · exact c_rw h 5 (by simp)
theorem st6 {w W : World} {g : Nat} {T : TypeId} {cur : Array Value} {v0 v1 v2 v3 v4 v5 : Value} (hz : cur.size = 6) (h : StW w W g 0 cur T [v0, v1, v2, v3, v4, v5]) : W.heap[g]? = some (.cells #[v0, v1, v2, v3, v4, v5] T) := by
  obtain ⟨c, h1, h2, _, h4⟩ := h.c
  rw [h1]
  have e : c = #[v0, v1, v2, v3, v4, v5] := by
    apply Array.ext
    · rw [h2, hz]; rfl
    · intro i hi hi2
      have hi3 : i < 6 := hi2
      have h5 := h4 i hi3
      rw [Nat.zero_add, Array.getElem?_eq_getElem hi] at h5
      simpa using h5
  rw [e]
set_option maxRecDepth 100000 in
set_option maxHeartbeats 8000000 in
theorem keeps_walk (R : Rl) (wm : Int) (v : Value) (fs : List Fa) (w : World) (hL : Lies R w.heap.size w) (hF : FReads w v fs) :
    Calls Try.prog 8 #[.agg #[.slice R.a R.len R.cap, .int .i64 R.kp], .int .i64 wm, v] w fun e w' => e = .returned (.bool true) ∧ Below w.heap.size w w' := by
  have HF : Hid (FReads w v fs) := hF
  have HL : Hid (Lies R w.heap.size w) := hL
  obtain ⟨a, cap, rfl, hm1, hm2⟩ := hF.form
  unfold maxLen at hm2
  clear hF hL
  obtain ⟨w1, HW1⟩ := hid_ex (w.alloc (.cells #[.slice R.a R.len R.cap, .int .i64 R.kp] 33))
  have HB1 : Hid (Below w.heap.size w w1) := by rw [HW1.out]; exact new_below _ _
  have HX1 : Hid (RBox R w.heap.size w1) := by rw [HW1.out]; exact RBox.new R w _
  have HLI : Hid (∀ W, Below w1.heap.size w1 W → Lies R W.heap.size W ∧ RBox R w.heap.size W ∧ Below w.heap.size w W ∧ FReads W (.slice a fs.length cap) fs) := fun W hW => by
    have hb := HB1.out.trans (hW.mono HB1.out.size)
    exact ⟨HL.out.at hb, HX1.out.below hW, hb, HF.out.below hb⟩
  go_enter Try.func8, Try.ntmps8
  go_wp2_with fail
  rw [← HW1.out]
  clear HW1
  refine (many15_any _ fs _ (HLI.out _ (Below.refl _ _)).2.2.2).mono ?_
  rintro e w2 ⟨gg, rfl, hgg, hw2⟩
  rw [hw2]
  clear hw2 w2
  cases gg with
  | true =>
    go_wp2_with fail
    refine (alive15_any _).mono ?_
    rintro e w2 ⟨rfl, hb2⟩
    have HB2 : Hid (Below w.heap.size w w2) := HB1.out.trans (hb2.mono HB1.out.size)
    clear hb2
    go_wp2_with fail
    go_ret
    exact ⟨rfl, HB2.out⟩
  | false =>
    have hl : fs.length ≤ 60 := hgg rfl
    clear hgg
    obtain ⟨r0, r1⟩ := HX1.out.at
    go_wp2_with fail
    refine (facts_any R wm _ fs _ (HLI.out _ (Below.refl _ _)).1 (HLI.out _ (Below.refl _ _)).2.2.2 (by omega) (sorts_all _ (by omega))).mono ?_
    rintro e w2 ⟨hb2, ⟨hne, rfl⟩ | ⟨_, _, rfl⟩ | ⟨hz, hall, v2, rfl, hr2⟩⟩
    · have hb0 : (fE R 0 wm == 0) = false := by simp [hne]
      have HB2 : Hid (Below w.heap.size w w2) := HB1.out.trans (hb2.mono HB1.out.size)
      clear hne hb2 r0 r1
      generalize fE R 0 wm = rr at *
      go_wp2_with fail
      refine (alive15_any _).mono ?_
      rintro e w3 ⟨rfl, hb3⟩
      have HB3 : Hid (Below w.heap.size w w3) := HB2.out.trans (hb3.mono HB2.out.size)
      clear hb3
      go_wp2_with fail
      go_ret
      exact ⟨rfl, HB3.out⟩
    · have HB2 : Hid (Below w.heap.size w w2) := HB1.out.trans (hb2.mono HB1.out.size)
      clear hb2 r0 r1
      go_wp2_with fail
      refine (alive15_any _).mono ?_
      rintro e w3 ⟨rfl, hb3⟩
      have HB3 : Hid (Below w.heap.size w w3) := HB2.out.trans (hb3.mono HB2.out.size)
      clear hb3
      go_wp2_with fail
      go_ret
      exact ⟨rfl, HB3.out⟩
    · have HR : Hid (RightP R) := (fE_ok hz).1
      have hwt : isT wm = true := (fE_ok hz).2.2
      have HSM : Hid (wtF R wm agZ fs = sml agZ (foldF R wm (fs.map (fcE R)))) := keeps_pure HR.out hall
      have HGA : Hid (GdE (foldF R wm (fs.map (fcE R)))) := foldF_gd (fcE_gd R fs)
      have hla : (foldF R wm (fs.map (fcE R))).length ≤ 60 := by have := foldF_len R wm (fs.map (fcE R)); rw [List.length_map] at this; omega
      have HWT : Hid (∀ k, Gd (wtF R wm agZ (fs.take k))) := fun k => wt_gd Gd.zero
      have HEX : Hid (∀ k (hk : k < fs.length), fE R fs[k].t wm = 0 ∧ exA R fs[k].t wm = goneB R wm fs[k].t) := fun k hk => by
        have h1 := List.all_eq_true.1 hall fs[k] (List.getElem_mem hk)
        have h2 : isT fs[k].t = true := by unfold mayF at h1; simp at h1; exact h1.1
        have h3 : fE R fs[k].t wm = 0 := by unfold fE; rw [if_pos HR.out, h2, hwt]; rfl
        refine ⟨h3, ?_⟩
        unfold exA goneB
        rw [if_pos h3]
      obtain ⟨L, HLe⟩ := hid_ex (foldF R wm (fs.map (fcE R)))
      rw [← HLe.out] at hr2 HSM HGA hla
      obtain ⟨xa, xc, rfl, hx1, hx2⟩ := hr2.form
      unfold maxLen at hx2
      have HB2 : Hid (Below w1.heap.size w1 w2) := hb2
      have HR2 : Hid (EReads w2 (.slice xa L.length xc) L) := hr2
      have HLJ : Hid (∀ W, Below w2.heap.size w2 W → Lies R W.heap.size W ∧ RBox R w.heap.size W ∧ Below w.heap.size w W ∧ FReads W (.slice a fs.length cap) fs ∧ EReads W (.slice xa L.length xc) L) := fun W hW => by
        obtain ⟨k1, k2, k3, k4⟩ := HLI.out W (HB2.out.trans (hW.mono HB2.out.size))
        exact ⟨k1, k2, k3, k4, HR2.out.below hW⟩
      clear hb2 r0 r1 hr2 hz hall HLe hwt
      go_wp2_with fail
      go_loopw [11] (fun i wr => ∃ (k : Nat) (A : Ag), k ≤ fs.length ∧ i = .int .i64 (k : Int) ∧ Hid (A = wtF R wm agZ (fs.take k)) ∧ Hid (wr.heap[w2.heap.size]? = some (.cells #[.int .u64 A.c, .bool A.o, .int .i64 (hi A.s), .int .u64 (lo A.s), .int .i64 A.mn, .int .i64 A.mx] 53)) ∧ Hid (wr.heap[w2.heap.size + 1]? = some (.cells #[.int .u64 agZ.c, .bool agZ.o, .int .i64 (hi agZ.s), .int .u64 (lo agZ.s), .int .i64 agZ.mn, .int .i64 agZ.mx] 53)) ∧ Hid (Below w2.heap.size w2 wr)) (fun i _ => fs.length - (intOf i).toNat)
      case atStart => exact ⟨0, agZ, by omega, rfl, rfl, (heap_2 w2 _ _).2, (heap_2 w2 _ _).1, ((Below.refl _ _).alloc (Nat.le_refl _) _).alloc (by simp) _⟩
      case round =>
        obtain ⟨k, A, hk, rfl, HA, HC3, HZ3, HB3⟩ := hrel
        obtain ⟨w3, rfl⟩ : ∃ x, x = wr := ⟨_, rfl⟩
        obtain ⟨hL3, hX3, _, hF3, _⟩ := HLJ.out _ HB3.out
        by_cases hlt : k < fs.length
        · obtain ⟨b, off, rfl, hbw, hcw, _, hfb⟩ := hF3.at hlt
          have c1 := hcw 1 (by decide)
          have c2 := hcw 2 (by decide)
          simp only [c3, List.getElem_cons_zero, List.getElem_cons_succ] at c1 c2
          obtain ⟨he1, he2⟩ := HEX.out k hlt
          have HNX : Hid (wtF R wm agZ (fs.take (k + 1)) = if goneB R wm fs[k].t then A else mrg A (oneF fs[k].x)) := by rw [HA.out]; exact wt_next hlt
          obtain ⟨X, HX⟩ := hid_ex fs[k]
          rw [← HX.out] at c1 c2 he1 he2 HNX hfb
          have HEP : Hid (∀ W, Lies R W.heap.size W → Calls Try.prog 20 #[.agg #[.slice R.a R.len R.cap, .int .i64 R.kp], .int .i64 X.t, .int .i64 wm] W fun e w' => e = .returned (.tuple #[.bool (goneB R wm X.t), .int .i64 0]) ∧ Below W.heap.size W w') := fun W hW => by
            have := expired_any R X.t wm W hW
            rw [he1, he2] at this
            exact this
          obtain ⟨g, Hg⟩ := hid_ex (goneB R wm X.t)
          rw [← Hg.out] at HNX HEP
          have hwr := HB3.out.size
          obtain ⟨r0, r1⟩ := hX3.at
          have hac := (HWT.out k).c
          rw [← HA.out] at hac
          have HAC : Hid _ := hac
          have HFB : Hid _ := hfb
          have HCL : Hid (∀ W, Below w3.heap.size w3 W → W.cell? ⟨b, off + k * 3 + 2, none⟩ = some (.int .i64 X.x)) := fun W hW => (hW.cell (p := ⟨b, off + k * 3 + 2, none⟩) hbw).trans c2
          clear hcw he1 he2 HX Hg hac hfb hX3 hF3
          have HC1 : Hid (∀ W, Below w3.heap.size w3 W → W.cell? ⟨b, off + k * 3 + 1, none⟩ = some (.int .i64 X.t)) := fun W hW => (hW.cell (p := ⟨b, off + k * 3 + 1, none⟩) hbw).trans c1
          clear c1 c2 r0 r1 hL3
          go_wp2_with fail
          refine wp_region_noPanic ?_
          refine wp_region_held_drew (S := (fun w' => Below w3.heap.size w3 w')) (by kernel_rfl) ?_ (fun hHeld => ?_)
          · exact (Below.refl _ _).drew
          refine wpAnyH_take (i := 0) (v := .agg #[.slice R.a R.len R.cap, .int .i64 R.kp]) rfl (by kernel_rfl) (by kernel_rfl) (by kernel_rfl) (fun _ _ _ h => h) (Or.inl ⟨by rfl, ?_⟩) (by assumption) ?_
          · (intro w1 hSw; (try dsimp only at hSw); obtain ⟨r0, r1⟩ := (HLJ.out _ (HB3.out.trans (hSw.mono HB3.out.size))).2.1.at; go_simp)
          simp only [List.getElem_toArray, List.getElem_cons_zero, Act.put, List.setIfInBounds_toArray, List.set_cons_zero, List.set_cons_succ]
          refine wpAnyH_take (i := 1) (v := .slice (some ⟨b, off, none⟩) fs.length cap) rfl (by kernel_rfl) (by kernel_rfl) (by kernel_rfl) (fun _ _ _ h => h) (Or.inl ⟨by rfl, ?_⟩) (by assumption) ?_
          · (intro w1 hSw; (try dsimp only at hSw); go_simp)
          simp only [List.getElem_toArray, List.getElem_cons_succ, List.getElem_cons_zero, Act.put, List.setIfInBounds_toArray, List.set_cons_zero, List.set_cons_succ]
          refine wpAnyH_take (i := 2) (v := .int .i64 (k : Int)) rfl (by kernel_rfl) (by kernel_rfl) (by kernel_rfl) (fun _ _ _ h => h) (Or.inl ⟨by rfl, ?_⟩) (by assumption) ?_
          · (intro w1 hSw; (try dsimp only at hSw); go_simp)
          simp only [List.getElem_toArray, List.getElem_cons_succ, List.getElem_cons_zero, Act.put, List.setIfInBounds_toArray, List.set_cons_zero, List.set_cons_succ]
          refine wpAnyH_take (i := 3) (v := .pointer (some ⟨b, off + k * 3, none⟩)) rfl (by kernel_rfl) (by kernel_rfl) (by kernel_rfl) (fun _ _ _ h => h) (Or.inl ⟨by rfl, ?_⟩) (by assumption) ?_
          · (intro w1 hSw; (try dsimp only at hSw); go_simp)
          simp only [List.getElem_toArray, List.getElem_cons_succ, List.getElem_cons_zero, Act.put, List.setIfInBounds_toArray, List.set_cons_zero, List.set_cons_succ]
          refine wpAnyH_take (i := 4) (v := .pointer (some ⟨b, off + k * 3 + 1, none⟩)) rfl (by kernel_rfl) (by kernel_rfl) (by kernel_rfl) (fun _ _ _ h => h) (Or.inl ⟨by rfl, ?_⟩) (by assumption) ?_
          · (intro w1 hSw; (try dsimp only at hSw); go_simp)
          simp only [List.getElem_toArray, List.getElem_cons_succ, List.getElem_cons_zero, Act.put, List.setIfInBounds_toArray, List.set_cons_zero, List.set_cons_succ]
          refine wpAnyH_take (i := 5) (v := .int .i64 X.t) rfl (by kernel_rfl) (by kernel_rfl) (by kernel_rfl) (fun _ _ _ h => h) (Or.inl ⟨by rfl, ?_⟩) (by assumption) ?_
          · (intro w1 hSw; (try dsimp only at hSw); have c1 := HC1.out _ hSw; go_simp)
          simp only [List.getElem_toArray, List.getElem_cons_succ, List.getElem_cons_zero, Act.put, List.setIfInBounds_toArray, List.set_cons_zero, List.set_cons_succ]
          refine wpAnyH_take (i := 6) (v := .int .i64 wm) rfl (by kernel_rfl) (by kernel_rfl) (by kernel_rfl) (fun _ _ _ h => h) (Or.inl ⟨by rfl, ?_⟩) (by assumption) ?_
          · (intro w1 hSw; (try dsimp only at hSw); go_simp)
          simp only [List.getElem_toArray, List.getElem_cons_succ, List.getElem_cons_zero, Act.put, List.setIfInBounds_toArray, List.set_cons_zero, List.set_cons_succ]
          refine wpAnyH_ready (rs := [7]) (by kernel_rfl) (by simp) ?_
          refine AllReadyH.cons (o := _) rfl (fun K hK => ?_) AllReadyH.nil
          go_simp
          refine (HEP.out _ (HLJ.out _ (HB3.out.trans ((Below.refl w3.heap.size w3).drew.mono HB3.out.size))).1).mono ?_
          rintro e w4 ⟨rfl, hb4'⟩
          have hb4 : Below w3.heap.size w3 w4 := (Below.refl w3.heap.size w3).drew.trans hb4'
          refine hK.out _ _ ?_ (fun hHeld => ?_)
          · exact hb4
          clear hK K
          refine wpAnyH_take (i := 8) (v := .tuple #[.bool g, .int .i64 0]) rfl (by kernel_rfl) (by kernel_rfl) (by kernel_rfl) (fun _ _ _ h => h) (Or.inl ⟨by rfl, ?_⟩) (by assumption) ?_
          · (intro w1 hSw; (try dsimp only at hSw); go_simp)
          simp only [List.getElem_toArray, List.getElem_cons_succ, List.getElem_cons_zero, Act.put, List.setIfInBounds_toArray, List.set_cons_zero, List.set_cons_succ]
          refine wpAnyH_take (i := 9) (v := .bool g) rfl (by kernel_rfl) (by kernel_rfl) (by kernel_rfl) (fun _ _ _ h => h) (Or.inl ⟨by rfl, ?_⟩) (by assumption) ?_
          · (intro w1 hSw; (try dsimp only at hSw); go_simp)
          simp only [List.getElem_toArray, List.getElem_cons_succ, List.getElem_cons_zero, Act.put, List.setIfInBounds_toArray, List.set_cons_zero, List.set_cons_succ]
          refine wpAnyH_take (i := 10) (v := .int .i64 0) rfl (by kernel_rfl) (by kernel_rfl) (by kernel_rfl) (fun _ _ _ h => h) (Or.inl ⟨by rfl, ?_⟩) (by assumption) ?_
          · (intro w1 hSw; (try dsimp only at hSw); go_simp)
          simp only [List.getElem_toArray, List.getElem_cons_succ, List.getElem_cons_zero, Act.put, List.setIfInBounds_toArray, List.set_cons_zero, List.set_cons_succ]
          refine wpAnyH_take (i := 11) (v := .bool g) rfl (by kernel_rfl) (by kernel_rfl) (by kernel_rfl) (fun _ _ _ h => h) (Or.inl ⟨by rfl, ?_⟩) (by assumption) ?_
          · (intro w1 hSw; (try dsimp only at hSw); go_simp)
          simp only [List.getElem_toArray, List.getElem_cons_succ, List.getElem_cons_zero, Act.put, List.setIfInBounds_toArray, List.set_cons_zero, List.set_cons_succ]
          refine wpAnyH_take (i := 12) (v := .int .i64 0) rfl (by kernel_rfl) (by kernel_rfl) (by kernel_rfl) (fun _ _ _ h => h) (Or.inl ⟨by rfl, ?_⟩) (by assumption) ?_
          · (intro w1 hSw; (try dsimp only at hSw); go_simp)
          simp only [List.getElem_toArray, List.getElem_cons_succ, List.getElem_cons_zero, Act.put, List.setIfInBounds_toArray, List.set_cons_zero, List.set_cons_succ]
          clear hHeld hb4'
          refine wpAnyH_done (by kernel_rfl) ?_ _
          refine NoPanic.normal ?_
          have HB34 : Hid (Below w3.heap.size w3 w4) := hb4
          have HC4 : Hid (w4.heap[w2.heap.size]? = some (.cells #[.int .u64 A.c, .bool A.o, .int .i64 (hi A.s), .int .u64 (lo A.s), .int .i64 A.mn, .int .i64 A.mx] 53)) := (hb4.block _ (Array.getElem?_eq_some_iff.1 HC3.out).1).trans HC3.out
          have HZ4 : Hid (w4.heap[w2.heap.size + 1]? = some (.cells #[.int .u64 agZ.c, .bool agZ.o, .int .i64 (hi agZ.s), .int .u64 (lo agZ.s), .int .i64 agZ.mn, .int .i64 agZ.mx] 53)) := (hb4.block _ (Array.getElem?_eq_some_iff.1 HZ3.out).1).trans HZ3.out
          have HB4 : Hid (Below w2.heap.size w2 w4) := HB3.out.trans (hb4.mono HB3.out.size)
          clear hb4
          cases g with
          | true =>
            go_wp2_with fail
            go_roundw
            case rel => exact ⟨k + 1, A, by omega, by go_num, by rw [HNX.out]; rfl, HC4, HZ4, HB4⟩
            case measure => simp [intOf]; omega
          | false =>
            obtain ⟨O, HO⟩ := hid_ex (oneF X.x)
            obtain ⟨N, HN⟩ := hid_ex (mrg A O)
            have HON : Hid (∀ w, Calls Try.prog 22 #[.int .i64 X.x] w fun e w' => e = .returned (.agg #[.int .u64 O.c, .bool O.o, .int .i64 (hi O.s), .int .u64 (lo O.s), .int .i64 O.mn, .int .i64 O.mx]) ∧ Below w.heap.size w w') := by
              intro w; rw [HO.out]; exact one_any X.x HFB.out.x1 HFB.out.x2 w
            have HMG : Hid (∀ w, Calls Try.prog 21 #[.agg #[.int .u64 A.c, .bool A.o, .int .i64 (hi A.s), .int .u64 (lo A.s), .int .i64 A.mn, .int .i64 A.mx], .agg #[.int .u64 O.c, .bool O.o, .int .i64 (hi O.s), .int .u64 (lo O.s), .int .i64 O.mn, .int .i64 O.mx]] w fun e w' => e = .returned (.agg #[.int .u64 N.c, .bool N.o, .int .i64 (hi N.s), .int .u64 (lo N.s), .int .i64 N.mn, .int .i64 N.mx]) ∧ Below w.heap.size w w') := by
              intro w; rw [HN.out]
              exact merge_any A O HAC.out.1 HAC.out.2 (by rw [HO.out]; show (0 : Int) ≤ 1; decide) (by rw [HO.out]; show (1 : Int) < 18446744073709551616; decide) w
            have HNN : Hid (N = wtF R wm agZ (fs.take (k + 1))) := by rw [HNX.out, HN.out, HO.out]; rfl
            have hwr4 := HB4.out.size
            clear HO HN HNX HEP
            go_wp2_with fail
            obtain ⟨z0, z1, z2, z3, z4, z5⟩ := six_cells HC4.out
            have c2 := HCL.out _ HB34.out
            refine wp_region_noPanic ?_
            refine wp_region_S 8 (fun _ => True) (fun w' => w'.cell? ⟨w2.heap.size, 0, none⟩ = some (.int .u64 A.c) ∧ w'.cell? ⟨w2.heap.size, 1, none⟩ = some (.bool A.o) ∧ w'.cell? ⟨w2.heap.size, 2, none⟩ = some (.int .i64 (hi A.s)) ∧ w'.cell? ⟨w2.heap.size, 3, none⟩ = some (.int .u64 (lo A.s)) ∧ w'.cell? ⟨w2.heap.size, 4, none⟩ = some (.int .i64 A.mn) ∧ w'.cell? ⟨w2.heap.size, 5, none⟩ = some (.int .i64 A.mx) ∧ w'.cell? ⟨b, off + k * 3 + 2, none⟩ = some (.int .i64 X.x)) (by kernel_rfl) ?_ ?_ (fun hHeld => ?_)
            · trivial
            · exact ⟨z0, z1, z2, z3, z4, z5, c2⟩
            refine wpAnyS_take (i := 0) (v := .agg #[.int .u64 A.c, .bool A.o, .int .i64 (hi A.s), .int .u64 (lo A.s), .int .i64 A.mn, .int .i64 A.mx]) true rfl (by kernel_rfl) (by kernel_rfl) (by kernel_rfl) (by kernel_rfl) (by kernel_rfl) (by kernel_rfl) (fun _ _ _ h => h) (Or.inl ⟨by rfl, ?_⟩) hHeld (fun hHeld => ?_)
            · (intro w1 hSw; have hSw2 := hSw.2 rfl; have hSw := hSw.1; (try dsimp only at hSw hSw2); go_simp)
            simp only [List.getElem_toArray, List.getElem_cons_zero, Act.put, List.setIfInBounds_toArray, List.set_cons_zero, List.set_cons_succ]
            refine wpAnyS_take (i := 1) (v := .slice (some ⟨b, off, none⟩) fs.length cap) _ rfl (by kernel_rfl) (by kernel_rfl) (by kernel_rfl) (by kernel_rfl) (by kernel_rfl) rfl (fun _ _ _ h => h) (Or.inl ⟨by rfl, ?_⟩) hHeld (fun hHeld => ?_)
            · (intro w1 hSw; have hSw := hSw.1; (try dsimp only at hSw); go_simp)
            simp only [List.getElem_toArray, List.getElem_cons_succ, List.getElem_cons_zero, Act.put, List.setIfInBounds_toArray, List.set_cons_zero, List.set_cons_succ]
            refine wpAnyS_take (i := 2) (v := .int .i64 (k : Int)) _ rfl (by kernel_rfl) (by kernel_rfl) (by kernel_rfl) (by kernel_rfl) (by kernel_rfl) rfl (fun _ _ _ h => h) (Or.inl ⟨by rfl, ?_⟩) hHeld (fun hHeld => ?_)
            · (intro w1 hSw; have hSw := hSw.1; (try dsimp only at hSw); go_simp)
            simp only [List.getElem_toArray, List.getElem_cons_succ, List.getElem_cons_zero, Act.put, List.setIfInBounds_toArray, List.set_cons_zero, List.set_cons_succ]
            refine wpAnyS_take (i := 3) (v := .pointer (some ⟨b, off + k * 3, none⟩)) _ rfl (by kernel_rfl) (by kernel_rfl) (by kernel_rfl) (by kernel_rfl) (by kernel_rfl) rfl (fun _ _ _ h => h) (Or.inl ⟨by rfl, ?_⟩) hHeld (fun hHeld => ?_)
            · (intro w1 hSw; have hSw := hSw.1; (try dsimp only at hSw); go_simp)
            simp only [List.getElem_toArray, List.getElem_cons_succ, List.getElem_cons_zero, Act.put, List.setIfInBounds_toArray, List.set_cons_zero, List.set_cons_succ]
            refine wpAnyS_take (i := 4) (v := .pointer (some ⟨b, off + k * 3 + 2, none⟩)) _ rfl (by kernel_rfl) (by kernel_rfl) (by kernel_rfl) (by kernel_rfl) (by kernel_rfl) rfl (fun _ _ _ h => h) (Or.inl ⟨by rfl, ?_⟩) hHeld (fun hHeld => ?_)
            · (intro w1 hSw; have hSw := hSw.1; (try dsimp only at hSw); go_simp)
            simp only [List.getElem_toArray, List.getElem_cons_succ, List.getElem_cons_zero, Act.put, List.setIfInBounds_toArray, List.set_cons_zero, List.set_cons_succ]
            refine wpAnyS_take (i := 5) (v := .int .i64 X.x) true rfl (by kernel_rfl) (by kernel_rfl) (by kernel_rfl) (by kernel_rfl) (by kernel_rfl) (by kernel_rfl) (fun _ _ _ h => h) (Or.inl ⟨by rfl, ?_⟩) hHeld (fun hHeld => ?_)
            · (intro w1 hSw; have hSw2 := hSw.2 rfl; have hSw := hSw.1; (try dsimp only at hSw hSw2); go_simp)
            simp only [List.getElem_toArray, List.getElem_cons_succ, List.getElem_cons_zero, Act.put, List.setIfInBounds_toArray, List.set_cons_zero, List.set_cons_succ]
            refine wpAnyS_ready (i := 6) (by kernel_rfl) rfl (fun K hK => ?_)
            go_simp
            refine (HON.out _).mono ?_
            rintro e w5 ⟨rfl, hb5'⟩
            have hb5 : Below w4.heap.size w4 w5 := (Below.refl w4.heap.size w4).drew.trans hb5'
            have HB35 : Hid (Below w3.heap.size w3 w5) := HB34.out.trans (hb5.mono HB34.out.size)
            have c25 := HCL.out _ HB35.out
            clear hb5'
            have HC5 : Hid (w5.heap[w2.heap.size]? = some (.cells #[.int .u64 A.c, .bool A.o, .int .i64 (hi A.s), .int .u64 (lo A.s), .int .i64 A.mn, .int .i64 A.mx] 53)) := (hb5.block _ (Array.getElem?_eq_some_iff.1 HC4.out).1).trans HC4.out
            have HZ5 : Hid (w5.heap[w2.heap.size + 1]? = some (.cells #[.int .u64 agZ.c, .bool agZ.o, .int .i64 (hi agZ.s), .int .u64 (lo agZ.s), .int .i64 agZ.mn, .int .i64 agZ.mx] 53)) := (hb5.block _ (Array.getElem?_eq_some_iff.1 HZ4.out).1).trans HZ4.out
            have HB5 : Hid (Below w2.heap.size w2 w5) := HB4.out.trans (hb5.mono HB4.out.size)
            clear hb5
            obtain ⟨y0, y1, y2, y3, y4, y5⟩ := six_cells HC5.out
            have HC25 : Hid _ := c25
            go_simp
            refine hK.out _ _ ⟨?_, fun _ => ?_⟩ (fun hHeld => ?_)
            · trivial
            · exact ⟨y0, y1, y2, y3, y4, y5, c25⟩
            clear hK K
            refine wpAnyS_ready (i := 7) (by kernel_rfl) rfl (fun K hK => ?_)
            go_simp
            refine (HMG.out _).mono ?_
            rintro e w6 ⟨rfl, hb6⟩
            have HC26 : Hid (w6.cell? ⟨b, off + k * 3 + 2, none⟩ = some (.int .i64 X.x)) := HCL.out _ (HB35.out.trans (hb6.mono HB35.out.size))
            have HC6 : Hid (w6.heap[w2.heap.size]? = some (.cells #[.int .u64 A.c, .bool A.o, .int .i64 (hi A.s), .int .u64 (lo A.s), .int .i64 A.mn, .int .i64 A.mx] 53)) := (hb6.block _ (Array.getElem?_eq_some_iff.1 HC5.out).1).trans HC5.out
            have HZ6 : Hid (w6.heap[w2.heap.size + 1]? = some (.cells #[.int .u64 agZ.c, .bool agZ.o, .int .i64 (hi agZ.s), .int .u64 (lo agZ.s), .int .i64 agZ.mn, .int .i64 agZ.mx] 53)) := (hb6.block _ (Array.getElem?_eq_some_iff.1 HZ5.out).1).trans HZ5.out
            have HB6 : Hid (Below w2.heap.size w2 w6) := HB5.out.trans (hb6.mono HB5.out.size)
            clear hb6
            go_simp
            obtain ⟨x0, x1, x2, x3, x4, x5⟩ := six_cells HC6.out
            have c26 := HC26.out
            refine hK.out _ _ ⟨?_, fun _ => ?_⟩ (fun hHeld => ?_)
            · trivial
            · exact ⟨x0, x1, x2, x3, x4, x5, c26⟩
            clear hK K
            refine wpAnyS_ready (i := 8) (by kernel_rfl) rfl (fun K hK => ?_)
            rw [if_pos (by rfl)]
            refine wp_storeN _ _ _ rfl w2.heap.size 0 [.int .u64 N.c, .bool N.o, .int .i64 (hi N.s), .int .u64 (lo N.s), .int .i64 N.mn, .int .i64 N.mx] rfl rfl #[.int .u64 A.c, .bool A.o, .int .i64 (hi A.s), .int .u64 (lo A.s), .int .i64 A.mn, .int .i64 A.mx] _ HC6.out (by simp) (by kernel_rfl) (by kernel_rfl) (fun w7 hW7 => ?_)
            refine hK.out _ _ ⟨?_, fun hno => absurd hno (by decide)⟩ (fun hHeld => ?_)
            · trivial
            clear hK K
            refine wpAnyS_done (by kernel_rfl) ?_ _
            refine NoPanic.normal ?_
            have HC7 : Hid (w7.heap[w2.heap.size]? = some (.cells #[.int .u64 N.c, .bool N.o, .int .i64 (hi N.s), .int .u64 (lo N.s), .int .i64 N.mn, .int .i64 N.mx] 53)) := st6 rfl hW7
            have HZ7 : Hid (w7.heap[w2.heap.size + 1]? = some (.cells #[.int .u64 agZ.c, .bool agZ.o, .int .i64 (hi agZ.s), .int .u64 (lo agZ.s), .int .i64 agZ.mn, .int .i64 agZ.mx] 53)) := (hW7.o _ (by omega)).trans HZ6.out
            have HB7 : Hid (Below w2.heap.size w2 w7) := HB6.out.trans (hW7.b _ (Nat.le_refl _))
            clear hW7 x0 x1 x2 x3 x4 x5 y0 y1 y2 y3 y4 y5 z0 z1 z2 z3 z4 z5 c2 c25 c26
            go_wp2_with fail
            go_roundw
            case rel => exact ⟨k + 1, N, by omega, by go_num, HNN, HC7, HZ7, HB7⟩
            case measure => simp [intOf]; omega
        · obtain rfl : k = fs.length := by omega
          rw [List.take_length] at HA
          have HSA : Hid (A = sml agZ L) := by rw [HA.out]; exact HSM.out
          have HCN : Hid (∀ k, Gd (sml agZ (L.take k))) := fun k => sml_gd Gd.zero fun y hy => HGA.out y (List.mem_of_mem_take hy)
          clear HA HWT HEX hL3 hX3 hF3
          go_wp2_with fail
          go_loopw [14] (fun i wr => ∃ (k : Nat) (B : Ag), k ≤ L.length ∧ i = .int .i64 (k : Int) ∧ Hid (B = sml agZ (L.take k)) ∧ Hid (wr.heap[w2.heap.size]? = some (.cells #[.int .u64 A.c, .bool A.o, .int .i64 (hi A.s), .int .u64 (lo A.s), .int .i64 A.mn, .int .i64 A.mx] 53)) ∧ Hid (wr.heap[w2.heap.size + 1]? = some (.cells #[.int .u64 B.c, .bool B.o, .int .i64 (hi B.s), .int .u64 (lo B.s), .int .i64 B.mn, .int .i64 B.mx] 53)) ∧ Hid (Below w2.heap.size w2 wr)) (fun i _ => L.length - (intOf i).toNat)
          case atStart => exact ⟨0, agZ, by omega, rfl, rfl, HC3, HZ3, HB3⟩
          case round =>
            clear HC3 HZ3 HB3
            obtain ⟨k, B, hk2, rfl, HBs, HC4, HZ4, HB4⟩ := hrel
            obtain ⟨w4, rfl⟩ : ∃ x, x = wr := ⟨_, rfl⟩
            by_cases hlt : k < L.length
            · obtain ⟨b, off, sa, sc, hef, _⟩ := eReads_key (HLJ.out _ HB4.out).2.2.2.2 hlt
              subst hef
              obtain ⟨kv, hcs, hrk, hcn⟩ := eReads_at (HLJ.out _ HB4.out).2.2.2.2 hlt rfl
              have HNX : Hid (sml agZ (L.take (k + 1)) = mrg B L[k].2) := by rw [HBs.out]; exact sm_next hlt
              have hbl : b < w2.heap.size := by
                obtain ⟨b', off', ha', hb'⟩ := eReads_lt HR2.out hlt
                simp at ha'
                omega
              obtain ⟨O, HO⟩ := hid_ex L[k].2
              have q1 := hcs 1 (by decide)
              have q2 := hcs 2 (by decide)
              have q3 := hcs 3 (by decide)
              have q4 := hcs 4 (by decide)
              have q5 := hcs 5 (by decide)
              have q6 := hcs 6 (by decide)
              simp only [c7, List.getElem_cons_zero, List.getElem_cons_succ] at q1 q2 q3 q4 q5 q6
              rw [← HO.out] at q1 q2 q3 q4 q5 q6 hcn HNX
              obtain ⟨N, HN⟩ := hid_ex (mrg B O)
              have hbc := (HCN.out k).c
              rw [← HBs.out] at hbc
              have HMG : Hid (∀ w, Calls Try.prog 21 #[.agg #[.int .u64 B.c, .bool B.o, .int .i64 (hi B.s), .int .u64 (lo B.s), .int .i64 B.mn, .int .i64 B.mx], .agg #[.int .u64 O.c, .bool O.o, .int .i64 (hi O.s), .int .u64 (lo O.s), .int .i64 O.mn, .int .i64 O.mx]] w fun e w' => e = .returned (.agg #[.int .u64 N.c, .bool N.o, .int .i64 (hi N.s), .int .u64 (lo N.s), .int .i64 N.mn, .int .i64 N.mx]) ∧ Below w.heap.size w w') := by
                intro w; rw [HN.out]
                exact merge_any B O hbc.1 hbc.2 hcn.1 hcn.2 w
              have HNN : Hid (N = sml agZ (L.take (k + 1))) := by rw [HNX.out, HN.out]; rfl
              have hwr4 := HB4.out.size
              have HCE : Hid (∀ W, Below w2.heap.size w4 W → W.cell? ⟨b, off + k * 7 + 1, none⟩ = some (.int .u64 O.c) ∧ W.cell? ⟨b, off + k * 7 + 1 + 1, none⟩ = some (.bool O.o) ∧ W.cell? ⟨b, off + k * 7 + 1 + 2, none⟩ = some (.int .i64 (hi O.s)) ∧ W.cell? ⟨b, off + k * 7 + 1 + 3, none⟩ = some (.int .u64 (lo O.s)) ∧ W.cell? ⟨b, off + k * 7 + 1 + 4, none⟩ = some (.int .i64 O.mn) ∧ W.cell? ⟨b, off + k * 7 + 1 + 5, none⟩ = some (.int .i64 O.mx)) := fun W hW => ⟨(hW.cell (p := ⟨b, _, none⟩) hbl).trans q1, (hW.cell (p := ⟨b, _, none⟩) hbl).trans q2, (hW.cell (p := ⟨b, _, none⟩) hbl).trans q3, (hW.cell (p := ⟨b, _, none⟩) hbl).trans q4, (hW.cell (p := ⟨b, _, none⟩) hbl).trans q5, (hW.cell (p := ⟨b, _, none⟩) hbl).trans q6⟩
              clear hcs hrk hcn hbc HO HN HNX q1 q2 q3 q4 q5 q6
              go_wp2_with fail
              obtain ⟨z0, z1, z2, z3, z4, z5⟩ := six_cells HZ4.out
              obtain ⟨e0, e1, e2, e3, e4, e5⟩ := HCE.out w4 (Below.refl _ _)
              refine wp_region_noPanic ?_
              refine wp_region_S 7 (fun _ => True) (fun w' => w'.cell? ⟨w2.heap.size + 1, 0, none⟩ = some (.int .u64 B.c) ∧ w'.cell? ⟨w2.heap.size + 1, 1, none⟩ = some (.bool B.o) ∧ w'.cell? ⟨w2.heap.size + 1, 2, none⟩ = some (.int .i64 (hi B.s)) ∧ w'.cell? ⟨w2.heap.size + 1, 3, none⟩ = some (.int .u64 (lo B.s)) ∧ w'.cell? ⟨w2.heap.size + 1, 4, none⟩ = some (.int .i64 B.mn) ∧ w'.cell? ⟨w2.heap.size + 1, 5, none⟩ = some (.int .i64 B.mx) ∧ w'.cell? ⟨b, off + k * 7 + 1, none⟩ = some (.int .u64 O.c) ∧ w'.cell? ⟨b, off + k * 7 + 1 + 1, none⟩ = some (.bool O.o) ∧ w'.cell? ⟨b, off + k * 7 + 1 + 2, none⟩ = some (.int .i64 (hi O.s)) ∧ w'.cell? ⟨b, off + k * 7 + 1 + 3, none⟩ = some (.int .u64 (lo O.s)) ∧ w'.cell? ⟨b, off + k * 7 + 1 + 4, none⟩ = some (.int .i64 O.mn) ∧ w'.cell? ⟨b, off + k * 7 + 1 + 5, none⟩ = some (.int .i64 O.mx)) (by kernel_rfl) ?_ ?_ (fun hHeld => ?_)
              · trivial
              · exact ⟨z0, z1, z2, z3, z4, z5, e0, e1, e2, e3, e4, e5⟩
              refine wpAnyS_take (i := 0) (v := .agg #[.int .u64 B.c, .bool B.o, .int .i64 (hi B.s), .int .u64 (lo B.s), .int .i64 B.mn, .int .i64 B.mx]) true rfl (by kernel_rfl) (by kernel_rfl) (by kernel_rfl) (by kernel_rfl) (by kernel_rfl) (by kernel_rfl) (fun _ _ _ h => h) (Or.inl ⟨by rfl, ?_⟩) hHeld (fun hHeld => ?_)
              · (intro w1 hSw; have hSw2 := hSw.2 rfl; have hSw := hSw.1; (try dsimp only at hSw hSw2); go_simp)
              simp only [List.getElem_toArray, List.getElem_cons_zero, Act.put, List.setIfInBounds_toArray, List.set_cons_zero, List.set_cons_succ]
              refine wpAnyS_take (i := 1) (v := .slice (some ⟨b, off, none⟩) L.length xc) _ rfl (by kernel_rfl) (by kernel_rfl) (by kernel_rfl) (by kernel_rfl) (by kernel_rfl) rfl (fun _ _ _ h => h) (Or.inl ⟨by rfl, ?_⟩) hHeld (fun hHeld => ?_)
              · (intro w1 hSw; have hSw := hSw.1; (try dsimp only at hSw); go_simp)
              simp only [List.getElem_toArray, List.getElem_cons_succ, List.getElem_cons_zero, Act.put, List.setIfInBounds_toArray, List.set_cons_zero, List.set_cons_succ]
              refine wpAnyS_take (i := 2) (v := .int .i64 (k : Int)) _ rfl (by kernel_rfl) (by kernel_rfl) (by kernel_rfl) (by kernel_rfl) (by kernel_rfl) rfl (fun _ _ _ h => h) (Or.inl ⟨by rfl, ?_⟩) hHeld (fun hHeld => ?_)
              · (intro w1 hSw; have hSw := hSw.1; (try dsimp only at hSw); go_simp)
              simp only [List.getElem_toArray, List.getElem_cons_succ, List.getElem_cons_zero, Act.put, List.setIfInBounds_toArray, List.set_cons_zero, List.set_cons_succ]
              refine wpAnyS_take (i := 3) (v := .pointer (some ⟨b, off + k * 7, none⟩)) _ rfl (by kernel_rfl) (by kernel_rfl) (by kernel_rfl) (by kernel_rfl) (by kernel_rfl) rfl (fun _ _ _ h => h) (Or.inl ⟨by rfl, ?_⟩) hHeld (fun hHeld => ?_)
              · (intro w1 hSw; have hSw := hSw.1; (try dsimp only at hSw); go_simp)
              simp only [List.getElem_toArray, List.getElem_cons_succ, List.getElem_cons_zero, Act.put, List.setIfInBounds_toArray, List.set_cons_zero, List.set_cons_succ]
              refine wpAnyS_take (i := 4) (v := .pointer (some ⟨b, off + k * 7 + 1, none⟩)) _ rfl (by kernel_rfl) (by kernel_rfl) (by kernel_rfl) (by kernel_rfl) (by kernel_rfl) rfl (fun _ _ _ h => h) (Or.inl ⟨by rfl, ?_⟩) hHeld (fun hHeld => ?_)
              · (intro w1 hSw; have hSw := hSw.1; (try dsimp only at hSw); go_simp)
              simp only [List.getElem_toArray, List.getElem_cons_succ, List.getElem_cons_zero, Act.put, List.setIfInBounds_toArray, List.set_cons_zero, List.set_cons_succ]
              refine wpAnyS_take (i := 5) (v := .agg #[.int .u64 O.c, .bool O.o, .int .i64 (hi O.s), .int .u64 (lo O.s), .int .i64 O.mn, .int .i64 O.mx]) true rfl (by kernel_rfl) (by kernel_rfl) (by kernel_rfl) (by kernel_rfl) (by kernel_rfl) (by kernel_rfl) (fun _ _ _ h => h) (Or.inl ⟨by rfl, ?_⟩) hHeld (fun hHeld => ?_)
              · (intro w1 hSw; have hSw2 := hSw.2 rfl; have hSw := hSw.1; (try dsimp only at hSw hSw2); go_simp)
              simp only [List.getElem_toArray, List.getElem_cons_succ, List.getElem_cons_zero, Act.put, List.setIfInBounds_toArray, List.set_cons_zero, List.set_cons_succ]
              refine wpAnyS_ready (i := 6) (by kernel_rfl) rfl (fun K hK => ?_)
              go_simp
              refine (HMG.out _).mono ?_
              rintro e w5 ⟨rfl, hb5'⟩
              have hb5 : Below w4.heap.size w4 w5 := (Below.refl w4.heap.size w4).drew.trans hb5'
              have he5 := HCE.out w5 (hb5.mono hwr4)
              clear hb5'
              have HC5 : Hid (w5.heap[w2.heap.size]? = some (.cells #[.int .u64 A.c, .bool A.o, .int .i64 (hi A.s), .int .u64 (lo A.s), .int .i64 A.mn, .int .i64 A.mx] 53)) := (hb5.block _ (Array.getElem?_eq_some_iff.1 HC4.out).1).trans HC4.out
              have HZ5 : Hid (w5.heap[w2.heap.size + 1]? = some (.cells #[.int .u64 B.c, .bool B.o, .int .i64 (hi B.s), .int .u64 (lo B.s), .int .i64 B.mn, .int .i64 B.mx] 53)) := (hb5.block _ (Array.getElem?_eq_some_iff.1 HZ4.out).1).trans HZ4.out
              have HB5 : Hid (Below w2.heap.size w2 w5) := HB4.out.trans (hb5.mono HB4.out.size)
              clear hb5
              obtain ⟨y0, y1, y2, y3, y4, y5⟩ := six_cells HZ5.out
              obtain ⟨d0, d1, d2, d3, d4, d5⟩ := he5
              go_simp
              refine hK.out _ _ ⟨?_, fun _ => ?_⟩ (fun hHeld => ?_)
              · trivial
              · exact ⟨y0, y1, y2, y3, y4, y5, d0, d1, d2, d3, d4, d5⟩
              clear hK K
              refine wpAnyS_ready (i := 7) (by kernel_rfl) rfl (fun K hK => ?_)
              rw [if_pos (by rfl)]
              refine wp_storeN _ _ _ rfl (w2.heap.size + 1) 0 [.int .u64 N.c, .bool N.o, .int .i64 (hi N.s), .int .u64 (lo N.s), .int .i64 N.mn, .int .i64 N.mx] rfl rfl #[.int .u64 B.c, .bool B.o, .int .i64 (hi B.s), .int .u64 (lo B.s), .int .i64 B.mn, .int .i64 B.mx] _ HZ5.out (by simp) (by kernel_rfl) (by kernel_rfl) (fun w7 hW7 => ?_)
              refine hK.out _ _ ⟨?_, fun hno => absurd hno (by decide)⟩ (fun hHeld => ?_)
              · trivial
              clear hK K
              refine wpAnyS_done (by kernel_rfl) ?_ _
              refine NoPanic.normal ?_
              have HZ7 : Hid (w7.heap[w2.heap.size + 1]? = some (.cells #[.int .u64 N.c, .bool N.o, .int .i64 (hi N.s), .int .u64 (lo N.s), .int .i64 N.mn, .int .i64 N.mx] 53)) := st6 rfl hW7
              have HC7 : Hid (w7.heap[w2.heap.size]? = some (.cells #[.int .u64 A.c, .bool A.o, .int .i64 (hi A.s), .int .u64 (lo A.s), .int .i64 A.mn, .int .i64 A.mx] 53)) := (hW7.o _ (by omega)).trans HC5.out
              have HB7 : Hid (Below w2.heap.size w2 w7) := HB5.out.trans (hW7.b _ (by omega))
              clear hW7 y0 y1 y2 y3 y4 y5 z0 z1 z2 z3 z4 z5 e0 e1 e2 e3 e4 e5 d0 d1 d2 d3 d4 d5
              go_wp2_with fail
              go_roundw
              case rel => exact ⟨k + 1, N, by omega, by go_num, HNN, HC7, HZ7, HB7⟩
              case measure => simp [intOf]; omega
            · obtain rfl : k = L.length := by omega
              rw [List.take_length] at HBs
              have hBA : B = A := HBs.out.trans HSA.out.symm
              subst hBA
              have HBE : Hid (∀ W, Below w4.heap.size w4 W → Below w.heap.size w W) := fun W hW => (HLJ.out W (HB4.out.trans (hW.mono HB4.out.size))).2.2.1
              clear HBs HSA
              go_wp2_with fail
              refine (alive15_any _).mono ?_
              rintro e w5 ⟨rfl, hb5⟩
              have HBF : Hid (Below w.heap.size w w5) := HBE.out _ hb5
              have HC5 : Hid (w5.heap[w2.heap.size]? = some (.cells #[.int .u64 B.c, .bool B.o, .int .i64 (hi B.s), .int .u64 (lo B.s), .int .i64 B.mn, .int .i64 B.mx] 53)) := (hb5.block _ (Array.getElem?_eq_some_iff.1 HC4.out).1).trans HC4.out
              have HZ5 : Hid (w5.heap[w2.heap.size + 1]? = some (.cells #[.int .u64 B.c, .bool B.o, .int .i64 (hi B.s), .int .u64 (lo B.s), .int .i64 B.mn, .int .i64 B.mx] 53)) := (hb5.block _ (Array.getElem?_eq_some_iff.1 HZ4.out).1).trans HZ4.out
              have HB5 : Hid (Below w2.heap.size w2 w5) := HB4.out.trans (hb5.mono HB4.out.size)
              clear hb5
              obtain ⟨y0, y1, y2, y3, y4, y5⟩ := six_cells HZ5.out
              obtain ⟨z0, z1, z2, z3, z4, z5⟩ := six_cells HC5.out
              go_wp2_with fail
              go_ret
              exact ⟨rfl, HBF.out⟩
end Go.Proofs.Ytbadjigfcncfcaa
