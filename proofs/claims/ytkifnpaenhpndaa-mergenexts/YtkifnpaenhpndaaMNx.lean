/- A heap tells what the reference's tells. -/
import Derived.Test.YtkifnpaenhpndaaMG24
import Derived.Test.YtkifnpaenhpndaaMR3
import Derived.Test.YtkifnpaenhpndaaMAl
namespace Go.Proofs.Ytkifnpaenhpndaa
open Go.RowKit Go.Joins

/-- What the loop keeps: the heap, and the reference's (a box x, a row g of places). -/
structure NxI (rs : List (List En)) (w : World) (v : Value) (hh h x g : Nat) (D T : List Tg) (W : World) : Prop where
  s : seqF rs = D ++ T
  q : HS W w.heap.size hh h T
  a : AtM W g rs.length (cntD D)
  hx : W.heap[x]? = some (.cells #[v, .slice (some ⟨g, 0, none⟩) rs.length rs.length] 33)
  b : Below w.heap.size w W
  z : w.heap.size ≤ hh ∧ hh ≤ g ∧ hh ≤ x ∧ x ≠ g
/-- Behind the heap's Next, its entry in a box B. -/
structure NxA (rs : List (List En)) (w : World) (v : Value) (hh h x g : Nat) (D : List Tg) (t : Tg) (T : List Tg) (kv : Value) (W : World) (B : Nat) : Prop where
  s : seqF rs = D ++ t :: T
  q : HS W w.heap.size hh h T
  a : AtM W g rs.length (cntD D)
  hx : W.heap[x]? = some (.cells #[v, .slice (some ⟨g, 0, none⟩) rs.length rs.length] 33)
  b : Below w.heap.size w W
  z : w.heap.size ≤ hh ∧ hh ≤ g ∧ hh ≤ x ∧ x ≠ g
  o : Own W w.heap.size kv t.1.1
  e : W.heap[B]? = some (.cells (c7 ⟨kv, [], t.2⟩).toArray 41)
  n : B ≠ g
theorem nx_a {rs : List (List En)} {w wr w7 W : World} {v : Value} {hh h x g : Nat} {D T : List Tg} {t : Tg} {kv : Value} {b0 : Array Value} (H : NxI rs w v hh h x g D (t :: T) wr) (hf : Fr w.heap.size hh wr w7) (hs : HS w7 w.heap.size hh h T) (ho : Own w7 w.heap.size kv t.1.1)
    (hW : StW (w7.alloc (.cells b0 41)) W w7.heap.size 0 b0 41 (c7 ⟨kv, [], t.2⟩)) (hb0 : b0.size = 7) : NxA rs w v hh h x g D t T kv W w7.heap.size := by
  have hgl := H.a.lt
  have hxl : x < wr.heap.size := (Array.getElem?_eq_some_iff.1 H.hx).1
  have hsz := hf.b.size
  have hk : ∀ k, k < w7.heap.size → W.heap[k]? = w7.heap[k]? := fun k hk => (hW.o k (by omega)).trans (Below.heap_alloc _ _ _ hk)
  have hu : ∀ (k : Nat) (cs : Array Value) (fr : Nat × Nat), w7.heap[k]? = some (Obj.cells cs 5 fr) → W.heap[k]? = some (Obj.cells cs 5 fr) := fun k cs fr q => (hk k (Array.getElem?_eq_some_iff.1 q).1).trans q
  have hz := H.z
  have hbW : Below w7.heap.size w7 W := ((Below.refl _ _).alloc (Nat.le_refl _) _).trans (hW.b _ (Nat.le_refl _))
  refine ⟨H.s, hs.below hbW, H.a.keep ((hk g (by omega)).trans (hf.h g hz.2.1 hgl)), (hk x (by omega)).trans ((hf.h x hz.2.2.1 hxl).trans H.hx), (H.b.trans hf.b).trans (hbW.mono (by have := H.b.size; omega)), hz, own_kp ho hu, ?_, by omega⟩
  obtain ⟨cur', k1, k2, k3, k4⟩ := hW.c
  rw [k1, cur7 (vs := c7 ⟨kv, [], t.2⟩) (by rw [k2, hb0]; rfl) k4]
theorem nx_b {rs : List (List En)} {w W w8 W2 : World} {v : Value} {hh h x g B : Nat} {D T : List Tg} {t : Tg} {kv kv2 : Value} {b0 : Array Value} (H : NxA rs w v hh h x g D t T kv W B) (hr : Reads w8 kv2 t.1.1) (ha : AtM w8 g rs.length (cntD (D ++ [t]))) (hsz : W.heap.size ≤ w8.heap.size) (hbl : ∀ lo, lo ≤ g → lo ≤ W.heap.size → Below lo W w8) (hkp : ∀ k, k < W.heap.size → k ≠ g → w8.heap[k]? = W.heap[k]?)
    (hW : StW (w8.alloc (.cells b0 41)) W2 w8.heap.size 0 b0 41 (c7 ⟨kv2, [], t.2⟩)) (hb0 : b0.size = 7) :
    NxI rs w v hh h x g (D ++ [t]) T W2 ∧ W2.heap[B]? = some (.cells (c7 ⟨kv, [], t.2⟩).toArray 41) ∧ W2.heap[w8.heap.size]? = some (.cells (c7 ⟨kv2, [], t.2⟩).toArray 41) ∧ Reads W2 kv t.1.1 ∧ Reads W2 kv2 t.1.1 := by
  have hz := H.z
  have hws := H.b.size
  have hgl := H.a.lt
  have hxl : x < W.heap.size := (Array.getElem?_eq_some_iff.1 H.hx).1
  have hBl : B < W.heap.size := (Array.getElem?_eq_some_iff.1 H.e).1
  obtain ⟨gc, hgc, _⟩ := H.a
  have hk : ∀ k, k < w8.heap.size → W2.heap[k]? = w8.heap[k]? := fun k hk => (hW.o k (by omega)).trans (Below.heap_alloc _ _ _ hk)
  have hu8 : ∀ (k : Nat) (cs : Array Value) (fr : Nat × Nat), W.heap[k]? = some (Obj.cells cs 5 fr) → w8.heap[k]? = some (Obj.cells cs 5 fr) := fun k cs fr q => (hkp k (Array.getElem?_eq_some_iff.1 q).1 (typ_ne q hgc (by decide))).trans q
  have hhl : hh ≤ W.heap.size := H.q.z
  have hbW : Below w8.heap.size w8 W2 := ((Below.refl _ _).alloc (Nat.le_refl _) _).trans (hW.b _ (Nat.le_refl _))
  have hq8 : HS w8 w.heap.size hh h T := H.q.under (fun k hk => hkp k (by omega) (by omega)) hu8 hsz
  refine ⟨⟨by rw [H.s]; simp, hq8.below hbW, ha.keep (hk g (by omega)), (hk x (by omega)).trans ((hkp x hxl hz.2.2.2).trans H.hx), (H.b.trans (hbl _ (by omega) hws)).trans (hbW.mono (by omega)), hz⟩, (hk B (by omega)).trans ((hkp B hBl H.n).trans H.e), ?_, (own_kp H.o hu8).reads.below hbW, hr.below hbW⟩
  obtain ⟨cur', k1, k2, k3, k4⟩ := hW.c
  rw [k1, cur7 (vs := c7 ⟨kv2, [], t.2⟩) (by rw [k2, hb0]; rfl) k4]
set_option maxRecDepth 100000 in
set_option maxHeartbeats 2000000 in
theorem nexts_walk (v : Value) (rs : List (List En)) (w : World) (hR : RReads w v rs) : Calls Try.prog 3 #[v] w fun e w' => e = .returned (.bool true) ∧ Below w.heap.size w w' := by
  have HR : Hid (RReads w v rs) := hR
  obtain ⟨av, cv, rfl, _⟩ := hR
  go_enter Try.func3, Try.ntmps3
  go_wp2_with fail
  refine (great_any _ rs _ HR.out).mono ?_
  rintro e w1 ⟨gg, rfl, hgg, hw1⟩
  subst w1
  cases gg with
  | true =>
    go_wp2_with fail
    refine (alive_any _).mono ?_
    rintro e w2 ⟨rfl, hb2⟩
    have HB2 : Hid _ := hb2
    clear hb2
    go_wp2_with fail
    go_ret
    exact ⟨rfl, HB2.out⟩
  | false =>
    have HG : Hid (rs.length ≤ 20 ∧ ∀ r ∈ rs, okRow r) := hgg rfl
    have HOK : Hid (OkRs rs) := okRs_of HG.out
    have hr20 : rs.length ≤ 20 := HG.out.1
    have HSL : Hid _ := seq60 HG.out
    clear hgg
    go_wp2_with fail
    refine (new_any _ rs _ HR.out HOK.out.l1 HOK.out.l2 HOK.out.l3).mono ?_
    rintro e w2 ⟨hb2, ⟨hne, rfl⟩ | ⟨hz, h, hh, rfl, hs⟩⟩
    · have HB2 : Hid _ := hb2
      have hb0 : (rowsF rs == 0) = false := by simp [hne]
      go_wp2_with fail
      refine (refRows_any _ rs _ (HR.out.below hb2)).mono ?_
      rintro e w3 ⟨rfl, hb3⟩
      have HB3 : Hid (Below w.heap.size w w3) := HB2.out.trans (hb3.mono HB2.out.size)
      clear hb2 hne HSL hb3
      have hbb : (rowsF rs == rowsF rs) = true := by simp
      generalize rowsF rs = rr at *
      obtain ⟨i0, hinf, hz0, hz1, hz2⟩ := info_parts infoInt
      obtain ⟨w4, hr4, hown4, hg4⟩ := run_make_full (P := Try.prog) w3 w3.heap.size 31 3 i0 _ 1 Try.underlying31 hinf hz0 hz1 .i64 .i64 rs.length (by rw [hz2]; omega) (by unfold maxLen; omega) (Nat.le_refl _)
      have HB4 : Hid (Below w.heap.size w w4) := HB3.out.trans (((Below.refl _ _).grown hg4 (Nat.le_refl _) (fun k e => by cases e)).mono HB3.out.size)
      clear hown4 hg4 hinf hz0 hz1 hz2
      go_wp2_with fail
      obtain ⟨w5, Hw5⟩ := hid_ex (w4.alloc (.cells #[.slice av rs.length cv, .slice (some ⟨w3.heap.size, 0, none⟩) rs.length rs.length] 33))
      have HB5 : Hid (Below w.heap.size w w5) := by rw [Hw5.out]; exact HB4.out.alloc HB4.out.size _
      rw [← Hw5.out]
      clear hr4 Hw5
      go_loopw [6] (fun i wr => i = .int .i64 0 ∧ Hid (Below w.heap.size w wr)) (fun i _ => 1300 - (intOf i).toNat)
      case atStart => exact ⟨rfl, HB5.out⟩
      case round =>
        obtain ⟨rfl, HBr⟩ := hrel
        go_wp2_with fail
        refine (alive_any _).mono ?_
        rintro e w6 ⟨rfl, hb6⟩
        have HB6 : Hid (Below w.heap.size w w6) := HBr.out.trans (hb6.mono HBr.out.size)
        clear hb6
        go_wp2_with fail
        go_ret
        exact ⟨rfl, HB6.out⟩
    · have HZ : Hid _ := hz
      have HB2 : Hid _ := hb2
      have HS2 : Hid (HS w2 w.heap.size hh h (seqF rs)) := hs
      go_wp2_with fail
      refine (refRows_any _ rs _ (HR.out.below hb2)).mono ?_
      rw [hz]
      rintro e w3 ⟨rfl, hb3⟩
      have HB3 : Hid (Below w.heap.size w w3) := HB2.out.trans (hb3.mono HB2.out.size)
      have HS3 : Hid (HS w3 w.heap.size hh h (seqF rs)) := HS2.out.below hb3
      clear hb2 hb3 hz hs
      obtain ⟨i0, hinf, hz0, hz1, hz2⟩ := info_parts infoInt
      obtain ⟨w4, hr4, hown4, hg4⟩ := run_make_full (P := Try.prog) w3 w3.heap.size 31 3 i0 _ 1 Try.underlying31 hinf hz0 hz1 .i64 .i64 rs.length (by rw [hz2]; omega) (by unfold maxLen; omega) (Nat.le_refl _)
      obtain ⟨g, Hg⟩ := hid_ex w3.heap.size
      obtain ⟨x, Hx⟩ := hid_ex w4.heap.size
      obtain ⟨w5, Hw5⟩ := hid_ex (w4.alloc (.cells #[.slice av rs.length cv, .slice (some ⟨g, 0, none⟩) rs.length rs.length] 33))
      have HI0 : Hid (NxI rs w (.slice av rs.length cv) hh h x g [] (seqF rs) w5) := by
        have hb4 : Below w3.heap.size w3 w4 := (Below.refl _ _).grown hg4 (Nat.le_refl _) (fun k e => by cases e)
        have hb5 : Below w4.heap.size w4 w5 := by rw [Hw5.out]; exact (Below.refl _ _).alloc (Nat.le_refl _) _
        have hm := AtM.made hown4
        have hgl := hm.lt
        have hzz := HS3.out.z
        obtain ⟨P, h1, _⟩ := HS3.out.m
        have hq1 := h1.h1
        have hq2 := h1.h2
        have h45 : w3.heap.size ≤ w4.heap.size := hb4.size
        rw [Hg.out, Hx.out]
        refine ⟨rfl, (HS3.out.below hb4).below hb5, hm.keep (hb5.block _ hgl), ?_, (HB3.out.trans (hb4.mono HB3.out.size)).trans (hb5.mono (by have := HB3.out.size; omega)), by omega, hzz, by omega, by omega⟩
        rw [Hw5.out, Hg.out]
        exact heap_alloc_new _ _
      clear hinf hz0 hz1 hz2 hown4 hg4 HS2 HS3
      rw [← Hg.out] at hr4
      go_wp2_with fail
      rw [← Hw5.out, ← Hx.out]
      clear hr4 Hg Hx Hw5
      go_loopw [6] (fun i wr => ∃ D T : List Tg, i = .int .i64 (D.length : Int) ∧ Hid (NxI rs w (.slice av rs.length cv) hh h x g D T wr)) (fun i _ => 1300 - (intOf i).toNat)
      case atStart => exact ⟨[], seqF rs, rfl, HI0.out⟩
      case round =>
        clear HI0
        obtain ⟨D, T, rfl, HI⟩ := hrel
        have hDT : D.length + T.length ≤ 1200 := by
          have h1 := HSL.out
          rw [HI.out.s, List.length_append] at h1
          exact h1
        cases T with
        | nil =>
          go_wp2_with fail
          refine (next_any w.heap.size hh h [] _ HI.out.q).mono ?_
          rintro e w7 ⟨hf7, rfl, hs7⟩
          unfold env
          have HAT : Hid (∀ W b0, StW (w7.alloc (.cells b0 41)) W w7.heap.size 0 b0 41 (c7 ⟨.slice none 0 0, [], agZ⟩) → b0.size = 7 → AtM W g rs.length (cntD D) ∧ Below w.heap.size w W ∧ W.heap[x]? = some (.cells #[.slice av rs.length cv, .slice (some ⟨g, 0, none⟩) rs.length rs.length] 33) ∧ W.heap[w7.heap.size]? = some (.cells (c7 ⟨.slice none 0 0, [], agZ⟩).toArray 41)) := by
            intro W b0 hW hb0
            have hgl := HI.out.a.lt
            have hxl : x < wr.heap.size := (Array.getElem?_eq_some_iff.1 HI.out.hx).1
            have hsz := hf7.b.size
            have hzz := HI.out.z
            have hbs := HI.out.b.size
            have hbW : Below w7.heap.size w7 W := ((Below.refl _ _).alloc (Nat.le_refl _) _).trans (hW.b _ (Nat.le_refl _))
            refine ⟨(HI.out.a.keep (hf7.h g hzz.2.1 hgl)).keep (hbW.block g (by omega)), (HI.out.b.trans hf7.b).trans (hbW.mono (by omega)), (hbW.block x (by omega)).trans ((hf7.h x hzz.2.2.1 hxl).trans HI.out.hx), ?_⟩
            obtain ⟨cur', k1, k2, k3, k4⟩ := hW.c
            rw [k1, cur7 (vs := c7 ⟨.slice none 0 0, [], agZ⟩) (by rw [k2, hb0]; rfl) k4]
          have HSO : Hid (seqF rs = D ++ []) := HI.out.s
          have HZZ : Hid (w.heap.size ≤ hh ∧ hh ≤ g ∧ hh ≤ x ∧ x ≠ g) := HI.out.z
          clear hf7 hs7
          go_wp2_with (refine stop_store 41 _ _ rfl ?_)
          refine Stop.of ?_
          refine wpList_storeN rfl _ _ _ rfl w7.heap.size 0 (c7 ⟨.slice none 0 0, [], agZ⟩) rfl rfl _ _ (heap_alloc_new _ _) (by rw [c7_len]; simp) (by kernel_rfl) (by kernel_rfl) ?_
          intro W hW
          obtain ⟨hq1, hq2, hq3, hq4⟩ := HAT.out W _ hW rfl
          have HA : Hid (AtM W g rs.length (cntD D)) := hq1
          have HBW : Hid (Below w.heap.size w W) := hq2
          have HXW : Hid _ := hq3
          obtain ⟨xb, Hxb⟩ := hid_ex w7.heap.size
          rw [← Hxb.out] at hq4 ⊢
          have HEa : Hid _ := hq4
          clear hW HAT hq1 hq2 hq3 hq4 Hxb
          go_wp2_with fail
          refine (refNext_any _ rs x g D [] w _ HR.out HBW.out (by have := HZZ.out; omega) HXW.out HA.out HZ.out HSO.out hr20).mono ?_
          rintro e w8 ⟨rfl, hb8⟩
          unfold env
          have HEN : Hid (∀ W2 b0, StW (w8.alloc (.cells b0 41)) W2 w8.heap.size 0 b0 41 (c7 ⟨.slice none 0 0, [], agZ⟩) → b0.size = 7 → Below w.heap.size w W2 ∧ W2.heap[xb]? = some (.cells (c7 ⟨.slice none 0 0, [], agZ⟩).toArray 41) ∧ W2.heap[w8.heap.size]? = some (.cells (c7 ⟨.slice none 0 0, [], agZ⟩).toArray 41)) := by
            intro W2 b0 hW hb0
            have hxl : xb < W.heap.size := (Array.getElem?_eq_some_iff.1 HEa.out).1
            have hsz := hb8.size
            have hbs := HBW.out.size
            have hbW : Below w8.heap.size w8 W2 := ((Below.refl _ _).alloc (Nat.le_refl _) _).trans (hW.b _ (Nat.le_refl _))
            refine ⟨(HBW.out.trans (hb8.mono hbs)).trans (hbW.mono (by omega)), (hbW.block xb (by omega)).trans ((hb8.block xb hxl).trans HEa.out), ?_⟩
            obtain ⟨cur', k1, k2, k3, k4⟩ := hW.c
            rw [k1, cur7 (vs := c7 ⟨.slice none 0 0, [], agZ⟩) (by rw [k2, hb0]; rfl) k4]
          clear hb8
          go_wp2_with (refine stop_store 41 _ _ rfl ?_)
          refine Stop.of ?_
          refine wpList_storeN rfl _ _ _ rfl w8.heap.size 0 (c7 ⟨.slice none 0 0, [], agZ⟩) rfl rfl _ _ (heap_alloc_new _ _) (by rw [c7_len]; simp) (by kernel_rfl) (by kernel_rfl) ?_
          intro W2 hW2
          obtain ⟨hq1, hq2, hq3⟩ := HEN.out W2 _ hW2 rfl
          have HB2 : Hid (Below w.heap.size w W2) := hq1
          clear hW2 HEN hq1
          have d0 := (cell_row hq2 0 (by simp [c7])).1
          have d1 := (cell_row hq2 1 (by simp [c7])).1
          have d2 := (cell_row hq2 2 (by simp [c7])).1
          have d3 := (cell_row hq2 3 (by simp [c7])).1
          have d4 := (cell_row hq2 4 (by simp [c7])).1
          have d5 := (cell_row hq2 5 (by simp [c7])).1
          have d6 := (cell_row hq2 6 (by simp [c7])).1
          have f0 := (cell_row hq3 0 (by simp [c7])).1
          have f1 := (cell_row hq3 1 (by simp [c7])).1
          have f2 := (cell_row hq3 2 (by simp [c7])).1
          have f3 := (cell_row hq3 3 (by simp [c7])).1
          have f4 := (cell_row hq3 4 (by simp [c7])).1
          have f5 := (cell_row hq3 5 (by simp [c7])).1
          have f6 := (cell_row hq3 6 (by simp [c7])).1
          simp only [c7, List.getElem_toArray, List.getElem_cons_zero, List.getElem_cons_succ] at d0 d1 d2 d3 d4 d5 d6 f0 f1 f2 f3 f4 f5 f6
          clear hq2 hq3
          have hq4 : (convert 34 9 (.slice none 0 0)).run Try.prog W2 = .ok (.string ⟨#[]⟩) W2 := reads_text (l := []) (.inl ⟨rfl, none, 0, rfl, fun _ => rfl⟩)
          go_wp2_with fail
          refine (alive_any _).mono ?_
          rintro e w9 ⟨rfl, hb9⟩
          have HB9 : Hid (Below w.heap.size w w9) := HB2.out.trans (hb9.mono HB2.out.size)
          clear hb9
          go_wp2_with fail
          go_ret
          exact ⟨rfl, HB9.out⟩
        | cons t T =>
          go_wp2_with fail
          refine (next_any w.heap.size hh h (t :: T) _ HI.out.q).mono ?_
          rintro e w7 ⟨hf7, kv, rfl, ho7, hs7⟩
          obtain ⟨sa, sc, rfl, hsl⟩ := ho7.form
          unfold env
          have HON : Hid (∀ W b0, StW (w7.alloc (.cells b0 41)) W w7.heap.size 0 b0 41 (c7 ⟨.slice sa t.1.1.length sc, [], t.2⟩) → b0.size = 7 → NxA rs w (.slice av rs.length cv) hh h x g D t T (.slice sa t.1.1.length sc) W w7.heap.size) := fun W b0 hW hb0 => nx_a HI.out hf7 hs7 ho7 hW hb0
          have HSO : Hid (seqF rs = D ++ t :: T) := HI.out.s
          have HZZ : Hid (w.heap.size ≤ hh ∧ hh ≤ g ∧ hh ≤ x ∧ x ≠ g) := HI.out.z
          clear hf7 hs7 ho7
          go_wp2_with (refine stop_store 41 _ _ rfl ?_)
          refine Stop.of ?_
          refine wpList_storeN rfl _ _ _ rfl w7.heap.size 0 (c7 ⟨.slice sa t.1.1.length sc, [], t.2⟩) rfl rfl _ _ (heap_alloc_new _ _) (by rw [c7_len]; simp) (by kernel_rfl) (by kernel_rfl) ?_
          intro W hW
          have HA : Hid (NxA rs w (.slice av rs.length cv) hh h x g D t T (.slice sa t.1.1.length sc) W w7.heap.size) := HON.out W _ hW rfl
          obtain ⟨xb, Hxb⟩ := hid_ex w7.heap.size
          rw [← Hxb.out] at HA ⊢
          clear hW HON HI Hxb
          go_wp2_with fail
          refine (refNext_any _ rs x g D (t :: T) w _ HR.out HA.out.b (by have := HZZ.out; omega) HA.out.hx HA.out.a HZ.out HSO.out hr20).mono ?_
          rintro e w8 ⟨kv2, rfl, hr8, ha8, ⟨hs8, hl8⟩, hk8⟩
          obtain ⟨ta, tc, rfl, htl⟩ := hr8.form
          unfold env
          have HEN : Hid (∀ W2 b0, StW (w8.alloc (.cells b0 41)) W2 w8.heap.size 0 b0 41 (c7 ⟨.slice ta t.1.1.length tc, [], t.2⟩) → b0.size = 7 → _) := fun W2 b0 hW hb0 => nx_b HA.out hr8 ha8 hs8 hl8 hk8 hW hb0
          clear hr8 ha8 hs8 hl8 hk8
          go_wp2_with (refine stop_store 41 _ _ rfl ?_)
          refine Stop.of ?_
          refine wpList_storeN rfl _ _ _ rfl w8.heap.size 0 (c7 ⟨.slice ta t.1.1.length tc, [], t.2⟩) rfl rfl _ _ (heap_alloc_new _ _) (by rw [c7_len]; simp) (by kernel_rfl) (by kernel_rfl) ?_
          intro W2 hW2
          obtain ⟨hi2, hq2, hq3, hr2, hr3⟩ := HEN.out W2 _ hW2 rfl
          have HI2 : Hid (NxI rs w (.slice av rs.length cv) hh h x g (D ++ [t]) T W2) := hi2
          clear hW2 HEN hi2 HA
          have d0 := (cell_row hq2 0 (by simp [c7])).1
          have d1 := (cell_row hq2 1 (by simp [c7])).1
          have d2 := (cell_row hq2 2 (by simp [c7])).1
          have d3 := (cell_row hq2 3 (by simp [c7])).1
          have d4 := (cell_row hq2 4 (by simp [c7])).1
          have d5 := (cell_row hq2 5 (by simp [c7])).1
          have d6 := (cell_row hq2 6 (by simp [c7])).1
          have f0 := (cell_row hq3 0 (by simp [c7])).1
          have f1 := (cell_row hq3 1 (by simp [c7])).1
          have f2 := (cell_row hq3 2 (by simp [c7])).1
          have f3 := (cell_row hq3 3 (by simp [c7])).1
          have f4 := (cell_row hq3 4 (by simp [c7])).1
          have f5 := (cell_row hq3 5 (by simp [c7])).1
          have f6 := (cell_row hq3 6 (by simp [c7])).1
          simp only [c7, List.getElem_toArray, List.getElem_cons_zero, List.getElem_cons_succ] at d0 d1 d2 d3 d4 d5 d6 f0 f1 f2 f3 f4 f5 f6
          clear hq2 hq3
          have hq4 : (convert 34 9 (.slice sa t.1.1.length sc)).run Try.prog W2 = .ok (.string ⟨t.1.1.toArray⟩) W2 := reads_text hr2
          have hq5 : (convert 34 9 (.slice ta t.1.1.length tc)).run Try.prog W2 = .ok (.string ⟨t.1.1.toArray⟩) W2 := reads_text hr3
          clear hr2 hr3
          go_wp2_with fail
          go_roundw
          case rel => exact ⟨D ++ [t], T, by simp, HI2.out⟩
          case measure => simp [intOf]; omega
end Go.Proofs.Ytkifnpaenhpndaa
