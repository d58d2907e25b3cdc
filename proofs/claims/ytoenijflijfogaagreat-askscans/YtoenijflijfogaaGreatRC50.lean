/- BR4 AR2 AR3 BR6, joined. -/
import Derived.Test.YtoenijflijfogaaGreatRC28
import Derived.Test.YtoenijflijfogaaGreatRC32
import Derived.Test.YtoenijflijfogaaGreatRC46
import Derived.Test.YtoenijflijfogaaGreatRC49
/- Layer 17: the reference's Rollup. -/
namespace Go.Proofs.YtoenijflijfogaaGreat
open Go.RowKit

/-- What the loop keeps. -/
structure RfI (V : World) (mk : Nat) (f t : Int) (rows : List Rw) (k : Nat) (o : Value) (P : List It) (wr : World) : Prop where
  z : TRz wr o P
  e : P.map itR = rollF mk f t (rows.take k)
  s : ∀ y ∈ P, SReads wr y.v y.D
  ok : ∀ y ∈ P, RwOk y
  b : Below V.heap.size V wr
theorem RfI.below {V : World} {mk : Nat} {f t : Int} {rows : List Rw} {k : Nat} {o : Value} {P : List It} {wr W : World} (h : RfI V mk f t rows k o P wr) (hb : Below wr.heap.size wr W) : RfI V mk f t rows k o P W :=
  ⟨h.z.below hb, h.e, fun y hy => (h.s y hy).below hb, h.ok, h.b.trans (hb.mono h.b.size)⟩
theorem RfI.skip {V : World} {mk : Nat} {f t : Int} {rows : List Rw} {k : Nat} {o : Value} {P : List It} {wr : World} (h : RfI V mk f t rows k o P wr) (hk : k < rows.length) (hi : inR f t rows[k] = false) : RfI V mk f t rows (k + 1) o P wr :=
  ⟨h.z, by rw [h.e, List.take_succ_eq_append_getElem hk, rollF_snoc, if_neg (by rw [hi]; simp)], h.s, h.ok, h.b⟩
theorem RfI.put {V : World} {mk : Nat} {f t : Int} {rows : List Rw} {k : Nat} {o o' : Value} {P : List It} {w W : World} {x : It} (h : RfI V mk f t rows k o P w) (hk : k < rows.length) (hi : inR f t rows[k] = true) (hx : itR x = pR mk f t rows[k])
    (hz : TRz W o' (insI x P)) (hb : Below w.heap.size w W) (hs : SReads w x.v x.D) (hok : RwOk x) : RfI V mk f t rows (k + 1) o' (insI x P) W := by
  refine ⟨hz, ?_, insI_all (p := fun y => SReads W y.v y.D) (fun _ _ => hs.below hb) (hs.below hb) (fun y hy => (h.s y hy).below hb), insI_all (p := RwOk) (fun y hy => ⟨hok.m, hok.f, hok.z, hy.a.mrg hok.a, mrg_pos17 hy.a hok.a hok.c⟩) hok h.ok, h.b.trans (hb.mono h.b.size)⟩
  rw [itR_ins, h.e, hx, List.take_succ_eq_append_getElem hk, rollF_snoc, if_pos hi]
set_option maxRecDepth 100000 in
set_option maxHeartbeats 4000000 in
theorem refRoll17_any (R : Rl) (wm : Int) (v : Value) (L : List En) (mk f t : Int) (w : World) (hL : Lies R w.heap.size w) (hE : EReads w v L) (hl : L.length ≤ 100000) (hk : ∀ x ∈ L, x.1.length ≤ 1000) (hmr : mk ≤ 9223372036854775807) :
    Calls Tryz.prog 17 #[.agg #[.slice R.a R.len R.cap, .int .i64 R.kp], .int .i64 wm, v, .int .i64 mk, .int .i64 f, .int .i64 t] w (RwPost (rlQ R wm L mk f t) (rlE R wm L mk f t) w) := by
  obtain ⟨a, cap, rfl, hm1, hm2⟩ := hE.form
  obtain ⟨w1, HW1⟩ := hid_ex (w.alloc (.cells #[.slice R.a R.len R.cap, .int .i64 R.kp] 24))
  have hb1 : Below w.heap.size w w1 := by rw [HW1.out]; exact (Below.refl _ _).alloc (Nat.le_refl _) _
  have hX1 : w1.heap[w.heap.size]? = some (.cells #[.slice R.a R.len R.cap, .int .i64 R.kp] 24) := by rw [HW1.out]; exact heap_alloc_new _ _
  have c0 := (cell_row hX1 0 (by simp)).1
  have c1 := (cell_row hX1 1 (by simp)).1
  simp only [List.getElem_toArray, List.getElem_cons_zero, List.getElem_cons_succ] at c0 c1
  have HB1 : Hid (Below w.heap.size w w1) := hb1
  have HF : Hid (Calls Tryz.prog 26 #[.agg #[.slice R.a R.len R.cap, .int .i64 R.kp], .int .i64 wm, .slice a L.length cap] w1 (RowsP R wm L w1)) := refRows17_any R wm _ L _ (hL.at hb1) (hE.below hb1) hl hk
  have HLE : Hid ((rowsE R wm L).length ≤ 100000) := Nat.le_trans (rowsE_len R wm L) hl
  clear hL hE hl hk hb1 hX1
  obtain ⟨q, HQ⟩ := hid_ex (rlQ R wm L mk f t)
  obtain ⟨c, HC⟩ := hid_ex (rlE R wm L mk f t)
  rw [← HQ.out, ← HC.out]
  go_enter Tryz.func17, Tryz.ntmps17
  go_wp2_with fail
  rw [← HW1.out]
  clear HW1
  refine HF.out.mono ?_
  clear HF c0 c1
  rintro e w2 ⟨hb2, v2, xs, rfl, hT, hm, hok⟩
  obtain ⟨xa, xc, hxv, -, -⟩ := hT.form17
  subst hxv
  have HB2 : Hid (Below w.heap.size w w2) := HB1.out.trans (hb2.mono HB1.out.size)
  by_cases hz : chkF R wm L = 0
  · have HZ : Hid (chkF R wm L = 0) := hz
    have HM : Hid (xs.map itR = rowsE R wm L) := by
      have h1 := hm
      unfold rwQ at h1
      rw [if_pos hz] at h1
      exact h1
    have HOK : Hid (∀ x ∈ xs, RwOk x) := hok
    have hnl : xs.length ≤ 100000 := by have := HLE.out; rw [← HM.out, List.length_map] at this; exact this
    obtain ⟨n, Hn⟩ := hid_ex xs.length
    rw [← Hn.out] at hT hnl ⊢
    have HT2 : Hid (TReads w2 (.slice xa n xc) xs) := hT
    rw [hz]
    clear hz hok hm hT hb2 HB1
    by_cases hmk : mk < 0
    · obtain ⟨h1, h2⟩ := rlE_neg (f := f) (t := t) HZ.out hmk
      rw [← HC.out] at h1
      rw [← HQ.out] at h2
      subst h2
      have HEnd : Hid (RwPost [] c w (.returned (.tuple #[.slice none 0 0, .int .i64 1])) w2) := by rw [← h1]; exact RwPost.none HB2.out
      clear h1 HC
      go_wp2_with fail
      go_ret2
      exact HEnd.out
    · by_cases hrg : 0 ≤ f ∧ f ≤ t ∧ t ≤ 1099511627776
      · obtain ⟨h1, h2⟩ := rlE_ok (f := f) (t := t) HZ.out hmk hrg
        rw [← HC.out] at h1
        rw [← HQ.out] at h2
        subst h1
        obtain ⟨mn, rfl⟩ : ∃ mn : Nat, mk = (mn : Int) := ⟨mk.toNat, by omega⟩
        rw [Int.toNat_natCast] at h2
        have HQ2 : Hid (q = rollF mn f t (xs.map itR)) := by show q = _; rw [HM.out]; exact h2
        have HIR := refRanged17_any f t w2
        rw [decide_eq_true hrg] at HIR
        have HIR2 : Hid (Calls Tryz.prog 34 #[.int .i64 f, .int .i64 t] w2 fun e w' => e = .returned (.bool true) ∧ w' = w2) := HIR
        obtain ⟨hf9, hft9, ht9⟩ := hrg
        have hmn : mn < 9223372036854775808 := by omega
        clear h2 HC HQ HIR HM HZ
        go_wp2_with fail
        refine HIR2.out.mono ?_
        rintro e w' ⟨rfl, hw'⟩
        subst w'
        clear HIR2
        have HI0 : Hid (RfI w2 mn f t (xs.map itR) 0 (.slice none 0 0) [] w2) := ⟨TRz.nil _, by rw [List.take_zero]; rfl, (fun y hy => by cases hy), (fun y hy => by cases hy), Below.refl _ _⟩
        go_wp2_with fail
        go_loopw [16, 17] (fun o i wr => ∃ (k : Nat) (P : List It), k ≤ n ∧ i = .int .i64 (k : Int) ∧ Hid (RfI w2 mn f t (xs.map itR) k o P wr)) (fun _ i _ => n - (intOf i).toNat)
        case atStart => exact ⟨0, [], by omega, rfl, HI0⟩
        case round =>
          clear HI0
          obtain ⟨k, P, hk, rfl, HG⟩ := hrel
          by_cases hlt : k < n
          · have hlt' : (k : Int) < (n : Int) := by omega
            have hkx : k < xs.length := by rw [← Hn.out]; exact hlt
            have hkm : k < (xs.map itR).length := by rw [List.length_map]; exact hkx
            have hokx := HOK.out xs[k] (List.getElem_mem hkx)
            have HNO : Hid (inR f t (itR xs[k]) = false → RfI w2 mn f t (xs.map itR) (k + 1) u16 P wr) := fun hi => HG.out.skip hkm (by rw [List.getElem_map]; exact hi)
            have HPUT : Hid (inR f t (itR xs[k]) = true → ∀ (w W : World) (x : It) (o' : Value), RfI w2 mn f t (xs.map itR) k u16 P w → itR x = pR mn f t (itR xs[k]) → TRz W o' (insI x P) → Below w.heap.size w W → SReads w x.v x.D → RwOk x → RfI w2 mn f t (xs.map itR) (k + 1) o' (insI x P) W) := fun hi w W x o' h1 h2 h3 h4 h5 h6 => h1.put hkm (by rw [List.getElem_map]; exact hi) (by rw [List.getElem_map]; exact h2) h3 h4 h5 h6
            obtain ⟨x, Hx⟩ := hid_ex xs[k]
            rw [← Hx.out] at hokx HNO HPUT
            obtain ⟨xv, xD, xf, xz, xg⟩ := x
            obtain ⟨b, o, rfl, hn9, hsr⟩ := HT2.out.nine hkx Hx.out.symm
            obtain ⟨va, vc, hv, -⟩ := hsr.form
            obtain ⟨xn, Hxn⟩ := hid_ex xD.length
            rw [← Hxn.out] at hv
            subst hv
            have HOX : Hid (RwOk ⟨.slice va xn vc, xD, xf, xz, xg⟩) := hokx
            have HNr : Hid (N9 wr b (o + k * 9) (.slice va xn vc) xf xz xg.c (hi xg.s) (lo xg.s) xg.mn xg.mx xg.o) := hn9.below HG.out.b
            have HSX : Hid (SReads wr (.slice va xn vc) xD) := hsr.below HG.out.b
            obtain ⟨y0, y1, y2, y3, y4, y5, y6, y7, y8, -⟩ := HNr.out
            clear hsr hokx hn9 hkx hkm Hx Hxn
            by_cases h1 : f ≤ xf
            · have h1' : ¬ xf < f := by omega
              by_cases h2 : xf < t
              · have h2' : ¬ t ≤ xf := by omega
                have HPU2 : Hid (∀ (w W : World) (x : It) (o' : Value), RfI w2 mn f t (xs.map itR) k u16 P w → itR x = pR mn f t ⟨xD, xf, xz, xg⟩ → TRz W o' (insI x P) → Below w.heap.size w W → SReads w x.v x.D → RwOk x → RfI w2 mn f t (xs.map itR) (k + 1) o' (insI x P) W) := HPUT.out (by unfold inR itR; exact decide_eq_true ⟨h1, h2⟩)
                have HPC : Hid (Calls Tryz.prog 39 #[.slice va xn vc, .int .i64 (mn : Int)] wr fun e w' => ∃ v', e = .returned (.tuple #[v', .int .i64 0]) ∧ SOwn w' wr.heap.size v' (pt xD mn) ∧ Below wr.heap.size wr w') := refPart_any _ xD (by have := (mayB_iff.1 HOX.out.m).1; simp only at this; omega) mn hmn wr HSX.out
                obtain ⟨Z, HZ⟩ : ∃ Z : Nat, Hid (t - f = (Z : Int)) := ⟨(t - f).toNat, by show _ = _; omega⟩
                have HZt : Hid (1 ≤ t - f ∧ t - f ≤ 1099511627776) := ⟨by omega, by omega⟩
                clear HNO HPUT
                go_wp2_with fail
                refine HPC.out.mono ?_
                clear HPC y0 y1 y2 y3 y4 y5 y6 y7 y8
                rintro e w7 ⟨pv, rfl, hpo, hb7⟩
                have HP7 : Hid (SReads w7 pv (pt xD mn)) := hpo.reads
                have HG7 : Hid (RfI w2 mn f t (xs.map itR) k u16 P w7) := HG.out.below hb7
                have HN7 : Hid (N9 w7 b (o + k * 9) (.slice va xn vc) xf xz xg.c (hi xg.s) (lo xg.s) xg.mn xg.mx xg.o) := HNr.out.below hb7
                have HMP : Hid (mayB (pt xD mn) = true) := mayB_pt HOX.out.m mn
                obtain ⟨p, Hp⟩ := hid_ex (pt xD mn)
                rw [← Hp.out] at HP7 HMP
                obtain ⟨pa, pc, hpv, -⟩ := HP7.out.form
                obtain ⟨pn, Hpn⟩ := hid_ex p.length
                rw [← Hpn.out] at hpv
                subst hpv
                have HPL : Hid (P.length ≤ 100000) := by
                  have h1 := congrArg List.length HG7.out.e
                  have h2 := rollF_len mn f t ((xs.map itR).take k)
                  rw [List.length_map] at h1
                  rw [List.length_take, List.length_map, ← Hn.out] at h2
                  show _ ≤ _
                  omega
                have HPT : Hid (Calls Tryz.prog 40 #[u16, .agg #[.slice pa pn pc, .int .i64 f, .int .i64 (t - f), .int .u64 xg.c, .bool xg.o, .int .i64 (hi xg.s), .int .u64 (lo xg.s), .int .i64 xg.mn, .int .i64 xg.mx]] w7 fun e w' => ∃ v', e = .returned v' ∧ RfI w2 mn f t (xs.map itR) (k + 1) v' (insI ⟨.slice pa pn pc, p, f, Z, xg⟩ P) w') := by
                  have h0 := refPut17_any u16 (.slice pa pn pc) P p f Z xg w7 HG7.out.z HG7.out.s HP7.out HOX.out.a (fun z hz => (HG7.out.ok z hz).a) HPL.out
                  rw [← HZ.out] at h0
                  refine h0.mono ?_
                  rintro e w8 ⟨v', rfl, hz8, hb8⟩
                  refine ⟨v', rfl, HPU2.out w7 w8 ⟨.slice pa pn pc, p, f, Z, xg⟩ v' HG7.out ?_ hz8 hb8 HP7.out ⟨HMP.out, ⟨hf9, Int.le_trans hft9 ht9⟩, ⟨by have := HZ.out; have := HZt.out; show 1 ≤ Z; omega, by have := HZ.out; have := HZt.out; show Z ≤ 1099511627776; omega⟩, HOX.out.a, HOX.out.c⟩⟩
                  unfold itR pR
                  rw [← Hp.out, HZ.out, Int.toNat_natCast]
                obtain ⟨y0, y1, y2, y3, y4, y5, y6, y7, y8, -⟩ := HN7.out
                clear hpo hb7 HNr HG HSX
                go_wp2_with fail
                refine HPT.out.mono ?_
                clear HPT y0 y1 y2 y3 y4 y5 y6 y7 y8
                rintro e w8 ⟨v8, rfl, hri⟩
                have HN : Hid (RfI w2 mn f t (xs.map itR) (k + 1) v8 (insI ⟨.slice pa pn pc, p, f, Z, xg⟩ P) w8) := hri
                clear hri
                go_wp2_with fail
                go_roundw
                case rel => exact ⟨k + 1, _, by omega, by go_num, HN⟩
                case measure => simp [intOf]; omega
              · have h2' : t ≤ xf := by omega
                have HN : Hid (RfI w2 mn f t (xs.map itR) (k + 1) u16 P wr) := HNO.out (by unfold inR itR; exact decide_eq_false (fun h => h2 h.2))
                clear HPUT HNO
                go_wp2_with fail
                go_roundw
                case rel => exact ⟨k + 1, P, by omega, by go_num, HN⟩
                case measure => simp [intOf]; omega
            · have h1' : xf < f := by omega
              have HN : Hid (RfI w2 mn f t (xs.map itR) (k + 1) u16 P wr) := HNO.out (by unfold inR itR; exact decide_eq_false (fun h => h1 h.1))
              clear HPUT HNO
              go_wp2_with fail
              go_roundw
              case rel => exact ⟨k + 1, P, by omega, by go_num, HN⟩
              case measure => simp [intOf]; omega
          · obtain rfl : k = n := by omega
            have hlt' : ¬ (k : Int) < (k : Int) := by omega
            have HEnd : Hid (∃ a cap, u16 = .slice a P.length cap ∧ RwPost q 0 w (.returned (.tuple #[.slice a P.length cap, .int .i64 0])) wr) := by
              obtain ⟨a, cap, hv, _⟩ := HG.out.z.1.form
              have hz := HG.out.z.1
              subst hv
              refine ⟨a, cap, rfl, HB2.out.trans (HG.out.b.mono HB2.out.size), a, cap, P, rfl, hz, ?_, HG.out.ok⟩
              rw [HG.out.e, HQ2.out, List.take_of_length_le (by rw [List.length_map, Hn.out]; exact Nat.le_refl _)]
            obtain ⟨oa, oc, hov, HP⟩ := HEnd.out
            obtain ⟨M, HM9⟩ : ∃ m, Hid (P.length = m) := ⟨_, rfl⟩
            rw [HM9.out] at hov HP
            subst hov
            have HP2 : Hid (RwPost q 0 w (.returned (.tuple #[.slice oa M oc, .int .i64 0])) wr) := HP
            clear HP HEnd HG
            go_wp2_with fail
            go_ret2
            exact HP2.out
      · obtain ⟨h1, h2⟩ := rlE_rng (f := f) (t := t) HZ.out hmk hrg
        rw [← HC.out] at h1
        rw [← HQ.out] at h2
        subst h2
        have HEnd : Hid (RwPost [] c w (.returned (.tuple #[.slice none 0 0, .int .i64 1])) w2) := by rw [← h1]; exact RwPost.none HB2.out
        have HIR := refRanged17_any f t w2
        rw [decide_eq_false hrg] at HIR
        have HIR2 : Hid (Calls Tryz.prog 34 #[.int .i64 f, .int .i64 t] w2 fun e w' => e = .returned (.bool false) ∧ w' = w2) := HIR
        clear h1 HC HIR hrg
        go_wp2_with fail
        refine HIR2.out.mono ?_
        rintro e w' ⟨rfl, hw'⟩
        subst w'
        clear HIR2
        go_wp2_with fail
        go_ret2
        exact HEnd.out
  · have hb0 : (chkF R wm L == 0) = false := by simp [hz]
    have hb0' : (chkF R wm L != 0) = true := by simp [hz]
    obtain ⟨h1, h2⟩ := rlE_chk (mk := mk) (f := f) (t := t) hz
    rw [← HC.out] at h1
    rw [← HQ.out] at h2
    subst h2
    have HEnd : Hid (RwPost [] c w (.returned (.tuple #[.slice none 0 0, .int .i64 (chkF R wm L)])) w2) := by rw [← h1]; exact RwPost.none HB2.out
    clear hz hb2 h1 HC hT hm hok
    generalize chkF R wm L = rr at *
    go_wp2_with fail
    go_ret2
    exact HEnd.out
end Go.Proofs.YtoenijflijfogaaGreat

/- Layer 17: queries. -/
namespace Go.Proofs.YtoenijflijfogaaGreat
open Go.RowKit Go.Joins Go.ChangeShapes Go.WideShapes Go.ChangeAt

/-- A query. -/
structure Qy where
  v : Value
  D : List ByteArray
  t : Int
  f : Int
  u : Int
  m : Int
def Qy.val (q : Qy) : Value := .agg #[q.v, .int .i64 q.t, .int .i64 q.f, .int .i64 q.u, .int .i64 q.m]
def In64 (x : Int) : Prop := -9223372036854775808 ≤ x ∧ x ≤ 9223372036854775807
structure QLies (q : Qy) (w : World) : Prop where
  r : SReads w q.v q.D
  t : In64 q.t
  f : In64 q.f
  u : In64 q.u
  m : In64 q.m
theorem QLies.below {q : Qy} {w w' : World} (h : QLies q w) (hb : Below w.heap.size w w') : QLies q w' := ⟨h.r.below hb, h.t, h.f, h.u, h.m⟩
theorem arr5 {cs : Array Value} (h : cs.size = 5) : ∃ c0 c1 c2 c3 c4, cs = #[c0, c1, c2, c3, c4] := by
  obtain ⟨l⟩ := cs
  match l, h with
  | [a, b, c, d, e], _ => exact ⟨a, b, c, d, e, rfl⟩
theorem celS17 : Tryz.prog.cellsOf 26 = 1 := by kernel_rfl
theorem celI17 : Tryz.prog.cellsOf 3 = 1 := by kernel_rfl
theorem cel617 : Tryz.prog.cellsOf 2 = 1 := by kernel_rfl
set_option maxRecDepth 100000 in
theorem openQy {H : Type} {enc : TypeId × Value → H} {W : World} {r : Reach} {b0 base : Nat} {spare : Nat → Bool} {held : Bool} {v : Value} {d : DataW H} {p : List MemPlace}
    (hv : Value.okWide Tryz.prog W r b0 28 v) (h : DataW.Trod enc Tryz.prog W base spare held 28 v d p) : ∃ q : Qy, v = q.val ∧ QLies q W := by
  obtain ⟨cs, rfl, hsz⟩ := okWide_struct Tryz.underlying28 hv
  obtain ⟨c0, c1, c2, c3, c4, rfl⟩ := arr5 (hsz.trans (by kernel_rfl))
  obtain ⟨fuel, hf⟩ := h
  obtain ⟨xs, n, _, _, _, hlen, hfs⟩ := DataW.trod_struct Tryz.underlying28 hf
  obtain ⟨y0, g0⟩ := some_of_len (i := 0) hlen (by decide)
  obtain ⟨y1, g1⟩ := some_of_len (i := 1) hlen (by decide)
  obtain ⟨y2, g2⟩ := some_of_len (i := 2) hlen (by decide)
  obtain ⟨y3, g3⟩ := some_of_len (i := 3) hlen (by decide)
  obtain ⟨y4, g4⟩ := some_of_len (i := 4) hlen (by decide)
  have e0 := (hfs 0 _ rfl).trans g0
  have e1 := (hfs 1 _ rfl).trans g1
  have e2 := (hfs 2 _ rfl).trans g2
  have e3 := (hfs 3 _ rfl).trans g3
  have e4 := (hfs 4 _ rfl).trans g4
  simp [celS17, Value.cells] at e0
  simp [cel617, Value.cells] at e1
  simp [cel617, Value.cells] at e2
  simp [cel617, Value.cells] at e3
  simp [celI17, Value.cells] at e4
  obtain ⟨D, hD⟩ := openS' e0
  obtain ⟨t, q1, _, w1⟩ := DataW.trod_int Tryz.underlying2 e1
  obtain ⟨f, q2, _, w2⟩ := DataW.trod_int Tryz.underlying2 e2
  obtain ⟨u, q3, _, w3⟩ := DataW.trod_int Tryz.underlying2 e3
  obtain ⟨m, q4, _, w4⟩ := DataW.trod_int Tryz.underlying3 e4
  simp at q1 q2 q3 q4
  subst q1 q2 q3 q4
  exact ⟨⟨c0, D, t, f, u, m⟩, rfl, hD, bounds_i64 w1, bounds_i64 w2, bounds_i64 w3, bounds_i64 w4⟩
theorem fa1_reads {W : World} {b : Nat} {v : Value} {D : List ByteArray} {T : TypeId} (hv : SReads W v D) (hW : W.heap[b]? = some (.cells #[v, .int .i64 0, .int .i64 0] T)) : FReads W (.slice (some ⟨b, 0, none⟩) 1 1) [⟨v, D, 0, 0⟩] := by
  refine ⟨_, 1, rfl, Nat.le_refl _, (show 1 ≤ maxLen by decide), .inr ⟨b, 0, rfl, (Array.getElem?_eq_some_iff.1 hW).1, fun j hj => ?_⟩⟩
  have hj2 : j < 1 := hj
  match j, hj2 with
  | 0, _ =>
    refine ⟨fun i hi => ?_, hv, (show FaB ⟨v, D, 0, 0⟩ from ⟨show (-9223372036854775808 : Int) ≤ 0 by decide, show (0 : Int) ≤ 9223372036854775807 by decide, show (-9223372036854775808 : Int) ≤ 0 by decide, show (0 : Int) ≤ 9223372036854775807 by decide⟩)⟩
    rw [Go.Joins.cell_of_block hW]
    match i, hi with
    | 0, _ => rfl
    | 1, _ => rfl
    | 2, _ => rfl
set_option maxRecDepth 100000 in
set_option maxHeartbeats 2000000 in
theorem long17_any (v : Value) (D : List ByteArray) (t f u m : Int) (w : World) (hD : SReads w v D) :
    Calls Tryz.prog 8 #[.agg #[v, .int .i64 t, .int .i64 f, .int .i64 u, .int .i64 m]] w fun e w' => ∃ g : Bool, e = .returned (.bool g) ∧ Below w.heap.size w w' := by
  obtain ⟨a, c, rfl, -⟩ := hD.form
  obtain ⟨w1, HW1⟩ := hid_ex ((w.alloc (.cells #[.slice a D.length c, .int .i64 t, .int .i64 f, .int .i64 u, .int .i64 m] 28)).alloc (.cells #[.slice a D.length c, .int .i64 0, .int .i64 0] 63))
  have hb1 : Below w.heap.size w w1 := by rw [HW1.out]; exact ((Below.refl _ _).alloc (Nat.le_refl _) _).alloc (by simp) _
  have hY : w1.heap[w.heap.size + 1]? = some (.cells #[.slice a D.length c, .int .i64 0, .int .i64 0] 63) := by
    rw [HW1.out]
    have := heap_alloc_new (w.alloc (.cells #[.slice a D.length c, .int .i64 t, .int .i64 f, .int .i64 u, .int .i64 m] 28)) (.cells #[.slice a D.length c, .int .i64 0, .int .i64 0] 63)
    rw [World.size_alloc] at this; exact this
  have HF : Hid (FReads w1 (.slice (some ⟨w.heap.size + 1, 0, none⟩) 1 1) [⟨.slice a D.length c, D, 0, 0⟩]) := fa1_reads (hD.below hb1) hY
  have HB1 : Hid (Below w.heap.size w w1) := hb1
  clear hD hb1 hY
  go_enter Tryz.func8, Tryz.ntmps8
  go_wp2_with fail
  rw [← HW1.out]
  refine (many15_any _ _ w1 HF.out).mono ?_
  rintro e w2 ⟨g, rfl, -, hw2⟩
  have HB2 : Hid (Below w.heap.size w w2) := by rw [hw2]; exact HB1.out
  clear hw2 HW1
  go_wp2_with fail
  go_ret
  exact ⟨g, rfl, HB2.out⟩
end Go.Proofs.YtoenijflijfogaaGreat

/- Layer 17: one row of a slice of rows; AskRanges, plainly. -/
namespace Go.Proofs.YtoenijflijfogaaGreat
open Go.RowKit

end Go.Proofs.YtoenijflijfogaaGreat

/- Layer 17: AskScans' walk (written by a script out of AR4.base). -/
namespace Go.Proofs.YtoenijflijfogaaGreat
open Go.RowKit

theorem sc_short {R : Rl} {wm : Int} {L : List En} {D : List ByteArray} {f u : Int} {xs : List It} (h : xs.map itR = scQ R wm L D f u) (hl : L.length ≤ 100000) : xs.length ≤ 100000 := by
  have h1 := congrArg List.length h
  rw [List.length_map] at h1
  rw [h1]
  unfold scQ
  split
  · exact Nat.le_trans (scanF_len _ _ _ _) (Nat.le_trans (rowsE_len R wm L) hl)
  · simp
theorem rl_short {R : Rl} {wm : Int} {L : List En} {m f u : Int} {xs : List It} (h : xs.map itR = rlQ R wm L m f u) (hl : L.length ≤ 100000) : xs.length ≤ 100000 := by
  have h1 := congrArg List.length h
  rw [List.length_map] at h1
  rw [h1]
  unfold rlQ
  split
  · exact Nat.le_trans (rollF_len _ _ _ _) (Nat.le_trans (rowsE_len R wm L) hl)
  · simp
set_option maxRecDepth 100000 in
set_option maxHeartbeats 8000000 in
theorem scans17_walk (R : Rl) (wm : Int) (v : Value) (L : List En) (q : Qy) (w : World) (hL : Lies R w.heap.size w) (hE : EReads w v L) (hQ : QLies q w) :
    Calls Tryz.prog 4 #[.agg #[.slice R.a R.len R.cap, .int .i64 R.kp], .int .i64 wm, v, q.val] w fun e w' => e = .returned (.bool true) ∧ Below w.heap.size w w' := by
  obtain ⟨a, cap, rfl, hm1, hm2⟩ := hE.form
  obtain ⟨qv, qD, qt, qf, qu, qm⟩ := q
  have hqr := hQ.r
  obtain ⟨da, dc, hdv, hdl⟩ := hqr.form
  simp only at hdv
  subst hdv
  obtain ⟨hq1, hq2⟩ := hQ.m
  simp only at hq1 hq2
  have HL : Hid (Lies R w.heap.size w) := hL
  have HE : Hid (EReads w (.slice a L.length cap) L) := hE
  have HD : Hid (SReads w (.slice da qD.length dc) qD) := hqr
  obtain ⟨dn, Hdn⟩ := hid_ex qD.length
  rw [← Hdn.out] at HD hdl ⊢
  obtain ⟨w1, HW1⟩ := hid_ex ((w.alloc (.cells #[.slice R.a R.len R.cap, .int .i64 R.kp] 24)).alloc (.cells #[.slice da dn dc, .int .i64 qt, .int .i64 qf, .int .i64 qu, .int .i64 qm] 28))
  have HB1 : Hid (Below w.heap.size w w1) := by rw [HW1.out]; exact ((Below.refl _ _).alloc (Nat.le_refl _) _).alloc (by simp) _
  have HX1 : Hid (w1.heap[w.heap.size]? = some (.cells #[.slice R.a R.len R.cap, .int .i64 R.kp] 24)) := by
    rw [HW1.out]; unfold Hid; exact (Below.heap_alloc _ _ _ (by simp)).trans (heap_alloc_new _ _)
  have HY1 : Hid (w1.heap[w.heap.size + 1]? = some (.cells #[.slice da dn dc, .int .i64 qt, .int .i64 qf, .int .i64 qu, .int .i64 qm] 28)) := by
    rw [HW1.out]; unfold Hid
    have := heap_alloc_new (w.alloc (.cells #[.slice R.a R.len R.cap, .int .i64 R.kp] 24)) (.cells #[.slice da dn dc, .int .i64 qt, .int .i64 qf, .int .i64 qu, .int .i64 qm] 28)
    rw [World.size_alloc] at this; exact this
  have HGR : Hid (Calls Tryz.prog 7 #[.slice a L.length cap] w1 (Gt15 L w1)) := great15_any _ _ w1 (HE.out.below HB1.out)
  have HAL : Hid (∀ W, Below w.heap.size w W → Calls Tryz.prog 9 #[] W fun e w' => e = .returned (.bool true) ∧ Below w.heap.size w w') := fun W hW => (alive17_any W).mono fun e w' ⟨h1, h2⟩ => ⟨h1, hW.trans (h2.mono hW.size)⟩
  have HSA : Hid (∀ W, okRow15 L → Below w.heap.size w W → Calls Tryz.prog 14 #[.agg #[.slice R.a R.len R.cap, .int .i64 R.kp], .int .i64 wm, .slice a L.length cap, .slice da dn dc, .int .i64 qf, .int .i64 qu] W (RwPost (scQ R wm L qD qf qu) (scE R wm L qD qf qu) W)) := fun W hok hW => by
    have h1 := HD.out.below hW
    rw [Hdn.out] at h1 ⊢
    exact scan17_any R wm _ L _ qD qf qu W (HL.out.at hW) (HE.out.below hW) (by have := hok.1; omega) (fun x hx => by have := hok.2 x hx; omega) h1
  have HSB : Hid (∀ W, okRow15 L → Below w.heap.size w W → Calls Tryz.prog 15 #[.agg #[.slice R.a R.len R.cap, .int .i64 R.kp], .int .i64 wm, .slice a L.length cap, .slice da dn dc, .int .i64 qf, .int .i64 qu] W (RwPost (scQ R wm L qD qf qu) (scE R wm L qD qf qu) W)) := fun W hok hW => by
    have h1 := HD.out.below hW
    rw [Hdn.out] at h1 ⊢
    exact refScan17_any R wm _ L _ qD qf qu W (HL.out.at hW) (HE.out.below hW) (by have := hok.1; omega) (fun x hx => by have := hok.2 x hx; omega) h1
  have HRA : Hid (∀ W, okRow15 L → Below w.heap.size w W → Calls Tryz.prog 16 #[.agg #[.slice R.a R.len R.cap, .int .i64 R.kp], .int .i64 wm, .slice a L.length cap, .int .i64 qm, .int .i64 qf, .int .i64 qu] W (RwPost (rlQ R wm L qm qf qu) (rlE R wm L qm qf qu) W)) := fun W hok hW =>
    roll17_any R wm _ L qm qf qu W (HL.out.at hW) (HE.out.below hW) (by have := hok.1; omega) (fun x hx => by have := hok.2 x hx; omega) hq2
  have HRB : Hid (∀ W, okRow15 L → Below w.heap.size w W → Calls Tryz.prog 17 #[.agg #[.slice R.a R.len R.cap, .int .i64 R.kp], .int .i64 wm, .slice a L.length cap, .int .i64 qm, .int .i64 qf, .int .i64 qu] W (RwPost (rlQ R wm L qm qf qu) (rlE R wm L qm qf qu) W)) := fun W hok hW =>
    refRoll17_any R wm _ L qm qf qu W (HL.out.at hW) (HE.out.below hW) (by have := hok.1; omega) (fun x hx => by have := hok.2 x hx; omega) hq2
  have HLG : Hid (∀ W, Below w.heap.size w W → Calls Tryz.prog 8 #[.agg #[.slice da dn dc, .int .i64 qt, .int .i64 qf, .int .i64 qu, .int .i64 qm]] W fun e w' => ∃ g : Bool, e = .returned (.bool g) ∧ Below W.heap.size W w') := fun W hW => by
    have h1 := HD.out.below hW
    rw [Hdn.out] at h1 ⊢
    exact long17_any _ qD qt qf qu qm W h1
  obtain ⟨ln, Hln⟩ := hid_ex L.length
  rw [← Hln.out] at HGR HSA HSB HRA HRB hm1 ⊢
  clear hL hE hQ hqr HE HD Hdn Hln HL
  unfold Qy.val
  go_enter Tryz.func4, Tryz.ntmps4
  go_wp2_with fail
  rw [← HW1.out]
  clear HW1
  refine HGR.out.mono ?_
  clear HGR
  rintro e w' ⟨g, rfl, hok, hw'⟩
  subst w'
  have HOK : Hid (g = false → okRow15 L) := hok
  clear hok
  cases g with
  | true =>
    clear HOK HSA HSB HRA HRB HLG
    go_wp2_with fail
    refine (HAL.out _ HB1.out).mono ?_
    rintro e w2 ⟨rfl, hb2⟩
    have HB2 : Hid (Below w.heap.size w w2) := hb2
    clear hb2
    go_wp2_with fail
    go_ret
    exact ⟨rfl, HB2.out⟩
  | false =>
    have HOK2 : Hid (okRow15 L) := HOK.out rfl
    have HLG1 : Hid (Calls Tryz.prog 8 #[.agg #[.slice da dn dc, .int .i64 qt, .int .i64 qf, .int .i64 qu, .int .i64 qm]] w1 fun e w' => ∃ g : Bool, e = .returned (.bool g) ∧ Below w1.heap.size w1 w') := HLG.out _ HB1.out
    have y0 := (cell_row HY1.out 0 (by simp)).1
    have y1 := (cell_row HY1.out 1 (by simp)).1
    have y2 := (cell_row HY1.out 2 (by simp)).1
    have y3 := (cell_row HY1.out 3 (by simp)).1
    have y4 := (cell_row HY1.out 4 (by simp)).1
    simp only [List.getElem_toArray, List.getElem_cons_zero, List.getElem_cons_succ] at y0 y1 y2 y3 y4
    clear HOK
    go_wp2_with fail
    refine HLG1.out.mono ?_
    clear HLG1 y0 y1 y2 y3 y4
    rintro e w2 ⟨g2, rfl, hb2⟩
    have HX2 : Hid (w2.heap[w.heap.size]? = some (.cells #[.slice R.a R.len R.cap, .int .i64 R.kp] 24)) := (hb2.block _ (Array.getElem?_eq_some_iff.1 HX1.out).1).trans HX1.out
    have HY2 : Hid (w2.heap[w.heap.size + 1]? = some (.cells #[.slice da dn dc, .int .i64 qt, .int .i64 qf, .int .i64 qu, .int .i64 qm] 28)) := (hb2.block _ (Array.getElem?_eq_some_iff.1 HY1.out).1).trans HY1.out
    have HB2 : Hid (Below w.heap.size w w2) := HB1.out.trans (hb2.mono HB1.out.size)
    clear hb2 HX1 HY1 HB1
    cases g2 with
    | true =>
      clear HOK2 HSA HSB HRA HRB HLG HY2 HX2
      go_wp2_with fail
      refine (HAL.out _ HB2.out).mono ?_
      rintro e w3 ⟨rfl, hb3⟩
      have HB3 : Hid (Below w.heap.size w w3) := hb3
      clear hb3
      go_wp2_with fail
      go_ret
      exact ⟨rfl, HB3.out⟩
    | false =>
      have HCA : Hid (Calls Tryz.prog 14 #[.agg #[.slice R.a R.len R.cap, .int .i64 R.kp], .int .i64 wm, .slice a ln cap, .slice da dn dc, .int .i64 qf, .int .i64 qu] w2 (RwPost (scQ R wm L qD qf qu) (scE R wm L qD qf qu) w2)) := HSA.out _ HOK2.out HB2.out
      have x0 := (cell_row HX2.out 0 (by simp)).1
      have x1 := (cell_row HX2.out 1 (by simp)).1
      have y0 := (cell_row HY2.out 0 (by simp)).1
      have y2 := (cell_row HY2.out 2 (by simp)).1
      have y3 := (cell_row HY2.out 3 (by simp)).1
      simp only [List.getElem_toArray, List.getElem_cons_zero, List.getElem_cons_succ] at x0 x1 y0 y2 y3
      clear HLG
      go_wp2_with fail
      refine HCA.out.mono ?_
      clear HCA x0 x1 y0 y2 y3
      rintro e w3 ⟨hb3, xa, xc, xs, rfl, hT3, hM3, hK3⟩
      have HX3 : Hid (w3.heap[w.heap.size]? = some (.cells #[.slice R.a R.len R.cap, .int .i64 R.kp] 24)) := (hb3.block _ (Array.getElem?_eq_some_iff.1 HX2.out).1).trans HX2.out
      have HY3 : Hid (w3.heap[w.heap.size + 1]? = some (.cells #[.slice da dn dc, .int .i64 qt, .int .i64 qf, .int .i64 qu, .int .i64 qm] 28)) := (hb3.block _ (Array.getElem?_eq_some_iff.1 HY2.out).1).trans HY2.out
      have HB3 : Hid (Below w.heap.size w w3) := HB2.out.trans (hb3.mono HB2.out.size)
      have HMx : Hid (xs.map itR = scQ R wm L qD qf qu) := hM3
      have HKx : Hid (∀ y ∈ xs, RwOk y) := hK3
      obtain ⟨xn, Hxn⟩ := hid_ex xs.length
      rw [← Hxn.out] at hT3 ⊢
      have HTx3 : Hid (TReads w3 (.slice xa xn xc) xs) := hT3
      clear hb3 hT3 hM3 hK3 HX2 HY2 HB2
      have HCA : Hid (Calls Tryz.prog 15 #[.agg #[.slice R.a R.len R.cap, .int .i64 R.kp], .int .i64 wm, .slice a ln cap, .slice da dn dc, .int .i64 qf, .int .i64 qu] w3 (RwPost (scQ R wm L qD qf qu) (scE R wm L qD qf qu) w3)) := HSB.out _ HOK2.out HB3.out
      have x0 := (cell_row HX3.out 0 (by simp)).1
      have x1 := (cell_row HX3.out 1 (by simp)).1
      have y0 := (cell_row HY3.out 0 (by simp)).1
      have y2 := (cell_row HY3.out 2 (by simp)).1
      have y3 := (cell_row HY3.out 3 (by simp)).1
      simp only [List.getElem_toArray, List.getElem_cons_zero, List.getElem_cons_succ] at x0 x1 y0 y2 y3
      go_wp2_with fail
      refine HCA.out.mono ?_
      clear HCA x0 x1 y0 y2 y3
      rintro e w4 ⟨hb4, ya, yc, ys, rfl, hT4, hM4, hK4⟩
      have HX4 : Hid (w4.heap[w.heap.size]? = some (.cells #[.slice R.a R.len R.cap, .int .i64 R.kp] 24)) := (hb4.block _ (Array.getElem?_eq_some_iff.1 HX3.out).1).trans HX3.out
      have HY4 : Hid (w4.heap[w.heap.size + 1]? = some (.cells #[.slice da dn dc, .int .i64 qt, .int .i64 qf, .int .i64 qu, .int .i64 qm] 28)) := (hb4.block _ (Array.getElem?_eq_some_iff.1 HY3.out).1).trans HY3.out
      have HB4 : Hid (Below w.heap.size w w4) := HB3.out.trans (hb4.mono HB3.out.size)
      have HMy : Hid (ys.map itR = scQ R wm L qD qf qu) := hM4
      have HKy : Hid (∀ y ∈ ys, RwOk y) := hK4
      obtain ⟨yn, Hyn⟩ := hid_ex ys.length
      rw [← Hyn.out] at hT4 ⊢
      have HTy4 : Hid (TReads w4 (.slice ya yn yc) ys) := hT4
      have HTx4 : Hid (TReads w4 (.slice xa xn xc) xs) := HTx3.out.below hb4
      clear hb4 hT4 hM4 hK4 HX3 HY3 HB3 HTx3
      have HCA : Hid (Calls Tryz.prog 16 #[.agg #[.slice R.a R.len R.cap, .int .i64 R.kp], .int .i64 wm, .slice a ln cap, .int .i64 qm, .int .i64 qf, .int .i64 qu] w4 (RwPost (rlQ R wm L qm qf qu) (rlE R wm L qm qf qu) w4)) := HRA.out _ HOK2.out HB4.out
      have x0 := (cell_row HX4.out 0 (by simp)).1
      have x1 := (cell_row HX4.out 1 (by simp)).1
      have y4 := (cell_row HY4.out 4 (by simp)).1
      have y2 := (cell_row HY4.out 2 (by simp)).1
      have y3 := (cell_row HY4.out 3 (by simp)).1
      simp only [List.getElem_toArray, List.getElem_cons_zero, List.getElem_cons_succ] at x0 x1 y4 y2 y3
      go_wp2_with fail
      refine HCA.out.mono ?_
      clear HCA x0 x1 y4 y2 y3
      rintro e w5 ⟨hb5, za, zc, zs, rfl, hT5, hM5, hK5⟩
      have HX5 : Hid (w5.heap[w.heap.size]? = some (.cells #[.slice R.a R.len R.cap, .int .i64 R.kp] 24)) := (hb5.block _ (Array.getElem?_eq_some_iff.1 HX4.out).1).trans HX4.out
      have HY5 : Hid (w5.heap[w.heap.size + 1]? = some (.cells #[.slice da dn dc, .int .i64 qt, .int .i64 qf, .int .i64 qu, .int .i64 qm] 28)) := (hb5.block _ (Array.getElem?_eq_some_iff.1 HY4.out).1).trans HY4.out
      have HB5 : Hid (Below w.heap.size w w5) := HB4.out.trans (hb5.mono HB4.out.size)
      have HMz : Hid (zs.map itR = rlQ R wm L qm qf qu) := hM5
      have HKz : Hid (∀ y ∈ zs, RwOk y) := hK5
      obtain ⟨zn, Hzn⟩ := hid_ex zs.length
      rw [← Hzn.out] at hT5 ⊢
      have HTz5 : Hid (TReads w5 (.slice za zn zc) zs) := hT5
      have HTx5 : Hid (TReads w5 (.slice xa xn xc) xs) := HTx4.out.below hb5
      have HTy5 : Hid (TReads w5 (.slice ya yn yc) ys) := HTy4.out.below hb5
      clear hb5 hT5 hM5 hK5 HX4 HY4 HB4 HTx4 HTy4
      have HCA : Hid (Calls Tryz.prog 17 #[.agg #[.slice R.a R.len R.cap, .int .i64 R.kp], .int .i64 wm, .slice a ln cap, .int .i64 qm, .int .i64 qf, .int .i64 qu] w5 (RwPost (rlQ R wm L qm qf qu) (rlE R wm L qm qf qu) w5)) := HRB.out _ HOK2.out HB5.out
      have x0 := (cell_row HX5.out 0 (by simp)).1
      have x1 := (cell_row HX5.out 1 (by simp)).1
      have y4 := (cell_row HY5.out 4 (by simp)).1
      have y2 := (cell_row HY5.out 2 (by simp)).1
      have y3 := (cell_row HY5.out 3 (by simp)).1
      simp only [List.getElem_toArray, List.getElem_cons_zero, List.getElem_cons_succ] at x0 x1 y4 y2 y3
      go_wp2_with fail
      refine HCA.out.mono ?_
      clear HCA x0 x1 y4 y2 y3
      rintro e w6 ⟨hb6, ta, tc, ts, rfl, hT6, hM6, hK6⟩
      have HX6 : Hid (w6.heap[w.heap.size]? = some (.cells #[.slice R.a R.len R.cap, .int .i64 R.kp] 24)) := (hb6.block _ (Array.getElem?_eq_some_iff.1 HX5.out).1).trans HX5.out
      have HY6 : Hid (w6.heap[w.heap.size + 1]? = some (.cells #[.slice da dn dc, .int .i64 qt, .int .i64 qf, .int .i64 qu, .int .i64 qm] 28)) := (hb6.block _ (Array.getElem?_eq_some_iff.1 HY5.out).1).trans HY5.out
      have HB6 : Hid (Below w.heap.size w w6) := HB5.out.trans (hb6.mono HB5.out.size)
      have HMt : Hid (ts.map itR = rlQ R wm L qm qf qu) := hM6
      have HKt : Hid (∀ y ∈ ts, RwOk y) := hK6
      obtain ⟨tn, Htn⟩ := hid_ex ts.length
      rw [← Htn.out] at hT6 ⊢
      have HTt6 : Hid (TReads w6 (.slice ta tn tc) ts) := hT6
      have HTx6 : Hid (TReads w6 (.slice xa xn xc) xs) := HTx5.out.below hb6
      have HTy6 : Hid (TReads w6 (.slice ya yn yc) ys) := HTy5.out.below hb6
      have HTz6 : Hid (TReads w6 (.slice za zn zc) zs) := HTz5.out.below hb6
      clear hb6 hT6 hM6 hK6 HX5 HY5 HB5 HTx5 HTy5 HTz5
      obtain ⟨c1, Hc1⟩ := hid_ex (scE R wm L qD qf qu)
      obtain ⟨c2, Hc2⟩ := hid_ex (rlE R wm L qm qf qu)
      rw [← Hc1.out, ← Hc2.out]
      have HLx : Hid (xs.length ≤ 100000) := sc_short HMx.out (by have := HOK2.out.1; omega)
      have HLz : Hid (zs.length ≤ 100000) := rl_short HMz.out (by have := HOK2.out.1; omega)
      have HAK : Hid (Calls Tryz.prog 9 #[] w6 fun e w' => e = .returned (.bool true) ∧ Below w6.heap.size w6 w') := alive17_any w6
      clear HX6 HY6 HOK2 HSA HSB HRA HRB Hc1 Hc2
      go_wp2_with fail
      refine HAK.out.mono ?_
      clear HAK
      rintro e w7 ⟨rfl, hb7⟩
      have HB7 : Hid (Below w.heap.size w w7) := HB6.out.trans (hb7.mono HB6.out.size)
      have HA1 : Hid (Calls Tryz.prog 13 #[.slice xa xn xc] w7 fun e w' => ∃ v', e = .returned v' ∧ TReads w' v' xs ∧ Below w7.heap.size w7 w') := as17_any _ xs w7 (HTx6.out.below hb7) HLx.out
      have HTy7 : Hid (TReads w7 (.slice ya yn yc) ys) := HTy6.out.below hb7
      have HTz7 : Hid (TReads w7 (.slice za zn zc) zs) := HTz6.out.below hb7
      have HTt7 : Hid (TReads w7 (.slice ta tn tc) ts) := HTt6.out.below hb7
      clear hb7 HTx6 HTy6 HTz6 HTt6 HB6
      go_wp2_with fail
      refine HA1.out.mono ?_
      clear HA1
      rintro e w8 ⟨v8, rfl, hT8, hb8⟩
      have HS1 : Hid (Calls Tryz.prog 12 #[v8, .slice ya yn yc] w8 fun e w' => e = .returned (.bool true) ∧ Below w8.heap.size w8 w') := sameAll17_true v8 _ xs ys w8 hT8 (HTy7.out.below hb8) (HMx.out.trans HMy.out.symm)
      have HB8 : Hid (Below w.heap.size w w8) := HB7.out.trans (hb8.mono HB7.out.size)
      have HTz8 : Hid (TReads w8 (.slice za zn zc) zs) := HTz7.out.below hb8
      have HTt8 : Hid (TReads w8 (.slice ta tn tc) ts) := HTt7.out.below hb8
      clear hb8 hT8 HTy7 HTz7 HTt7 HB7
      go_wp2_with fail
      refine HS1.out.mono ?_
      clear HS1
      rintro e w9 ⟨rfl, hb9⟩
      have HB9 : Hid (Below w.heap.size w w9) := HB8.out.trans (hb9.mono HB8.out.size)
      have HA2 : Hid (Calls Tryz.prog 13 #[.slice za zn zc] w9 fun e w' => ∃ v', e = .returned v' ∧ TReads w' v' zs ∧ Below w9.heap.size w9 w') := as17_any _ zs w9 (HTz8.out.below hb9) HLz.out
      have HTt9 : Hid (TReads w9 (.slice ta tn tc) ts) := HTt8.out.below hb9
      clear hb9 HTz8 HTt8 HB8
      go_wp2_with fail
      refine HA2.out.mono ?_
      clear HA2
      rintro e wA ⟨vA, rfl, hTA, hbA⟩
      have HS2 : Hid (Calls Tryz.prog 12 #[vA, .slice ta tn tc] wA fun e w' => e = .returned (.bool true) ∧ Below wA.heap.size wA w') := sameAll17_true vA _ zs ts wA hTA (HTt9.out.below hbA) (HMz.out.trans HMt.out.symm)
      have HBA : Hid (Below w.heap.size w wA) := HB9.out.trans (hbA.mono HB9.out.size)
      clear hbA hTA HTt9 HB9
      go_wp2_with fail
      refine HS2.out.mono ?_
      clear HS2
      rintro e wB ⟨rfl, hbB⟩
      have HBB : Hid (Below w.heap.size w wB) := HBA.out.trans (hbB.mono HBA.out.size)
      clear hbB
      go_wp2_with fail
      go_ret
      exact ⟨rfl, HBB.out⟩
end Go.Proofs.YtoenijflijfogaaGreat
