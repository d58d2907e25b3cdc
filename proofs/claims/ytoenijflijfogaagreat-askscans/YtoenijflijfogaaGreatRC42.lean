/- MR1 RQ1 MA1 MA2 RQ2, joined. -/
import Derived.Test.YtoenijflijfogaaGreatRC8
import Derived.Test.YtoenijflijfogaaGreatRC9
import Derived.Test.YtoenijflijfogaaGreatRC19
import Derived.Test.YtoenijflijfogaaGreatRC40
import Derived.Test.YtoenijflijfogaaGreatRC41
import Derived.BigQuiet
import Derived.Deep.QuietTactic
/- The reference of layer 14: Right, Row, Rows. -/
namespace Go.Proofs.YtoenijflijfogaaGreat
open Go.RowKit

set_option maxRecDepth 100000 in
set_option maxHeartbeats 1000000 in
theorem refRight_any (a : Ag) (w : World) :
    Calls Tryz.prog 110 #[.agg #[.int .u64 a.c, .bool a.o, .int .i64 (hi a.s), .int .u64 (lo a.s), .int .i64 a.mn, .int .i64 a.mx]] w fun e w' => e = .returned (.bool (rightB a)) ∧ Below w.heap.size w w' := by
  obtain ⟨R, HR⟩ := hid_ex (rightB a)
  rw [← HR.out]
  go_enter Tryz.func110, Tryz.ntmps110
  go_wp2_with fail
  all_goals go_ret
  all_goals refine ⟨?_, (Below.refl _ _).alloc (Nat.le_refl _) _⟩
  all_goals (rw [HR.out]; unfold rightB; simp_all)
end Go.Proofs.YtoenijflijfogaaGreat

/- The contract of the reference's Fits (layer 15). -/
namespace Go.Proofs.YtoenijflijfogaaGreat
open Go.RowKit

/-- The sizes of the steps in memory. -/
theorem Lies.sz {R : Rl} {w : World} (h : Lies R w.heap.size w) {n : Nat} (hn : n < R.len) : ∃ b off, R.a = some ⟨b, off, none⟩ ∧ b < w.heap.size ∧ w.cell? ⟨b, off + n * 2, none⟩ = some (.int .i64 (R.sz n)) := by
  rcases h.2.2 with h0 | ⟨b, off, ha, hb, hc⟩
  · omega
  · exact ⟨b, off, ha, hb, (hc n hn).1⟩
theorem kcells {w : World} {b : Nat} {x0 x1 x2 : Value} {t : TypeId} (h : w.heap[b]? = some (.cells #[x0, x1, x2] t)) : w.cell? ⟨b, 0, none⟩ = some x0 ∧ w.cell? ⟨b, 1, none⟩ = some x1 ∧ w.cell? ⟨b, 2, none⟩ = some x2 :=
  ⟨by rw [Go.Joins.cell_of_block h]; rfl, by rw [Go.Joins.cell_of_block h]; rfl, by rw [Go.Joins.cell_of_block h]; rfl⟩
theorem floor_fit {R : Rl} (hR : RightP R) {k : Ks} {D : List ByteArray} {f g : Int} (h : rdF k = some (D, f, g)) {n : Nat} (hn : n < R.len) : floorV f (R.sz n) = .tuple #[.int .i64 (f - f % R.sz n), .int .i64 0] := by
  obtain ⟨_, h2, h3, _, _⟩ := rdF_key h
  have h4 : isT f && isS (R.sz n) := by rw [(isT_iff _).2 ⟨h2, h3⟩, sz_ok hR hn]; rfl
  unfold floorV
  rw [if_pos h4, if_pos h4]
theorem beg_fit {R : Rl} (hR : RightP R) {k : Ks} {D : List ByteArray} {f g : Int} (h : rdF k = some (D, f, g)) {n : Nat} (hn : n < R.len) : begB R f n = decide (f - f % R.sz n = f) := by
  obtain ⟨_, h2, h3, _, _⟩ := rdF_key h
  unfold begB
  rw [(isT_iff _).2 ⟨h2, h3⟩, sz_ok hR hn, decide_eq_true hn]
  simp
theorem fits_no {R : Rl} {L : List En} {k : Nat} (hk : k < L.length) (h : RightP R → fitB R L[k] = false) : fitsA R L = false := by
  refine fitsA_of ⟨fun h => (by cases h), ?_⟩
  rintro (h1 | ⟨h1, h2⟩)
  · subst h1; simp at hk
  · have := (fitB_iff h1).2 (h2 _ (List.getElem_mem hk))
    rw [h h1] at this; cases this
theorem fits_yes {R : Rl} {L : List En} (h : ∀ j (hj : j < L.length), RightP R ∧ fitB R L[j] = true) : fitsA R L = true := by
  refine fitsA_of ⟨fun _ => ?_, fun _ => rfl⟩
  cases L with
  | nil => exact .inl rfl
  | cons x L =>
    have hR := (h 0 (by simp)).1
    refine .inr ⟨hR, fun y hy => ?_⟩
    obtain ⟨j, hj, rfl⟩ := List.getElem_of_mem hy
    exact (fitB_iff hR).1 (h j hj).2
set_option maxRecDepth 100000 in
set_option maxHeartbeats 4000000 in
theorem refFits_any (R : Rl) (v : Value) (L : List En) (w : World) (hL : Lies R w.heap.size w) (hE : EReads w v L) (hk : ∀ x ∈ L, x.1.length ≤ 1000) :
    Calls Tryz.prog 87 #[.agg #[.slice R.a R.len R.cap, .int .i64 R.kp], v] w (FsPost R L w) := by
  have HE : Hid (EReads w v L) := hE
  have HL : Hid (Lies R w.heap.size w) := hL
  have HK : Hid (∀ x ∈ L, x.1.length ≤ 1000) := hk
  have hml : R.len ≤ maxLen := hL.1
  obtain ⟨a, cap, rfl, hm1, hm2⟩ := hE.form
  unfold maxLen at hm2 hml
  clear hE hL hk
  obtain ⟨w1, HW1⟩ := hid_ex (w.alloc (.cells #[.slice R.a R.len R.cap, .int .i64 R.kp] 24))
  have HB1 : Hid (Below w.heap.size w w1) := by rw [HW1.out]; exact new_below _ _
  have HX1 : Hid (RBox R w.heap.size w1) := by rw [HW1.out]; exact RBox.new R w _
  obtain ⟨ra, Hra⟩ := hid_ex R.a
  rw [← Hra.out] at HW1 ⊢
  go_enter Tryz.func87, Tryz.ntmps87
  go_wp2_with fail
  rw [← HW1.out]
  clear HW1
  go_loopw [5] (fun i wr => ∃ k : Nat, i = .int .i64 (k : Int) ∧ k ≤ L.length ∧ Hid (∀ j (hj : j < L.length), j < k → RightP R ∧ fitB R L[j] = true) ∧ Hid (Below w1.heap.size w1 wr)) (fun i _ => L.length - (intOf i).toNat)
  case atStart => exact ⟨0, rfl, by omega, (fun j hj h => by omega), Below.refl _ _⟩
  case round =>
    obtain ⟨k, rfl, hk, HF, HW⟩ := hrel
    have HBr : Hid (Below w.heap.size w wr) := HB1.out.trans (HW.out.mono HB1.out.size)
    have HXr : Hid (RBox R w.heap.size wr) := HX1.out.below HW.out
    by_cases hlt : k < L.length
    · obtain ⟨b, off, cap', hv, hbw⟩ := eReads_some HE.out (by omega)
      simp at hv
      obtain ⟨rfl, rfl⟩ := hv
      obtain ⟨kv, hcw, hRw, hA⟩ := eReads_at HE.out hlt rfl
      have HC : Hid (∀ i (hi : i < 7), w.cell? ⟨b, off + k * 7 + i, none⟩ = some ((c7 ⟨kv, L[k].1, L[k].2⟩)[i]'hi)) := hcw
      have HRW : Hid (Reads w kv L[k].1) := hRw
      have hkl : L[k].1.length ≤ 1000 := HK.out L[k] (List.getElem_mem hlt)
      have HNO : Hid ((RightP R → fitB R L[k] = false) → fitsA R L = false) := fits_no hlt
      have HGO : Hid (RightP R → fitB R L[k] = true → ∀ j (hj : j < L.length), j < k + 1 → RightP R ∧ fitB R L[j] = true) := fun h1 h2 j hj hjk => by
        rcases Nat.lt_or_ge j k with h | h
        · exact HF.out j hj h
        · have : j = k := by omega
          subst this; exact ⟨h1, h2⟩
      obtain ⟨X, HX⟩ := hid_ex L[k]
      rw [← HX.out] at HC HRW hkl HNO HGO
      obtain ⟨Xk, Xa⟩ := X
      simp only at hkl HRW
      clear hcw hRw hA HX HF
      obtain ⟨ak, ck, rfl, _⟩ := HRW.out.form
      have c0 : wr.cell? ⟨b, off + k * 7, none⟩ = some (.slice ak Xk.length ck) := (HBr.out.cell (p := ⟨b, off + k * 7, none⟩) hbw).trans (HC.out 0 (by decide))
      have HBW : Hid (b < w.heap.size) := hbw
      clear hbw
      go_wp2_with fail
      clear c0
      refine (refRead_any _ Xk hkl _ (HRW.out.below HBr.out)).mono ?_
      rintro e w3 (⟨D, f, gI, vd, hrd, rfl, hkl3, hb3⟩ | ⟨hrd, rfl, hb3⟩)
      · have hkey := rdF_key hrd
        obtain ⟨g, rfl⟩ : ∃ g : Nat, gI = (g : Int) := ⟨gI.toNat, by omega⟩
        have hg3 : g ≤ 3 := by omega
        have HFB : Hid (fitB R (Xk, Xa) = (begB R f g && !(Xa.c == 0) && rightB Xa)) := by have := fitB_of (R := R) (x := (Xk, Xa)) hrd; rw [Int.toNat_natCast] at this; exact this
        have HRD : Hid (rdF Xk = some (D, f, (g : Int))) := hrd
        have HB3 : Hid (Below w1.heap.size w1 w3) := HW.out.trans (hb3.mono HW.out.size)
        obtain ⟨va, vc, hvd, _⟩ := hkl3.r.form
        simp only at hvd
        subst hvd
        obtain ⟨dn, Hdn⟩ := hid_ex D.length
        rw [← Hdn.out]
        obtain ⟨w4, HW4⟩ := hid_ex (w3.alloc (.cells #[.slice va dn vc, .int .i64 f, .int .i64 (g : Int)] 70))
        have hb4 : Below w3.heap.size w3 w4 := by rw [HW4.out]; exact new_below _ _
        have HY4 : Hid (w4.heap[w3.heap.size]? = some (.cells #[.slice va dn vc, .int .i64 f, .int .i64 (g : Int)] 70)) := by rw [HW4.out]; exact heap_alloc_new _ _
        have HB4 : Hid (Below w1.heap.size w1 w4) := HB3.out.trans (hb4.mono HB3.out.size)
        obtain ⟨hx3, r0, r1⟩ := HX1.out.below HB3.out
        rw [← Hra.out] at r0
        have HBw4 : Hid (Below w.heap.size w w4) := HB1.out.trans (HB4.out.mono HB1.out.size)
        have HL4 : Hid (Lies R w4.heap.size w4) := HL.out.at HBw4.out
        clear hrd hkl3 hb3 hb4 hkey Hdn HB3 HW HBr HXr
        go_wp2_with fail
        rw [← HW4.out]
        clear HW4
        have hrr := refRight_anyG R _ HL4.out
        rw [← Hra.out] at hrr
        refine hrr.mono ?_
        rintro e w5 ⟨rfl, hb5⟩
        have HB5 : Hid (Below w1.heap.size w1 w5) := HB4.out.trans (hb5.mono HB4.out.size)
        have HY5 : Hid (w5.heap[w3.heap.size]? = some (.cells #[.slice va dn vc, .int .i64 f, .int .i64 (g : Int)] 70)) := (hb5.block _ (Array.getElem?_eq_some_iff.1 HY4.out).1).trans HY4.out
        have HBw5 : Hid (Below w.heap.size w w5) := HB1.out.trans (HB5.out.mono HB1.out.size)
        have HL5 : Hid (Lies R w5.heap.size w5) := HL.out.at HBw5.out
        clear hb5 r0 r1 HY4 HB4 HBw4 HL4
        by_cases hR : RightP R
        · have HR : Hid (RightP R) := hR
          rw [decide_eq_true hR]
          clear hR
          obtain ⟨r0, r1⟩ := (HX1.out.below HB5.out).at
          rw [← Hra.out] at r0
          obtain ⟨k0, k1, k2⟩ := kcells HY5.out
          by_cases hg : g < R.len
          · have hgl : decide ((R.len : Int) ≤ (g : Int)) = false := by simp; omega
            obtain ⟨rb, ro, ha, hrb, hsz⟩ := HL5.out.sz hg
            rw [← Hra.out] at ha
            subst ha
            have HV : Hid (floorV f (R.sz g) = .tuple #[.int .i64 (f - f % R.sz g), .int .i64 0]) := floor_fit HR.out HRD.out hg
            have HBG : Hid (begB R f g = decide (f - f % R.sz g = f)) := beg_fit HR.out HRD.out hg
            obtain ⟨s, Hs⟩ := hid_ex (R.sz g)
            rw [← Hs.out] at HV HBG hsz
            obtain ⟨fr, Hfr⟩ := hid_ex (f - f % s)
            rw [← Hfr.out] at HV HBG
            clear hrb Hs Hfr k0 r1
            have hgn : ¬ R.len ≤ g := by omega
            go_wp2_with fail
            go_quiet (exact (refFloor_any f s _).mono (fun e w h => ⟨by rw [h.1, HV.out], _, h.2⟩))
            obtain ⟨w6, HW6⟩ := hid_ex (w5.drewN nq)
            have HB6 : Hid (Below w1.heap.size w1 w6) := by rw [HW6.out]; exact below_drewN HB5.out nq
            have HBw6 : Hid (Below w.heap.size w w6) := HB1.out.trans (HB6.out.mono HB1.out.size)
            have j1 : w6.cell? ⟨w3.heap.size, 1, none⟩ = some (.int .i64 f) := by rw [HW6.out]; exact k1
            rw [← HW6.out]
            have hbw := HBW.out
            have c1 : w6.cell? ⟨b, off + k * 7 + 1, none⟩ = some (.int .u64 Xa.c) := (HBw6.out.cell (p := ⟨b, off + k * 7 + 1, none⟩) hbw).trans (HC.out 1 (by decide))
            have c2 : w6.cell? ⟨b, off + k * 7 + 1 + 1, none⟩ = some (.bool Xa.o) := (HBw6.out.cell (p := ⟨b, off + k * 7 + 2, none⟩) hbw).trans (HC.out 2 (by decide))
            have c3 : w6.cell? ⟨b, off + k * 7 + 1 + 2, none⟩ = some (.int .i64 (hi Xa.s)) := (HBw6.out.cell (p := ⟨b, off + k * 7 + 3, none⟩) hbw).trans (HC.out 3 (by decide))
            have c4 : w6.cell? ⟨b, off + k * 7 + 1 + 3, none⟩ = some (.int .u64 (lo Xa.s)) := (HBw6.out.cell (p := ⟨b, off + k * 7 + 4, none⟩) hbw).trans (HC.out 4 (by decide))
            have c5 : w6.cell? ⟨b, off + k * 7 + 1 + 4, none⟩ = some (.int .i64 Xa.mn) := (HBw6.out.cell (p := ⟨b, off + k * 7 + 5, none⟩) hbw).trans (HC.out 5 (by decide))
            have c6 : w6.cell? ⟨b, off + k * 7 + 1 + 5, none⟩ = some (.int .i64 Xa.mx) := (HBw6.out.cell (p := ⟨b, off + k * 7 + 6, none⟩) hbw).trans (HC.out 6 (by decide))
            clear k1 k2 r0 hsz HW6 hbw HL5 HY5 HB5 HBw5 hgl hg hrr
            by_cases hfr : fr = f
            · have hfb : (fr == f) = true := by simpa using hfr
              rw [decide_eq_true hfr] at HBG
              by_cases hc0 : Xa.c = 0
              · have hcb : (Xa.c == 0) = true := by simpa using hc0
                have HEnd : Hid (FsPost R L w (.returned (.bool false)) w6) := ⟨by rw [HNO.out (fun _ => by rw [HFB.out, hcb]; simp)], HBw6.out⟩
                go_wp2_with fail
                go_ret
                exact HEnd.out
              · have hcb : (Xa.c == 0) = false := by simpa using hc0
                go_wp2_with fail
                refine (refRight_any Xa _).mono ?_
                rintro e w7 ⟨rfl, hb7⟩
                have HBw7 : Hid (Below w.heap.size w w7) := HBw6.out.trans (hb7.mono HBw6.out.size)
                have HB7 : Hid (Below w1.heap.size w1 w7) := HB6.out.trans (hb7.mono HB6.out.size)
                have HF7 : Hid (rightB Xa = true → fitB R (Xk, Xa) = true) := fun h => by rw [HFB.out, HBG.out, hcb, h]; rfl
                have HN7 : Hid (rightB Xa = false → fitB R (Xk, Xa) = false) := fun h => by rw [HFB.out, h]; simp
                clear hb7 c1 c2 c3 c4 c5 c6 j1 HFB
                obtain ⟨d, Hd⟩ := hid_ex (rightB Xa)
                rw [← Hd.out] at HF7 HN7 ⊢
                clear Hd
                cases d with
                | true =>
                  have HG7 : Hid _ := HGO.out HR.out (HF7.out rfl)
                  go_wp2_with fail
                  go_roundw
                  case rel => exact ⟨k + 1, by go_num, by omega, HG7.out, HB7.out⟩
                  case measure => simp [intOf]; omega
                | false =>
                  have HEnd : Hid (FsPost R L w (.returned (.bool false)) w7) := ⟨by rw [HNO.out (fun _ => HN7.out rfl)], HBw7.out⟩
                  go_wp2_with fail
                  go_ret
                  exact HEnd.out
            · have hfb : (fr == f) = false := by simpa using hfr
              have HEnd : Hid (FsPost R L w (.returned (.bool false)) w6) := ⟨by rw [HNO.out (fun _ => by rw [HFB.out, HBG.out, decide_eq_false hfr]; rfl)], HBw6.out⟩
              go_wp2_with fail
              go_ret
              exact HEnd.out
          · have hgl : decide ((R.len : Int) ≤ (g : Int)) = true := by simp; omega
            have HEnd : Hid (FsPost R L w (.returned (.bool false)) w5) := ⟨by rw [HNO.out (fun _ => by rw [HFB.out]; unfold begB; rw [decide_eq_false hg]; rfl)], HBw5.out⟩
            have hgn : R.len ≤ g := by omega
            clear hg
            go_wp2_with fail
            go_ret
            exact HEnd.out
        · have HEnd : Hid (FsPost R L w (.returned (.bool false)) w5) := ⟨by rw [HNO.out (fun h => absurd h hR)], HBw5.out⟩
          rw [decide_eq_false hR]
          clear hR
          go_wp2_with fail
          go_ret
          exact HEnd.out
      · have HEnd : Hid (∀ W, Below w3.heap.size w3 W → FsPost R L w (.returned (.bool false)) W) := fun W hW => ⟨by rw [HNO.out (fun _ => fitB_no hrd)], (HBr.out.trans (hb3.mono HBr.out.size)).trans (hW.mono (HBr.out.trans (hb3.mono HBr.out.size)).size)⟩
        have HEnd4 : Hid (FsPost R L w (.returned (.bool false)) (w3.alloc (.cells #[.slice none 0 0, .int .i64 0, .int .i64 0] 70))) := HEnd.out _ (new_below _ _)
        clear hrd hb3 HEnd
        go_wp2_with fail
        go_ret
        exact HEnd4.out
    · have HEnd : Hid (FsPost R L w (.returned (.bool true)) wr) := ⟨by rw [fits_yes (fun j hj => HF.out j hj (by omega))], HBr.out⟩
      go_wp2_with fail
      go_ret
      exact HEnd.out
end Go.Proofs.YtoenijflijfogaaGreat

/- Where an entry is put. -/
namespace Go.Proofs.YtoenijflijfogaaGreat

theorem ins_behind (x : En) : ∀ (L : List En), (∀ y ∈ L, ltK y.1 x.1) → ins x L = L ++ [x]
  | [], _ => rfl
  | y :: L, h => by
    rw [ins_gt (h y (List.mem_cons_self ..)), ins_behind x L (fun z hz => h z (List.mem_cons_of_mem _ hz))]; rfl
theorem ins_into (x : En) : ∀ (A B : List En), (∀ y ∈ A, ltK y.1 x.1) → ins x (A ++ B) = A ++ ins x B
  | [], _, _ => rfl
  | y :: A, B, h => by
    rw [List.cons_append, ins_gt (h y (List.mem_cons_self ..)), ins_into x A B (fun z hz => h z (List.mem_cons_of_mem _ hz))]; rfl
theorem ins_same {x : En} {L : List En} {k : Nat} (hk : k < L.length) (h : ∀ y ∈ L.take k, ltK y.1 x.1) (e : x.1 = L[k].1) : ins x L = L.take k ++ (x.1, mrg x.2 L[k].2) :: L.drop (k + 1) := by
  conv => lhs; rw [← List.take_append_drop k L]
  rw [ins_into x _ _ h, List.drop_eq_getElem_cons hk, ins_eq e, e]
theorem ins_new {x : En} {L : List En} {k : Nat} (hk : k < L.length) (h : ∀ y ∈ L.take k, ltK y.1 x.1) (e : ltK x.1 L[k].1) : ins x L = L.take k ++ x :: L.drop k := by
  conv => lhs; rw [← List.take_append_drop k L]
  rw [ins_into x _ _ h, List.drop_eq_getElem_cons hk, ins_lt e]
end Go.Proofs.YtoenijflijfogaaGreat

/- Entries that are copied from row to row, with their keys' slices as they are. -/
namespace Go.Proofs.YtoenijflijfogaaGreat
open Go.RowKit

/-- A slice holds these entries. -/
def ERc (w : World) (v : Value) (xs : List Ev) : Prop :=
  ∃ a cap, v = .slice a xs.length cap ∧ xs.length ≤ cap ∧ cap ≤ maxLen ∧ (xs = [] ∨ ∃ b off, a = some ⟨b, off, none⟩ ∧ b < w.heap.size ∧ ∀ j (hj : j < xs.length) i (hi : i < 7), w.cell? ⟨b, off + (7 * j + i), none⟩ = some ((c7 xs[j])[i]'hi))
/-- What they hold can be read. -/
def EvR (w : World) (xs : List Ev) : Prop := ∀ x ∈ xs, Reads w x.kv x.k ∧ CnOk x.a
theorem EvR.below {w w' : World} {xs : List Ev} (h : EvR w xs) (hb : Below w.heap.size w w') : EvR w' xs := fun x hx => ⟨(h x hx).1.below hb, (h x hx).2⟩
theorem ERc.below {w w' : World} {v : Value} {xs : List Ev} (h : ERc w v xs) (hb : Below w.heap.size w w') : ERc w' v xs := by
  obtain ⟨a, cap, rfl, h1, h2, h3⟩ := h
  refine ⟨a, cap, rfl, h1, h2, ?_⟩
  rcases h3 with h3 | ⟨b, off, h4, h5, h6⟩
  · exact .inl h3
  · exact .inr ⟨b, off, h4, Nat.lt_of_lt_of_le h5 hb.size, fun j hj i hi => (hb.cell (p := ⟨b, off + (7 * j + i), none⟩) h5).trans (h6 j hj i hi)⟩
theorem ERc.of {w : World} {v : Value} {L : List En} (h : EReads w v L) : ∃ xs, ERc w v xs ∧ EvR w xs ∧ xs.map evE = L := by
  obtain ⟨a, cap, rfl, h1, h2, h3⟩ := h
  rcases h3 with rfl | ⟨b, off, rfl, h5, h6⟩
  · exact ⟨[], ⟨a, cap, rfl, h1, h2, .inl rfl⟩, (fun x hx => by cases hx), rfl⟩
  · have hall : ∀ j, ∃ kv : Value, ∀ hj : j < L.length, (∀ i (hi : i < 7), w.cell? ⟨b, off + (7 * j + i), none⟩ = some ((c7 ⟨kv, L[j].1, L[j].2⟩)[i]'hi)) ∧ Reads w kv L[j].1 ∧ CnOk L[j].2 := by
      intro j
      by_cases hj : j < L.length
      · obtain ⟨kv, g⟩ := h6 j hj
        exact ⟨kv, fun _ => g⟩
      · exact ⟨.bool false, fun h => absurd h hj⟩
    obtain ⟨ks, hks⟩ := Classical.axiomOfChoice hall
    have hl : (L.zipIdx.map fun p => (⟨ks p.2, p.1.1, p.1.2⟩ : Ev)).length = L.length := by simp
    have hg : ∀ j (hj : j < L.length), (L.zipIdx.map fun p => (⟨ks p.2, p.1.1, p.1.2⟩ : Ev))[j]'(by rw [hl]; exact hj) = ⟨ks j, L[j].1, L[j].2⟩ := by
      intro j hj; simp
    refine ⟨L.zipIdx.map fun p => ⟨ks p.2, p.1.1, p.1.2⟩, ⟨_, cap, by rw [hl], by rw [hl]; exact h1, h2, .inr ⟨b, off, rfl, h5, fun j hj i hi => ?_⟩⟩, fun x hx => ?_, ?_⟩
    · rw [hl] at hj
      rw [hg j hj]
      exact (hks j hj).1 i hi
    · obtain ⟨j, hj, rfl⟩ := List.getElem_of_mem hx
      rw [hl] at hj
      rw [hg j hj]
      exact (hks j hj).2
    · apply List.ext_getElem
      · simp
      · intro j h7 h8
        simp [evE]
theorem ERc.reads {w : World} {v : Value} {xs : List Ev} (h : ERc w v xs) (hr : EvR w xs) : EReads w v (xs.map evE) := by
  obtain ⟨a, cap, rfl, h1, h2, h3⟩ := h
  refine ⟨a, cap, by simp, by simpa using h1, h2, ?_⟩
  rcases h3 with rfl | ⟨b, off, h4, h5, h6⟩
  · exact .inl rfl
  · refine .inr ⟨b, off, h4, h5, fun j hj => ?_⟩
    simp at hj
    have e : (xs.map evE)[j]'(by simpa using hj) = evE xs[j] := by simp
    rw [e]
    exact ⟨xs[j].kv, fun i hi => h6 j hj i hi, (hr _ (List.getElem_mem hj)).1, (hr _ (List.getElem_mem hj)).2⟩
theorem ERc.form {w : World} {v : Value} {xs : List Ev} (h : ERc w v xs) : ∃ a cap, v = .slice a xs.length cap ∧ xs.length ≤ cap ∧ cap ≤ maxLen := by
  obtain ⟨a, cap, rfl, h1, h2, _⟩ := h
  exact ⟨a, cap, rfl, h1, h2⟩
theorem ERc.ptr {w : World} {a : Option Addr} {n cap : Nat} {xs : List Ev} (h : ERc w (.slice a n cap) xs) (h0 : 0 < xs.length) : ∃ b off, a = some ⟨b, off, none⟩ ∧ b < w.heap.size ∧ ∀ j (hj : j < xs.length) i (hi : i < 7), w.cell? ⟨b, off + (7 * j + i), none⟩ = some ((c7 xs[j])[i]'hi) := by
  obtain ⟨a', cap', hv, h1, h2, h3⟩ := h
  simp at hv
  obtain ⟨rfl, rfl, rfl⟩ := hv
  rcases h3 with rfl | h3
  · simp at h0
  · exact h3
theorem ERc.sliced {w : World} {a : Option Addr} {cap : Nat} {xs : List Ev} (h : ERc w (.slice a xs.length cap) xs) {c d : Nat} (hc : c ≤ d) (hd : d ≤ xs.length) : ERc w (Go.sliced a c d cap 7) ((xs.take d).drop c) := by
  obtain ⟨a', cap', hv, h1, h2, h3⟩ := h
  simp at hv
  obtain ⟨rfl, rfl⟩ := hv
  unfold Go.sliced
  have hl : ((xs.take d).drop c).length = d - c := by simp; omega
  refine ⟨_, cap - c, by rw [hl], by rw [hl]; omega, by omega, ?_⟩
  rcases Nat.eq_zero_or_pos (d - c) with h0 | h0
  · exact .inl (List.length_eq_zero_iff.1 (by rw [hl]; exact h0))
  · right
    rcases h3 with rfl | ⟨b, off, rfl, h5, h6⟩
    · simp at hd; omega
    · rw [if_neg (by omega)]
      refine ⟨b, off + c * 7, by simp [Addr.add], h5, fun j hj i hi => ?_⟩
      rw [hl] at hj
      rw [show off + c * 7 + (7 * j + i) = off + (7 * (c + j) + i) by omega, h6 (c + j) (by omega) i hi]
      congr 2
      simp
theorem elemEM : Tryz.prog.elem 25 = 60 := by kernel_rfl
theorem undEM : Tryz.prog.underlying 25 = some (.slice (Tryz.prog.elem 25)) := by rw [elemEM]; exact Tryz.underlying25
theorem sizeE7 (w : World) : (sizeOf 60).run Tryz.prog w = .ok 7 w := by
  simp [sizeOf]
  rfl
theorem esl_uptoM {w : World} {a : Option Addr} {cap : Nat} {xs : List Ev} (h : ERc w (.slice a xs.length cap) xs) {d : Nat} (hd : d ≤ xs.length) :
    ∃ a' cap', (∀ w', (Instr.slice 25 (.slice a xs.length cap) none (some (.int .i64 (d : Int))) none).run Tryz.prog w' = .ok (.slice a' d cap') w') ∧ ERc w (.slice a' d cap') (xs.take d) := by
  have hcap : xs.length ≤ cap := by obtain ⟨a', cap', hv, h1, _⟩ := h; simp at hv; omega
  have hs := h.sliced (Nat.zero_le d) hd
  refine ⟨(if cap = 0 then a else a.map (·.add (0 * 7))), cap - 0, fun w' => ?_, hs⟩
  rw [run_slice_h _ _ _ _ _ undEM _ _ (by omega) (by omega), elemEM, sizeE7]
  rfl
theorem esl_fromM {w : World} {a : Option Addr} {cap : Nat} {xs : List Ev} (h : ERc w (.slice a xs.length cap) xs) {c : Nat} (hc : c ≤ xs.length) :
    ∃ a' cap', (∀ w', (Instr.slice 25 (.slice a xs.length cap) (some (.int .i64 (c : Int))) none none).run Tryz.prog w' = .ok (.slice a' (xs.length - c) cap') w') ∧ ERc w (.slice a' (xs.length - c) cap') (xs.drop c) := by
  have hcap : xs.length ≤ cap := by obtain ⟨a', cap', hv, h1, _⟩ := h; simp at hv; omega
  have hs := h.sliced hc (Nat.le_refl _)
  rw [List.take_length] at hs
  refine ⟨(if cap = c then a else a.map (·.add (c * 7))), cap - c, fun w' => ?_, hs⟩
  rw [run_slice_l _ _ _ _ _ undEM _ _ (by omega) (by omega), elemEM, sizeE7]
  rfl
/-- A row of one's own. -/
def OwnE (w : World) (base : Nat) (v : Value) (xs : List Ev) : Prop := w.ownsRow base 60 7 v xs.length (xs.flatMap c7)
theorem OwnE.nil (w : World) (base : Nat) : OwnE w base (.slice none 0 0) [] := World.ownsRow_nil _ _ _ _
theorem OwnE.below {w w' : World} {base : Nat} {v : Value} {xs : List Ev} (h : OwnE w base v xs) (hb : Below w.heap.size w w') : OwnE w' base v xs := by
  have hlt := World.ownsRow.lt h
  obtain ⟨h1, h2⟩ := h
  refine ⟨h1, ?_⟩
  rcases h2 with h2 | ⟨g, cap, cur, hv, hg, hw, r⟩
  · exact .inl h2
  · exact .inr ⟨g, cap, cur, hv, hg, (hb.block g (hlt g (by rw [hv]; rfl)).2).trans hw, r⟩
theorem OwnE.rc {w : World} {base : Nat} {v : Value} {xs : List Ev} (h : OwnE w base v xs) : ERc w v xs := by
  have hlt := World.ownsRow.lt h
  have hr := h
  obtain ⟨h1, h2⟩ := h
  rcases h2 with ⟨rfl, h0⟩ | ⟨g, cap, cur, hv, hg, hw, hc, hm, hs, ht⟩
  · exact ⟨none, 0, by rw [h0], by omega, by simp, .inl (List.length_eq_zero_iff.1 h0)⟩
  · rw [hv] at hr
    refine ⟨_, cap, hv, hc, hm, .inr ⟨g, 0, rfl, (hlt g (by rw [hv]; rfl)).2, fun j hj i hi => ?_⟩⟩
    rw [show 0 + (7 * j + i) = 7 * j + i by omega, World.ownsRow.cellAt hr _ (by omega), flat7 xs j i hj hi, List.getElem?_eq_getElem hi]
theorem flat_len7 (xs : List Ev) : (xs.flatMap c7).length = xs.length * 7 := by
  induction xs with
  | nil => rfl
  | cons x xs ih => rw [List.flatMap_cons, List.length_append, ih, c7_len, List.length_cons]; omega
theorem infoE : (Tryz.prog.info? 60).map (fun i => (i.zero.map Value.cells, i.size, i.bytes)) = some (some #[.slice none 0 0, .int .u64 0, .bool false, .int .i64 0, .int .u64 0, .int .i64 0, .int .i64 0], 7, 72) := by kernel_rfl
theorem one_c7 {w : World} (xs : List Ev) (h : EvR w xs) : ∀ u ∈ xs.flatMap c7, u.oneCell' = true := by
  intro u hu
  obtain ⟨x, hx, hu⟩ := List.mem_flatMap.1 hu
  obtain ⟨a, cap, e, _⟩ := (h x hx).1.form
  unfold c7 at hu
  rw [e] at hu
  simp at hu
  rcases hu with rfl | rfl | rfl | rfl | rfl | rfl | rfl <;> rfl
/-- Entries behind those of one's own. -/
theorem run_appE {w : World} (base : Nat) (ty : TypeId) (v sv : Value) (xs ys : List Ev) (hown : OwnE w base v xs) (hs : ERc w sv ys) (hr : EvR w ys) (hlen : xs.length + ys.length ≤ 1000000000) (hbase : base ≤ w.heap.size) :
    ∃ v' w', (Builtin.append_ #[25, 25] ty #[v, sv]).run Tryz.prog w = .ok v' w' ∧ OwnE w' base v' (xs ++ ys) ∧ Below base w w' := by
  have hinf := infoE
  cases hi0 : Tryz.prog.info? 60 with
  | none => rw [hi0] at hinf; cases hinf
  | some i0 =>
    rw [hi0] at hinf
    simp only [Option.map_some, Option.some.injEq, Prod.mk.injEq] at hinf
    obtain ⟨hz0, hz1, hz2⟩ := hinf
    obtain ⟨z, hz, hzc⟩ := Option.map_eq_some_iff.1 hz0
    obtain ⟨a, cap, rfl, h1, h2, h3⟩ := hs
    have gen : ∀ ad : Addr, (∀ j u, (ys.flatMap c7)[j]? = some u → w.cell? (ad.add j) = some u) → ∃ v' w', (Builtin.append_ #[25, 25] ty #[v, .slice (some ad) ys.length cap]).run Tryz.prog w = .ok v' w' ∧ OwnE w' base v' (xs ++ ys) ∧ Below base w w' := by
      intro ad hnews
      obtain ⟨v', w', hrun, ho, hg, _⟩ := run_append_own (P := Tryz.prog) w base 25 ty 60 i0 z 7 72 Tryz.underlying25 hi0 hz hz1 hz2 (by rw [hzc]; rfl) (by decide) v xs.length (xs.flatMap c7) hown ad ys.length cap (ys.flatMap c7) (flat_len7 ys) hnews (one_c7 ys hr) (by simp [maxLen]; omega) (by omega) hbase
      refine ⟨v', w', hrun, ?_, (Below.refl _ _).grown hg hbase (own_block hown)⟩
      unfold OwnE
      rw [List.length_append, List.flatMap_append]
      exact ho
    rcases h3 with rfl | ⟨b, off, rfl, h5, h6⟩
    · cases a with
      | none =>
        refine ⟨v, w, ?_, by rw [List.append_nil]; exact hown, Below.refl _ _⟩
        rcases hown.2 with ⟨rfl, _⟩ | ⟨g, cap', cur, rfl, _, _, hnc, _⟩
        · simp [Builtin.append_, run_underlying Tryz.underlying25, sizeOf, typeInfo, hi0, Builtin.lenOf, Builtin.firstCells]
        · simp [Builtin.append_, run_underlying Tryz.underlying25, sizeOf, typeInfo, hi0, Builtin.lenOf, Builtin.firstCells, hnc, storeCells]
      | some ad => exact gen ad (fun j u hj => by simp at hj)
    · refine gen ⟨b, off, none⟩ (fun j u hj => ?_)
      have hjl : j < ys.length * 7 := by
        rw [← flat_len7]
        exact (List.getElem?_eq_some_iff.1 hj).1
      have ej : j = 7 * (j / 7) + j % 7 := by omega
      have hq : j / 7 < ys.length := by omega
      have hm : j % 7 < 7 := Nat.mod_lt _ (by decide)
      have ea : (⟨b, off, none⟩ : Addr).add j = ⟨b, off + j, none⟩ := by simp [Addr.add]
      rw [ej, flat7 ys _ _ hq hm, List.getElem?_eq_getElem (by rw [c7_len]; exact hm)] at hj
      rw [ea]
      have h7 := h6 (j / 7) hq (j % 7) hm
      rw [← ej] at h7
      rw [h7]; exact hj
end Go.Proofs.YtoenijflijfogaaGreat

/- The contract of the reference's Check (layer 15). -/
namespace Go.Proofs.YtoenijflijfogaaGreat
open Go.RowKit

def CkPost (R : Rl) (wm : Int) (L : List En) (w : World) (e : Ending) (w' : World) : Prop := e = .returned (.int .i64 (chkF R wm L)) ∧ Below w.heap.size w w'
theorem below_dn2 (w : World) (n : Nat) : Below w.heap.size w (w.drewN n) := below_drewN (Below.refl _ _) n
set_option maxRecDepth 100000 in
set_option maxHeartbeats 4000000 in
theorem refCheck_any (R : Rl) (wm : Int) (v : Value) (L : List En) (w : World) (hL : Lies R w.heap.size w) (hE : EReads w v L) (hl : L.length ≤ 100000) (hk : ∀ x ∈ L, x.1.length ≤ 1000) :
    Calls Tryz.prog 68 #[.agg #[.slice R.a R.len R.cap, .int .i64 R.kp], .int .i64 wm, v] w (CkPost R wm L w) := by
  have HE : Hid (EReads w v L) := hE
  have HL : Hid (Lies R w.heap.size w) := hL
  have HK : Hid (∀ x ∈ L, x.1.length ≤ 1000) := hk
  obtain ⟨a, cap, rfl, hm1, hm2⟩ := hE.form
  unfold maxLen at hm2
  clear hE hL hk
  obtain ⟨w1, HW1⟩ := hid_ex (w.alloc (.cells #[.slice R.a R.len R.cap, .int .i64 R.kp] 24))
  have HB1 : Hid (Below w.heap.size w w1) := by rw [HW1.out]; exact new_below _ _
  have HX1 : Hid (RBox R w.heap.size w1) := by rw [HW1.out]; exact RBox.new R w _
  go_enter Tryz.func68, Tryz.ntmps68
  go_wp2_with fail
  rw [← HW1.out]
  clear HW1
  refine (refRight_anyG R _ (HL.out.at HB1.out)).mono ?_
  rintro e w2 ⟨rfl, hb2⟩
  have HB2 : Hid (Below w.heap.size w w2) := HB1.out.trans (hb2.mono HB1.out.size)
  have HX2 : Hid (RBox R w.heap.size w2) := HX1.out.below hb2
  clear hb2 HX1 HB1
  by_cases hR : RightP R
  · have HR : Hid (RightP R) := hR
    rw [decide_eq_true hR]
    clear hR
    go_wp2_with fail
    refine (refTime_any wm _).mono ?_
    rintro e w3 ⟨rfl, rfl⟩
    cases hT : isT wm with
    | false =>
      have HEnd : Hid (Value.int .i64 (chkF R wm L) = .int .i64 1) := by
        unfold Hid
        have h1 : fE R 0 wm = 1 := by unfold fE; rw [if_pos HR.out, hT]; rfl
        rw [chkF_e (by rw [h1]; decide), h1]
      have HE2 : Hid (CkPost R wm L w (.returned (.int .i64 1)) w3) := ⟨by rw [HEnd.out], HB2.out⟩
      clear hT
      go_wp2_with fail
      go_ret
      exact HE2.out
    | true =>
      have HF : Hid (fE R 0 wm = 0) := fE_of HR.out (by decide) hT
      clear hT
      go_wp2_with fail
      go_loopw [7] (fun i wr => ∃ k : Nat, i = .int .i64 ((k + 1 : Nat) : Int) ∧ (k = 0 ∨ k + 1 ≤ L.length) ∧ Hid (((keysE L).take (k + 1)).Pairwise ltK) ∧ Hid (Below w.heap.size w wr) ∧ Hid (RBox R w.heap.size wr)) (fun i _ => L.length - (intOf i).toNat)
      case atStart =>
        refine ⟨0, rfl, .inl rfl, ?_, HB2, HX2⟩
        cases hk0 : keysE L with
        | nil => exact List.Pairwise.nil
        | cons x l => exact List.pairwise_singleton _ _
      case round =>
        obtain ⟨k, rfl, hk, HP, HB, HX⟩ := hrel
        clear HB2 HX2
        by_cases hlt : k + 1 < L.length
        · obtain ⟨b, off, cap', hv, hbw⟩ := eReads_some HE.out (by omega)
          simp at hv
          obtain ⟨rfl, rfl⟩ := hv
          obtain ⟨kv, hcw, hRw, _⟩ := eReads_at HE.out (k := k) (by omega) rfl
          obtain ⟨kv', hcw', hRw', _⟩ := eReads_at HE.out hlt rfl
          have c0 : wr.cell? ⟨b, off + k * 7, none⟩ = some kv := (HB.out.cell (p := ⟨b, off + k * 7, none⟩) hbw).trans (hcw 0 (by decide))
          have c1 : wr.cell? ⟨b, off + (k + 1) * 7, none⟩ = some kv' := (HB.out.cell (p := ⟨b, off + (k + 1) * 7, none⟩) hbw).trans (hcw' 0 (by decide))
          have HKL : Hid (k + 1 < (keysE L).length) := by unfold Hid keysE; simpa using hlt
          have HPN : Hid (ltK (L[k]'(by omega)).1 L[k + 1].1 → ((keysE L).take (k + 1 + 1)).Pairwise ltK) := fun h => pw_snoc HKL.out HP.out (fun h0 => by simpa [keysE] using h)
          have HBD : Hid (¬ ltK (L[k]'(by omega)).1 L[k + 1].1 → chkF R wm L = 50) := fun h => chkF_50 HF.out (srt_bad hlt h)
          have hR0 := hRw.below HB.out
          have hR1 := hRw'.below HB.out
          obtain ⟨Y, HY⟩ := hid_ex (L[k]'(by omega)).1
          obtain ⟨Z, HZ⟩ := hid_ex (L[k + 1]'hlt).1
          rw [← HY.out] at hR0 HPN HBD
          rw [← HZ.out] at hR1 HPN HBD
          obtain ⟨ay, cy, hkv, _⟩ := hR0.form
          subst hkv
          obtain ⟨az, cz, hkv, _⟩ := hR1.form
          subst hkv
          have HR0 : Hid (Reads wr (.slice ay Y.length cy) Y) := hR0
          have HR1 : Hid (Reads wr (.slice az Z.length cz) Z) := hR1
          have hq1 : ∀ n, (convert 58 9 (.slice ay Y.length cy)).run Tryz.prog (wr.drewN n) = .ok (.string ⟨Y.toArray⟩) (wr.drewN n) := fun n => reads_text (HR0.out.below (below_dn2 _ n))
          have hq2 : ∀ n, (convert 58 9 (.slice az Z.length cz)).run Tryz.prog (wr.drewN n) = .ok (.string ⟨Z.toArray⟩) (wr.drewN n) := fun n => reads_text (HR1.out.below (below_dn2 _ n))
          clear hcw hcw' hRw hRw' hR0 hR1 HKL HY HZ
          by_cases hlk : ltK Y Z
          · have hle : Op.bytesLess Y Z = true := (less_iff _ _).2 hlk
            have HPP : Hid _ := HPN.out hlk
            clear hlk HBD HPN
            go_wp2_with fail
            go_quiet (fail)
            have HB3 : Hid (Below w.heap.size w (wr.drewN nq)) := below_drewN HB.out nq
            have HX3 : Hid (RBox R w.heap.size (wr.drewN nq)) := HX.out
            clear c0 c1
            go_wp2_with fail
            go_roundw
            case rel => exact ⟨k + 1, by go_num, .inr (by omega), HPP, HB3, HX3⟩
            case measure => simp [intOf]; omega
          · have hle : Op.bytesLess Y Z = false := Bool.eq_false_iff.2 (fun h => hlk ((less_iff _ _).1 h))
            have H50 : Hid (chkF R wm L = 50) := HBD.out hlk
            clear hlk HBD HPN
            go_wp2_with fail
            go_quiet (fail)
            have HB3 : Hid (Below w.heap.size w (wr.drewN nq)) := below_drewN HB.out nq
            have HE3 : Hid (CkPost R wm L w (.returned (.int .i64 50)) (wr.drewN nq)) := ⟨by rw [H50.out], HB3.out⟩
            clear c0 c1
            go_wp2_with fail
            go_ret
            exact HE3.out
        · have HSR : Hid (SrtE L) := by
            have := HP.out
            rw [List.take_of_length_le (by unfold keysE; simp; omega)] at this
            exact this
          obtain ⟨r0, r1⟩ := HX.out.at
          have HLr : Hid (Lies R wr.heap.size wr) := HL.out.at HB.out
          have HEr : Hid (EReads wr (.slice a L.length cap) L) := HE.out.below HB.out
          go_wp2_with fail
          refine (refFits_any R _ L _ HLr.out HEr.out HK.out).mono ?_
          rintro e w4 ⟨rfl, hb4⟩
          have HB4 : Hid (Below w.heap.size w w4) := HB.out.trans (hb4.mono HB.out.size)
          by_cases hfl : FitL R L
          · have hfa : fitsA R L = true := fitsA_of ⟨fun _ => .inr ⟨HR.out, hfl⟩, fun _ => rfl⟩
            have H0 : Hid (chkF R wm L = 0) := chkF_of HF.out HSR.out hfl
            rw [hfa]
            have HE4 : Hid (CkPost R wm L w (.returned (.int .i64 0)) w4) := ⟨by rw [H0.out], HB4.out⟩
            clear hfl hfa hb4 r0 r1
            go_wp2_with fail
            go_ret
            exact HE4.out
          · have hfa : fitsA R L = false := by
              refine fitsA_of ⟨fun h => (by cases h), ?_⟩
              rintro (h | ⟨_, h⟩)
              · exact absurd (by rw [h]; intro x hx; cases hx) hfl
              · exact absurd h hfl
            have H3 : Hid (chkF R wm L = 3) := chkF_3 HF.out HSR.out hfl
            rw [hfa]
            have HE4 : Hid (CkPost R wm L w (.returned (.int .i64 3)) w4) := ⟨by rw [H3.out], HB4.out⟩
            clear hfl hfa hb4 r0 r1
            go_wp2_with fail
            go_ret
            exact HE4.out
  · have HEnd : Hid (chkF R wm L = 30) := by
      unfold Hid
      have h1 : fE R 0 wm = 30 := by unfold fE; rw [if_neg hR]
      rw [chkF_e (by rw [h1]; decide), h1]
    rw [decide_eq_false hR]
    have HE2 : Hid (CkPost R wm L w (.returned (.int .i64 30)) w2) := ⟨by rw [HEnd.out], HB2.out⟩
    clear hR
    go_wp2_with fail
    go_ret
    exact HE2.out
end Go.Proofs.YtoenijflijfogaaGreat
