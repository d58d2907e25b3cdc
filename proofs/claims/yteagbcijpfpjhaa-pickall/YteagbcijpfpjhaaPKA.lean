/- Of a full level all runs are offered, and those of the next one; else one that is stale. -/
import Derived.Test.YteagbcijpfpjhaaPK11
namespace Go.Proofs.Yteagbcijpfpjhaa
open Go.RowKit Go.Shelf

theorem has_take {l : List Int} {k : Nat} (hk : k < l.length) (x : Int) : has (l.take (k + 1)) x = (has (l.take k) x || decide (l[k] = x)) := by
  refine has_eq ?_
  rw [List.take_succ_eq_append_getElem hk, List.mem_append, Bool.or_eq_true, has_iff]
  simp
  rw [eq_comm]
set_option maxRecDepth 100000 in
set_option maxHeartbeats 8000000 in
theorem all_walk (v : Value) (L : List Rn) (w : World) (hR : NReads w v L) : Calls Try.prog 8 #[v] w fun e w' => e = .returned (.bool true) ∧ Below w.heap.size w w' := by
  have HR : Hid (NReads w v L) := hR
  obtain ⟨a, cap, rfl, hl1, hl2⟩ := hR.form
  clear hR
  unfold maxLen at hl2
  go_enter Try.func8, Try.ntmps8
  go_wp2_with fail
  refine (offer_any _ L _ HR.out).mono ?_
  rintro e w1 ⟨hb1, hy, hn⟩
  have HB1 : Hid (Below w.heap.size w w1) := hb1
  clear hb1
  obtain ⟨o, Ho⟩ := hid_ex (okB L)
  cases o with
  | false =>
    obtain rfl := hn Ho.out.symm
    clear hn hy
    go_wp2_with (refine stop_store 28 _ _ rfl ?_)
    refine Stop.of ?_
    refine wpList_storeN rfl _ _ _ rfl w1.heap.size 0 [.slice none 0 0, .int .i64 0] rfl rfl _ _ (heap_alloc_new _ _) (by simp) (by kernel_rfl) (by kernel_rfl) ?_
    intro W hW
    obtain ⟨hbW, _, _⟩ := stW_new hW (by simp)
    have HBW : Hid (Below w.heap.size w W) := HB1.out.trans (hbW.mono HB1.out.size)
    clear hW hbW
    go_wp2_with fail
    refine (alive_any _).mono ?_
    rintro e w2 ⟨rfl, hb2⟩
    have HB2 : Hid (Below w.heap.size w w2) := HBW.out.trans (hb2.mono HBW.out.size)
    clear hb2
    go_wp2_with fail
    go_ret
    exact ⟨rfl, HB2.out⟩
  | true =>
    have HOK : Hid (okR L) := okB_iff.1 Ho.out.symm
    have h64 : L.length ≤ 64 := HOK.out.1
    obtain ⟨v', rfl, hO⟩ := hy Ho.out.symm
    clear hn hy
    obtain ⟨T, HT⟩ := hid_ex (offT L)
    rw [← HT.out] at hO ⊢
    have HOw : Hid (Own w1 w.heap.size v' T.fs) := hO
    obtain ⟨fa, fc, rfl, hfl⟩ := hO.form
    clear hO
    unfold maxLen at hfl
    go_wp2_with (refine stop_store 28 _ _ rfl ?_)
    refine Stop.of ?_
    refine wpList_storeN rfl _ _ _ rfl w1.heap.size 0 [.slice fa T.fs.length fc, .int .i64 T.lv] rfl rfl _ _ (heap_alloc_new _ _) (by simp) (by kernel_rfl) (by kernel_rfl) ?_
    intro W hW
    obtain ⟨hbW, hxW, hlW⟩ := stW_new hW (by simp)
    have HBW : Hid (Below w.heap.size w W) := HB1.out.trans (hbW.mono HB1.out.size)
    have HOW : Hid (Own W w.heap.size (.slice fa T.fs.length fc) T.fs) := HOw.out.below hbW
    have HX : Hid (W.heap[w1.heap.size]? = some (.cells #[.slice fa T.fs.length fc, .int .i64 T.lv] 28)) := hxW
    obtain ⟨B, HBB⟩ := hid_ex w1.heap.size
    rw [← HBB.out] at HX hlW ⊢
    clear hW hbW hxW HBB HOw
    cases hs : T.s with
    | false =>
      clear hs
      go_wp2_with fail
      refine (alive_any _).mono ?_
      rintro e w2 ⟨rfl, hb2⟩
      have HB2 : Hid (Below w.heap.size w w2) := HBW.out.trans (hb2.mono HBW.out.size)
      clear hb2
      go_wp2_with fail
      go_ret
      exact ⟨rfl, HB2.out⟩
    | true =>
      have HIN : Hid (∀ r ∈ L, (0 ≤ lowG L 4 → has T.fs r.f = (decide (r.l = lowG L 4) || decide (r.l = lowG L 4 + 1))) ∧ (lowG L 4 < 0 → has T.fs r.f = true → r.s = true ∧ r.l = T.lv)) := by
        rw [HT.out] at hs ⊢
        exact fun r hr => off_in HOK.out hs r hr
      have HEN : Hid ((0 ≤ lowG L 4 → T.lv = lowG L 4 + 1) ∧ (lowG L 4 < 0 → T.fs.length = 1)) := by
        rw [HT.out] at hs ⊢
        exact off_end hs
      clear hs HT
      go_wp2_with fail
      go_loopw [6, 7] (fun lo lv wr => ∃ d : Nat, d ≤ 4 ∧ lv = .int .i64 (3 - (d : Int)) ∧ lo = .int .i64 (lowG L d) ∧ Hid (Below W.heap.size W wr)) (fun _ i _ => (intOf i + 1).toNat)
      case atStart => exact ⟨0, by omega, rfl, rfl, Below.refl _ _⟩
      case round =>
        obtain ⟨d, hd, rfl, rfl, HB⟩ := hrel
        have HBr : Hid (Below w.heap.size w wr) := HBW.out.trans (HB.out.mono HBW.out.size)
        by_cases hlt : d < 4
        · have h9 : 0 ≤ 3 - (d : Int) := by omega
          obtain ⟨q, Hq⟩ := hid_ex (FulB L (3 - (d : Int)))
          have HQ : Hid (q = fulF L (3 - (d : Int))) := by
            unfold Hid
            rw [Hq.out, FulB, ← Ho.out, decide_eq_true (by omega)]
            rfl
          obtain ⟨lo, Hlo⟩ := hid_ex (lowG L d)
          rw [← Hlo.out]
          obtain ⟨lv, Hlv⟩ := hid_ex (3 - (d : Int))
          rw [← Hlv.out] at h9 Hq HQ ⊢
          have hlv3 : lv ≤ 3 := by rw [Hlv.out]; omega
          go_wp2_with fail
          refine (Full_any _ L lv _ (HR.out.below HBr.out)).mono ?_
          rw [← Hq.out]
          rintro e w2 ⟨rfl, hb2⟩
          have HB2 : Hid (Below W.heap.size W w2) := HB.out.trans (hb2.mono HB.out.size)
          clear hb2
          cases q with
          | true =>
            have HN : Hid (lv = lowG L (d + 1)) := by
              unfold Hid
              rw [lowG, ← Hlv.out, ← HQ.out, if_pos rfl]
            go_wp2_with fail
            go_roundw
            case rel => exact ⟨d + 1, by omega, by rw [Hlv.out]; congr 1; omega, by rw [HN.out], HB2.out⟩
            case measure => simp [intOf]; omega
          | false =>
            have HN : Hid (lo = lowG L (d + 1)) := by
              unfold Hid
              rw [lowG, ← Hlv.out, ← HQ.out, if_neg (by simp), Hlo.out]
            go_wp2_with fail
            go_roundw
            case rel => exact ⟨d + 1, by omega, by rw [Hlv.out]; congr 1; omega, by rw [HN.out], HB2.out⟩
            case measure => simp [intOf]; omega
        · obtain rfl : d = 4 := by omega
          obtain ⟨lo, Hlo⟩ := hid_ex (lowG L 4)
          have hlb := lowG_bnd L 4 (by omega)
          rw [← Hlo.out] at hlb HIN HEN ⊢
          obtain ⟨hlb1, hlb2⟩ := hlb
          have HO1 : Hid (Own wr w.heap.size (.slice fa T.fs.length fc) T.fs) := HOW.out.below HB.out
          have HX1 : Hid (wr.heap[B]? = some (.cells #[.slice fa T.fs.length fc, .int .i64 T.lv] 28)) := (HB.out.block _ hlW).trans HX.out
          clear HOW HX hlt hd
          obtain ⟨z3, Hz3⟩ := hid_ex (3 - ((4 : Nat) : Int))
          rw [← Hz3.out]
          have hz3 : z3 < 0 := by rw [Hz3.out]; omega
          generalize wr = W1 at *
          go_wp2_with fail
          go_loopw [8] (fun i wq => ∃ k : Nat, k ≤ L.length ∧ i = .int .i64 (k : Int) ∧ Hid (Below W1.heap.size W1 wq)) (fun i _ => L.length - (intOf i).toNat)
          case atStart => exact ⟨0, by omega, rfl, Below.refl _ _⟩
          case round =>
            obtain ⟨k, hk, rfl, HBk⟩ := hrel
            generalize wr = W2 at *
            have HBw : Hid (Below w.heap.size w W2) := HBr.out.trans (HBk.out.mono HBr.out.size)
            have hB1 : B < W1.heap.size := (Array.getElem?_eq_some_iff.1 HX1.out).1
            have HX2 : Hid (W2.heap[B]? = some (.cells #[.slice fa T.fs.length fc, .int .i64 T.lv] 28)) := (HBk.out.block _ hB1).trans HX1.out
            by_cases hlt : k < L.length
            · obtain ⟨b, off, rfl, hb⟩ := HR.out.ptr (by omega)
              obtain ⟨r, Hr⟩ := hid_ex L[k]
              have HINr : Hid _ := HIN.out r (by rw [Hr.out]; exact List.getElem_mem hlt)
              have HO2 : Hid (Own W2 w.heap.size (.slice fa T.fs.length fc) T.fs) := HO1.out.below HBk.out
              have hB2 : B < W2.heap.size := (Array.getElem?_eq_some_iff.1 HX2.out).1
              go_wp2_with fail
              go_loopw [9, 10] (fun iv i wq => ∃ m : Nat, m ≤ T.fs.length ∧ i = .int .i64 (m : Int) ∧ iv = .bool (has (T.fs.take m) r.f) ∧ Hid (Below W2.heap.size W2 wq)) (fun _ i _ => T.fs.length - (intOf i).toNat)
              case atStart => exact ⟨0, by omega, rfl, by simp [has], Below.refl _ _⟩
              case round =>
                obtain ⟨m, hm, rfl, rfl, HBm⟩ := hrel
                have HX3 : Hid (wr.heap[B]? = some (.cells #[.slice fa T.fs.length fc, .int .i64 T.lv] 28)) := (HBm.out.block _ hB2).trans HX2.out
                have g0 := (cell_row HX3.out 0 (by simp)).1
                have g1 := (cell_row HX3.out 1 (by simp)).1
                simp only [List.getElem_toArray, List.getElem_cons_zero, List.getElem_cons_succ] at g0 g1
                obtain ⟨c0, c1, c2, c3⟩ := (HR.out.below (HBw.out.trans (HBm.out.mono HBw.out.size))).four hlt r Hr.out
                by_cases hmt : m < T.fs.length
                · obtain ⟨fb, fo, rfl, hfb, hfc⟩ := (HO2.out.below HBm.out).reads.at m hmt
                  have HTk : Hid _ := has_take hmt r.f
                  obtain ⟨y, Hy⟩ := hid_ex (T.fs[m]'hmt)
                  rw [← Hy.out] at hfc HTk
                  unfold ic at hfc
                  obtain ⟨q, Hq⟩ := hid_ex (has (T.fs.take m) r.f)
                  rw [← Hq.out] at HTk ⊢
                  cases q with
                  | true =>
                    have HN : Hid (has (T.fs.take (m + 1)) r.f = true) := by
                      unfold Hid
                      rw [HTk.out]
                      rfl
                    go_wp2_with fail
                    go_quiet (fail)
                    have HBn : Hid (Below W2.heap.size W2 (wr.drewN nq)) := below_drewN HBm.out nq
                    go_wp2_with fail
                    go_roundw
                    case rel => exact ⟨m + 1, by omega, by go_num, by rw [HN.out], HBn.out⟩
                    case measure => simp [intOf]; omega
                  | false =>
                    by_cases hyr : y = r.f
                    · have hbe : (y == r.f) = true := by simpa using hyr
                      have HN : Hid (has (T.fs.take (m + 1)) r.f = true) := by
                        unfold Hid
                        rw [HTk.out, decide_eq_true hyr]
                        rfl
                      clear hyr
                      go_wp2_with fail
                      go_quiet (fail)
                      have HBn : Hid (Below W2.heap.size W2 (wr.drewN nq)) := below_drewN HBm.out nq
                      go_wp2_with fail
                      go_roundw
                      case rel => exact ⟨m + 1, by omega, by go_num, by rw [HN.out], HBn.out⟩
                      case measure => simp [intOf]; omega
                    · have hbe : (y == r.f) = false := by simpa using hyr
                      have HN : Hid (has (T.fs.take (m + 1)) r.f = false) := by
                        unfold Hid
                        rw [HTk.out, decide_eq_false hyr]
                        rfl
                      clear hyr
                      go_wp2_with fail
                      go_quiet (fail)
                      have HBn : Hid (Below W2.heap.size W2 (wr.drewN nq)) := below_drewN HBm.out nq
                      go_wp2_with fail
                      go_roundw
                      case rel => exact ⟨m + 1, by omega, by go_num, by rw [HN.out], HBn.out⟩
                      case measure => simp [intOf]; omega
                · obtain rfl : m = T.fs.length := by omega
                  have hbx : ∀ q, Below W1.heap.size W1 (wr.drewN q) := fun q => below_drewN (HBk.out.trans (HBm.out.mono HBk.out.size)) q
                  have HBx : Hid _ := hbx
                  clear hbx
                  rw [List.take_length]
                  obtain ⟨q, Hq⟩ := hid_ex (has T.fs r.f)
                  rw [← Hq.out] at HINr ⊢
                  by_cases hlo : 0 ≤ lo
                  · have hnl : decide (lo < 0) = false := decide_eq_false (by omega)
                    by_cases hl0 : r.l = lo
                    · have hbe : (r.l == lo) = true := by simpa using hl0
                      have hq : q = true := by rw [HINr.out.1 hlo, decide_eq_true hl0]; rfl
                      subst hq
                      clear hl0
                      go_wp2_with fail
                      go_quiet (fail)
                      have HBn : Hid (Below W1.heap.size W1 (wr.drewN nq)) := HBx.out nq
                      go_wp2_with fail
                      go_roundw
                      case rel => exact ⟨k + 1, by omega, by go_num, HBn.out⟩
                      case measure => simp [intOf]; omega
                    · have hbe : (r.l == lo) = false := by simpa using hl0
                      by_cases hl1 : r.l = lo + 1
                      · have hbf : (r.l == lo + 1) = true := by simpa using hl1
                        have hq : q = true := by rw [HINr.out.1 hlo, decide_eq_true hl1]; simp
                        subst hq
                        clear hl0 hl1
                        go_wp2_with fail
                        go_quiet (fail)
                        have HBn : Hid (Below W1.heap.size W1 (wr.drewN nq)) := HBx.out nq
                        go_wp2_with fail
                        go_roundw
                        case rel => exact ⟨k + 1, by omega, by go_num, HBn.out⟩
                        case measure => simp [intOf]; omega
                      · have hbf : (r.l == lo + 1) = false := by simpa using hl1
                        have hq : q = false := by rw [HINr.out.1 hlo, decide_eq_false hl1, decide_eq_false hl0]; rfl
                        subst hq
                        clear hl0 hl1
                        go_wp2_with fail
                        go_quiet (fail)
                        have HBn : Hid (Below W1.heap.size W1 (wr.drewN nq)) := HBx.out nq
                        go_wp2_with fail
                        go_roundw
                        case rel => exact ⟨k + 1, by omega, by go_num, HBn.out⟩
                        case measure => simp [intOf]; omega
                  · have hnl : decide (lo < 0) = true := decide_eq_true (by omega)
                    have hnm : decide (0 ≤ lo) = false := decide_eq_false hlo
                    cases q with
                    | false =>
                      go_wp2_with fail
                      go_quiet (fail)
                      have HBn : Hid (Below W1.heap.size W1 (wr.drewN nq)) := HBx.out nq
                      go_wp2_with fail
                      go_roundw
                      case rel => exact ⟨k + 1, by omega, by go_num, HBn.out⟩
                      case measure => simp [intOf]; omega
                    | true =>
                      obtain ⟨hs9, hl9⟩ := HINr.out.2 (by omega) rfl
                      rw [hs9] at c3
                      have hbe : (r.l == T.lv) = true := by simpa using hl9
                      clear hs9 hl9
                      go_wp2_with fail
                      go_quiet (fail)
                      have HBn : Hid (Below W1.heap.size W1 (wr.drewN nq)) := HBx.out nq
                      go_wp2_with fail
                      go_roundw
                      case rel => exact ⟨k + 1, by omega, by go_num, HBn.out⟩
                      case measure => simp [intOf]; omega
            · have g0 := (cell_row HX2.out 0 (by simp)).1
              have g1 := (cell_row HX2.out 1 (by simp)).1
              simp only [List.getElem_toArray, List.getElem_cons_zero, List.getElem_cons_succ] at g0 g1
              have hB2 : B < W2.heap.size := (Array.getElem?_eq_some_iff.1 HX2.out).1
              go_wp2_with fail
              refine (alive_any _).mono ?_
              rintro e w5 ⟨rfl, hb5⟩
              have HB5 : Hid (Below w.heap.size w w5) := HBw.out.trans (hb5.mono HBw.out.size)
              have k0 := (hb5.cell (p := ⟨B, 0, none⟩) hB2).trans g0
              have k1 := (hb5.cell (p := ⟨B, 1, none⟩) hB2).trans g1
              clear hb5 g0 g1
              by_cases hlo : 0 ≤ lo
              · have hbe : (T.lv == lo + 1) = true := by simpa using HEN.out.1 hlo
                go_wp2_with fail
                go_ret
                exact ⟨rfl, HB5.out⟩
              · have hbe : ((T.fs.length : Int) == 1) = true := by
                  have := HEN.out.2 (by omega)
                  rw [this]
                  rfl
                go_wp2_with fail
                go_ret
                exact ⟨rfl, HB5.out⟩
end Go.Proofs.Yteagbcijpfpjhaa
