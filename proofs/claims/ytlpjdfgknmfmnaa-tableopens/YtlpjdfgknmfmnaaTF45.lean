/- TL1 TL2 TO3 TO4, joined. -/
import Derived.Test.YtlpjdfgknmfmnaaTF35
import Derived.Test.YtlpjdfgknmfmnaaTF42
import Derived.Test.YtlpjdfgknmfmnaaTF44
/- law10: the reference's Same, where both hold the same. -/
namespace Go.Proofs.Ytlpjdfgknmfmnaa
open Go.RowKit

set_option maxRecDepth 100000 in
set_option maxHeartbeats 2000000 in
theorem same10_true (va vb : Value) (L : List Et) (w : World) (hA : TRd w va L) (hB : TRd w vb L) :
    Calls Try.prog 46 #[va, vb] w fun e w' => e = .returned (.bool true) ∧ Below w.heap.size w w' := by
  obtain ⟨a, ca, rfl, hca, hma⟩ : ∃ a cap, va = .slice a L.length cap ∧ L.length ≤ cap ∧ cap ≤ maxLen := by obtain ⟨a, cap, h1, h2, h3, _⟩ := hA; exact ⟨a, cap, h1, h2, h3⟩
  obtain ⟨b, cb, rfl, hcb, hmb⟩ : ∃ a cap, vb = .slice a L.length cap ∧ L.length ≤ cap ∧ cap ≤ maxLen := by obtain ⟨a, cap, h1, h2, h3, _⟩ := hB; exact ⟨a, cap, h1, h2, h3⟩
  unfold maxLen at hma hmb
  have HA3 : Hid (TRd w (.slice a L.length ca) L) := hA
  have HB3 : Hid (TRd w (.slice b L.length cb) L) := hB
  clear hA hB
  go_enter Try.func46, Try.ntmps46
  go_wp2_with fail
  go_loopw [5] (fun i wr => ∃ k : Nat, k ≤ L.length ∧ i = .int .i64 (k : Int) ∧ Hid (Below w.heap.size w wr)) (fun i _ => L.length - (intOf i).toNat)
  case atStart => exact ⟨0, by omega, rfl, Below.refl _ _⟩
  case round =>
    obtain ⟨k, hk, rfl, HW⟩ := hrel
    by_cases hlt : k < L.length
    · obtain ⟨X, HX⟩ := hid_ex L[k]
      obtain ⟨bA, oA, kv, rfl, hbA, hc, hR, _⟩ := HA3.out.at hlt HX.out
      obtain ⟨bB, oB, kv', rfl, hbB, hc', hR', _⟩ := HB3.out.at hlt HX.out
      have hq : ∀ i (hi : i < 7), wr.cell? ⟨bA, oA + k * 7 + i, none⟩ = some ((e7 kv X.2)[i]'hi) := fun i hi => (HW.out.cell (p := ⟨bA, _, none⟩) hbA).trans (hc i hi)
      have hq' : ∀ i (hi : i < 7), wr.cell? ⟨bB, oB + k * 7 + i, none⟩ = some ((e7 kv' X.2)[i]'hi) := fun i hi => (HW.out.cell (p := ⟨bB, _, none⟩) hbB).trans (hc' i hi)
      obtain ⟨ak, ck, rfl, _⟩ := hR.form
      obtain ⟨al, cl, rfl, _⟩ := hR'.form
      have c0 := hq 0 (by decide)
      have c1 := hq (1 + 0) (by decide)
      have c2 := hq (1 + 1) (by decide)
      have c3 := hq (1 + 2) (by decide)
      have c4 := hq (1 + 3) (by decide)
      have c5 := hq (1 + 4) (by decide)
      have c6 := hq (1 + 5) (by decide)
      have d0 := hq' 0 (by decide)
      have d1 := hq' (1 + 0) (by decide)
      have d2 := hq' (1 + 1) (by decide)
      have d3 := hq' (1 + 2) (by decide)
      have d4 := hq' (1 + 3) (by decide)
      have d5 := hq' (1 + 4) (by decide)
      have d6 := hq' (1 + 5) (by decide)
      simp only [e7, List.getElem_cons_zero, List.getElem_cons_succ, Nat.add_zero, Nat.reduceAdd] at c0 c1 c2 c3 c4 c5 c6 d0 d1 d2 d3 d4 d5 d6
      have hq1 : ∀ n, (convert 25 9 (.slice ak X.1.length ck)).run Try.prog (wr.drewN n) = .ok (.string ⟨X.1.toArray⟩) (wr.drewN n) := fun n => reads_text (hR.below (below_drewN HW.out n))
      have hq2 : ∀ n, (convert 25 9 (.slice al X.1.length cl)).run Try.prog (wr.drewN n) = .ok (.string ⟨X.1.toArray⟩) (wr.drewN n) := fun n => reads_text (hR'.below (below_drewN HW.out n))
      clear hq hq' hc hc'
      go_wp2_with fail
      go_quiet (fail)
      have HW2 : Hid (Below w.heap.size w (wr.drewN nq)) := below_drewN HW.out nq
      clear hq1 hq2
      go_wp2_with fail
      go_roundw
      case rel => exact ⟨k + 1, by omega, by go_num, HW2⟩
      case measure => simp [intOf]; omega
    · go_wp2_with fail
      go_ret
      exact ⟨rfl, HW.out⟩
end Go.Proofs.Ytlpjdfgknmfmnaa

/- law10: what an open table tells of its own, plainly. -/
namespace Go.Proofs.Ytlpjdfgknmfmnaa
open Go.RowKit

theorem rmD_adK (n : Nat) (l : List Et) : rmD n l = adK 6 (List.replicate (rmN n) 0) (l.map (·.1)) := by
  unfold rmD adK
  rw [List.foldl_map, List.length_replicate]
theorem rm_len (n : Nat) (l : List Et) : (rmD n l).length = rmN n := rmD_len n l _ (by simp)
theorem my_own {l : List Et} (h : TOk l) {x : Et} (hx : x ∈ l) : tmyF l x.1 = true := by
  unfold tmyF
  rw [rm_len, rmD_adK]
  have := my_adK (h := 6) (D := List.replicate (rmN l.length) (0 : UInt8)) (L := l.map (·.1)) (l := x.1) (by rw [List.length_replicate]; exact (rmN_ok h.n).2.2.2.1) (List.mem_map_of_mem hx)
  rw [List.length_replicate] at this
  exact this
theorem TRd.ag {w : World} {v : Value} {L : List Et} (h : TRd w v L) : ∀ x ∈ L, AgOk x.2 := by
  intro x hx
  obtain ⟨j, hj, rfl⟩ := List.getElem_of_mem hx
  obtain ⟨a, cap, _, _, _, h4⟩ := h
  obtain ⟨_, _, _, _, _, _, _, g⟩ := h4 j hj
  exact g
end Go.Proofs.Ytlpjdfgknmfmnaa

/- law10: what the reference's Seek tells, in memory and plainly. -/
namespace Go.Proofs.Ytlpjdfgknmfmnaa
open Go.RowKit

theorem TOwn.at {W : World} {base : Nat} {a : Option Addr} {n c : Nat} {xs : List Ee} (h : TOwn W base (.slice a n c) xs) {j : Nat} (hj : j < xs.length) {x : Ee} (hx : x = xs[j]) : ∃ g, a = some ⟨g, 0, none⟩ ∧ base ≤ g ∧ g < W.heap.size ∧ (∀ i (hi : i < 7), W.cell? ⟨g, j * 7 + i, none⟩ = some ((e7 x.kv x.e.2)[i]'hi)) ∧ Own W base x.kv x.e.1 := by
  subst hx
  have h1 := h.1
  rcases h1.2 with ⟨q, q2⟩ | ⟨g, cap, cur, hv, _⟩
  · omega
  · simp only [Value.slice.injEq] at hv
    obtain ⟨rfl, rfl, rfl⟩ := hv
    refine ⟨g, rfl, (World.ownsRow.lt h1 g rfl).1, (World.ownsRow.lt h1 g rfl).2, fun i hi => ?_, (h.2 _ (List.getElem_mem hj)).1⟩
    rw [show j * 7 + i = 7 * j + i by omega, World.ownsRow.cellAt h1 _ (by omega), flatE xs j i hj hi]
    rw [List.getElem?_eq_getElem (by simp [Ee.c, e7]; omega)]
    rfl
/-- Entries in a row of one's own, whose keys are of before. -/
def SkR (w W : World) (v : Value) (l : List Et) : Prop := ∃ xs : List Ee, W.ownsRow w.heap.size 43 7 v xs.length (xs.flatMap Ee.c) ∧ xs.map Ee.e = l ∧ ∀ x ∈ xs, Reads w x.kv x.e.1 ∧ AgOk x.e.2
theorem SkR.nil (w W : World) : SkR w W (.slice none 0 0) [] := ⟨[], World.ownsRow_nil _ _ _ _, rfl, fun _ h => by cases h⟩
theorem SkR.below {w A B : World} {v : Value} {l : List Et} (h : SkR w A v l) (hb : Below A.heap.size A B) : SkR w B v l := by
  obtain ⟨xs, h1, h2, h3⟩ := h
  exact ⟨xs, row_kpT (S := fun _ => True) h1 (KpT.of_below hb) trivial, h2, h3⟩
theorem SkR.form {w W : World} {v : Value} {l : List Et} (h : SkR w W v l) : ∃ a c, v = .slice a l.length c ∧ l.length ≤ c ∧ c ≤ maxLen := by
  obtain ⟨xs, h1, h2, _⟩ := h
  have e : l.length = xs.length := by rw [← h2, List.length_map]
  rcases h1.2 with ⟨g1, g2⟩ | ⟨g, cap, cur, g1, _, _, g3, g4, _⟩
  · exact ⟨none, 0, by rw [g1, e, g2], by omega, by simp [maxLen]⟩
  · exact ⟨_, cap, by rw [g1, e], by omega, g4⟩
theorem SkR.reads {w W : World} {v : Value} {l : List Et} (h : SkR w W v l) (hb : Below w.heap.size w W) : TRd W v l := by
  obtain ⟨xs, h1, rfl, h3⟩ := h
  have hlt := World.ownsRow.lt h1
  rcases h1.2 with ⟨g1, g2⟩ | ⟨g, cap, cur, hv, hg, hw, hc, hm, _⟩
  · have : xs = [] := List.length_eq_zero_iff.1 g2
    subst this
    exact ⟨none, 0, by rw [g1]; rfl, Nat.le_refl _, by simp [maxLen], fun j hj => by simp at hj⟩
  · rw [hv] at h1
    refine ⟨_, cap, by rw [hv, List.length_map], by rw [List.length_map]; exact hc, hm, fun j hj => ?_⟩
    rw [List.length_map] at hj
    obtain ⟨q1, q2⟩ := h3 xs[j] (List.getElem_mem hj)
    refine ⟨g, 0, xs[j].kv, rfl, (hlt g (by rw [hv]; rfl)).2, fun i hi => ?_, ?_, ?_⟩
    · rw [show 0 + j * 7 + i = 7 * j + i by omega, World.ownsRow.cellAt h1 _ (by omega), flatE xs j i hj hi]
      simp only [List.getElem_map]
      rw [List.getElem?_eq_getElem (by simp [Ee.c, e7]; omega)]
      rfl
    · simp only [List.getElem_map]; exact q1.below hb
    · simp only [List.getElem_map]; exact q2
/-- An entry more. -/
theorem SkR.app {w W : World} {v : Value} {l : List Et} (h : SkR w W v l) (hz : w.heap.size ≤ W.heap.size) {x : Ee} (hx : Reads w x.kv x.e.1 ∧ AgOk x.e.2) {B : Nat}
    (hc : W.heap[B]? = some (.cells x.c.toArray 43)) (hX : l.length ≤ 1000000) (ty : TypeId) :
    ∃ v' w1, (Builtin.append_ #[22, 22] ty #[v, .slice (some ⟨B, 0, none⟩) 1 1]).run Try.prog W = .ok v' w1 ∧ (∃ a c, v' = .slice a (l.length + 1) c) ∧ SkR w w1 v' (l ++ [x.e]) ∧ Below w.heap.size W w1 := by
  obtain ⟨xs, h1, rfl, h3⟩ := h
  rw [List.length_map] at hX ⊢
  have hinf := infoTe
  cases hi0 : Try.prog.info? 43 with
  | none => rw [hi0] at hinf; cases hinf
  | some i0 =>
    rw [hi0] at hinf
    simp only [Option.map_some, Option.some.injEq, Prod.mk.injEq] at hinf
    obtain ⟨hz0, hz1, hz2⟩ := hinf
    obtain ⟨z, hzz, hzc⟩ := Option.map_eq_some_iff.1 hz0
    obtain ⟨ak, ck, ek, _⟩ := hx.1.form
    have hnews : ∀ j u, x.c[j]? = some u → W.cell? ((⟨B, 0, none⟩ : Addr).add j) = some u := by
      intro j u hj
      have ea : (⟨B, 0, none⟩ : Addr).add j = ⟨B, j, none⟩ := by simp [Addr.add]; omega
      rw [ea]
      simp only [World.cell?, hc]
      simpa using hj
    obtain ⟨v', w1, hrun, hown, hg, _⟩ := run_append_own (P := Try.prog) W w.heap.size 22 ty 43 i0 z 7 72 Try.underlying22 hi0 hzz hz1 hz2 (by rw [hzc]; rfl) (by decide) v xs.length (xs.flatMap Ee.c) h1 ⟨B, 0, none⟩ 1 1 x.c rfl hnews (by unfold Ee.c e7; rw [ek]; simp [Value.oneCell']) (by unfold maxLen; omega) (by omega) hz
    have hT : SkR w w1 v' (xs.map Ee.e ++ [x.e]) := by
      refine ⟨xs ++ [x], by rw [List.length_append, List.flatMap_append]; simpa using hown, by rw [List.map_append]; rfl, fun y hy => ?_⟩
      rcases List.mem_append.1 hy with hy | hy
      · exact h3 y hy
      · simp at hy; subst hy; exact hx
    refine ⟨v', w1, hrun, ?_, hT, (Below.refl _ _).grown hg hz (own_block h1)⟩
    obtain ⟨a, c, e, _⟩ := hT.form
    exact ⟨a, c, by rw [e, List.length_append, List.length_map]; rfl⟩
/-- Seek, of any number. -/
def skI (l : List Et) (key : List UInt8) (m : Int) : List Et := (geF key l).take m.toNat
theorem skI_T (l : List Et) (key : List UInt8) (m : Nat) : skI l key (m : Int) = skT l key m := by unfold skI skT; rw [Int.toNat_natCast]
theorem skI_no (l : List Et) (key : List UInt8) {m : Int} (h : m < 1) : skI l key m = [] := by unfold skI; rw [show m.toNat = 0 by omega]; rfl
theorem skI_yes {l : List Et} {key : List UInt8} {m : Int} {x : Et} (h1 : 0 ≤ Lib.compareBytes x.1 key) (h2 : ((skI l key m).length : Int) < m) : skI (l ++ [x]) key m = skI l key m ++ [x] := by
  unfold skI at h2 ⊢
  rw [geF_app, geF_one, if_pos h1]
  rw [List.length_take] at h2
  rw [List.take_append, List.take_of_length_le (show [x].length ≤ m.toNat - (geF key l).length by simp; omega)]
theorem skI_full {l : List Et} {key : List UInt8} {m : Int} {x : Et} (h2 : ¬ ((skI l key m).length : Int) < m) : skI (l ++ [x]) key m = skI l key m := by
  unfold skI at h2 ⊢
  rw [geF_app]
  rw [List.length_take] at h2
  rw [List.take_append, show m.toNat - (geF key l).length = 0 by omega]
  simp
theorem skI_less {l : List Et} {key : List UInt8} {m : Int} {x : Et} (h1 : ¬ 0 ≤ Lib.compareBytes x.1 key) : skI (l ++ [x]) key m = skI l key m := by
  unfold skI
  rw [geF_app, geF_one, if_neg h1, List.append_nil]
theorem skI_len (l : List Et) (key : List UInt8) (m : Int) : (skI l key m).length ≤ l.length := by
  unfold skI
  rw [List.length_take]
  have := geF_le key l
  omega
/-- What the reference tells of one key. -/
theorem gt_one {l : List Et} (h : TOk l) (key : List UInt8) : gtT l key = match skI l key 1 with | [] => none | x :: _ => if x.1 = key then some x.2 else none := by
  have e : skI l key 1 = skT l key 1 := skI_T l key 1
  rw [e]
  unfold gtT
  by_cases hm : tmyF l key = false
  · rw [if_pos hm]
    cases hs : skT l key 1 with
    | nil => rfl
    | cons x r =>
      simp only
      by_cases hx : x.1 = key
      · exfalso
        have hmem : x ∈ l := by
          have h1 : x ∈ skT l key 1 := by rw [hs]; simp
          exact (List.mem_filter.1 (List.mem_of_mem_take h1)).1
        have := my_own h hmem
        rw [hx, hm] at this
        cases this
      · rw [if_neg hx]
  · rw [if_neg hm]
    cases skT l key 1 <;> rfl
theorem sk_one_len (l : List Et) (key : List UInt8) : (skI l key 1).length ≤ 1 := by unfold skI; rw [List.length_take]; simp; omega
theorem skI_mem {l : List Et} {key : List UInt8} {m : Int} {x : Et} (h : x ∈ skI l key m) : x ∈ l := (List.mem_filter.1 (List.mem_of_mem_take h)).1
end Go.Proofs.Ytlpjdfgknmfmnaa

/- law10: the contracts of the reference's Seek and May, and of Copy. -/
namespace Go.Proofs.Ytlpjdfgknmfmnaa
open Go.RowKit

set_option maxRecDepth 100000 in
theorem copy10_any (v : Value) (l : List UInt8) (hl : l.length ≤ 100000) (w : World) (hr : Reads w v l) :
    Calls Try.prog 9 #[v] w fun e w' => ∃ v', e = .returned v' ∧ Own w' w.heap.size v' l ∧ Below w.heap.size w w' := by
  go_enter Try.func9, Try.ntmps9
  go_wp2_with (at_builtin; refine wpList_app rfl _ _ rfl w.heap.size _ _ [] l l rfl rfl rfl (Own.nil _ _) hr (by simp; omega) (Nat.le_refl _) ?_)
  intro v2 w2 HO2 hb2
  clear hr
  go_wp2_with fail
  go_ret
  exact ⟨v2, rfl, HO2, hb2.out⟩
set_option maxRecDepth 100000 in
set_option maxHeartbeats 4000000 in
theorem refMay10_any (v kv : Value) (L : List Et) (key : List UInt8) (w : World) (h : TRd w v L) (hK : Reads w kv key) (hkl : key.length ≤ 100000) (hT : TOk L) : Calls Try.prog 42 #[v, kv] w fun e w' => e = .returned (.bool (tmyF L key)) ∧ Below w.heap.size w w' := by
  obtain ⟨a, cap, rfl, hc, hm⟩ : ∃ a cap, v = .slice a L.length cap ∧ L.length ≤ cap ∧ cap ≤ maxLen := by obtain ⟨a, cap, h1, h2, h3, _⟩ := h; exact ⟨a, cap, h1, h2, h3⟩
  unfold maxLen at hm
  have HR : Hid (TRd w (.slice a L.length cap) L) := h
  obtain ⟨kka, kkc, rfl, hkm⟩ := hK.form
  unfold maxLen at hkm
  have HK : Hid (Reads w (.slice kka key.length kkc) key) := hK
  have HT : Hid (TOk L) := hT
  have HKB : Hid (key.length ≤ 100000) := hkl
  obtain ⟨N, HN⟩ : ∃ n, Hid (L.length = n) := ⟨_, rfl⟩
  rw [HN.out] at HR hc ⊢
  obtain ⟨KK, HKK⟩ : ∃ n, Hid (key.length = n) := ⟨_, rfl⟩
  rw [HKK.out] at HK hkm ⊢
  have hN4 : N ≤ 4096 := by rw [← HN.out]; exact hT.n
  obtain ⟨hno, hf2, hd1, hd2, hf1⟩ := rmN_ok hN4
  obtain ⟨d, HD⟩ := hid_ex (rmN N)
  rw [← HD.out] at hd1 hd2 hf1
  have hf21 : (fitF (N : Int)).2.1 = 6 := by rw [hf2]
  have hf22 : (fitF (N : Int)).2.2 = 0 := by rw [hf2]
  have HFt : Hid (∀ w, Calls Try.prog 24 #[.int .i64 (N : Int)] w fun e w' => e = .returned (.tuple #[.int .i64 (8 * (d : Int)), .int .i64 6, .int .i64 0]) ∧ w' = w) := fun w => by
    have := refFit_any_B (N : Int) w
    rw [hf21, hf22, hf1] at this
    exact this
  have HNw : Hid (∀ w, Calls Try.prog 25 #[.int .i64 (8 * (d : Int)), .int .i64 6] w _) := fun w => refNew_ok d 6 (by rw [hf1] at hno; exact hno) w
  obtain ⟨R, HRe⟩ := hid_ex (tmyF L key)
  rw [← HRe.out]
  have HRd : Hid (R = myF (rmD N L) (plc key (8 * (rmD N L).length) 6)) := by unfold Hid; rw [HRe.out]; unfold tmyF; rw [HN.out]
  have HD1 : Hid (List.replicate d (0 : UInt8) = rmD N (L.take 0)) := by unfold Hid; rw [HD.out]; rfl
  clear hno hf2 hf1 hf21 hf22 h hK hT hkl HRe
  go_enter Try.func42, Try.ntmps42
  go_wp2_with fail
  refine (HFt.out _).mono ?_
  rintro e w1 ⟨rfl, rfl⟩
  go_wp2_with fail
  refine (HNw.out _).mono ?_
  clear HNw HFt
  rintro e w2 ⟨vf, rfl, hf, hb2⟩
  have HB2 : Hid (Below w1.heap.size w1 w2) := hb2
  have HF2 : Hid (RF w2 w1.heap.size vf 6 (dgs (rmD N (L.take 0)))) := by rw [← HD1.out]; unfold Hid; rw [dgs_zero]; exact hf
  obtain ⟨FB, rfl⟩ := hf.ptr
  clear hf hb2 HD1
  go_wp2_with fail
  go_loopw [10] (fun i wz => ∃ (m : Nat), i = .int .i64 (m : Int) ∧ m ≤ N ∧ Hid (RF wz w1.heap.size (.pointer (some ⟨FB, 0, none⟩)) 6 (dgs (rmD N (L.take m)))) ∧ Hid (Below w1.heap.size w1 wz)) (fun i _ => N - (intOf i).toNat)
  case atStart => exact ⟨0, rfl, by omega, HF2, HB2⟩
  case round =>
    rename World => wz
    obtain ⟨m, rfl, hm9, HF, HB⟩ := hrel
    by_cases hmN : m < N
    · have hmN' : (m : Int) < (N : Int) := by omega
      have hml : m < L.length := by rw [HN.out]; exact hmN
      obtain ⟨x, Hx⟩ := hid_ex L[m]
      have HSn : Hid (rmD N (L.take (m + 1)) = adF (rmD N (L.take m)) (plc x.1 (8 * (rmD N (L.take m)).length) 6)) := by
        unfold Hid
        have := rmD_snoc (n := N) hml Hx.out
        rw [this]
        congr 2
        unfold rmD
        rw [rmD_len N _ _ (by simp)]
      have HKl : Hid (x.1.length ≤ 256) := by unfold Hid; rw [Hx.out]; exact (HT.out.k _ (List.getElem_mem hml)).2
      obtain ⟨b, off, kv, rfl, hbw, hcs, hrk, _⟩ := HR.out.at hml Hx.out
      obtain ⟨k, A⟩ := x
      simp only at hrk HSn HKl
      obtain ⟨ka, kc, rfl, hkm2⟩ := hrk.form
      obtain ⟨KL, HKL⟩ : ∃ n, Hid (k.length = n) := ⟨_, rfl⟩
      rw [HKL.out] at hrk hkm2 hcs
      have HRk : Hid (Reads w1 (.slice ka KL kc) k) := hrk
      have c0 := (HB.out.cell (p := ⟨b, off + m * 7 + 0, none⟩) hbw).trans (hcs 0 (by decide))
      simp only [e7, List.getElem_cons_zero, Nat.add_zero] at c0
      have HAd : Hid (Calls Try.prog 29 #[.pointer (some ⟨FB, 0, none⟩), .slice ka KL kc] wz _) := refAddK_any _ _ 6 (rmD N (L.take m)) k (by have := HKl.out; omega) w1 wz w1.heap.size HB.out.size HF.out HRk.out HB.out (Nat.le_refl _)
      clear hrk hcs hkm2
      go_wp2_with fail
      refine HAd.out.mono ?_
      clear HAd
      rintro e wy ⟨⟨u, rfl⟩, hF, hby, hky⟩
      have HY : Hid (RF wy w1.heap.size (.pointer (some ⟨FB, 0, none⟩)) 6 (dgs (rmD N (L.take (m + 1))))) := by rw [HSn.out]; exact hF
      have HBy : Hid (Below w1.heap.size w1 wy) := HB.out.trans hby
      clear hF hby hky
      go_wp2_with fail
      go_roundw
      case rel => exact ⟨m + 1, by go_num, by omega, HY, HBy⟩
      case measure => simp [intOf]; omega
    · have hmN' : ¬ (m : Int) < (N : Int) := by omega
      have hLm : L.take m = L := List.take_of_length_le (by rw [HN.out]; omega)
      rw [hLm] at HF
      have hMy := refMay_any_B (.pointer (some ⟨FB, 0, none⟩)) _ 6 (rmD N L) key HKB.out wz w1.heap.size HF.out (HK.out.below HB.out)
      rw [← HRd.out] at hMy
      have HMy : Hid (Calls Try.prog 77 #[_, _] wz _) := hMy
      clear hMy hLm
      go_wp2_with fail
      refine HMy.out.mono ?_
      clear HMy
      rintro e w9 ⟨rfl, hb9⟩
      have HB9 : Hid (Below w1.heap.size w1 w9) := HB.out.trans (hb9.mono HB.out.size)
      clear hb9
      go_wp2_with fail
      go_ret
      exact ⟨rfl, HB9.out⟩
set_option maxRecDepth 100000 in
set_option maxHeartbeats 4000000 in
theorem refSeek10_any (v kv : Value) (L : List Et) (key : List UInt8) (m : Int) (w : World) (h : TRd w v L) (hK : Reads w kv key) (hL : L.length ≤ 1000000) : Calls Try.prog 40 #[v, kv, .int .i64 m] w fun e w' => ∃ v', e = .returned v' ∧ SkR w w' v' (skI L key m) ∧ Below w.heap.size w w' := by
  have HAg : Hid (∀ x ∈ L, AgOk x.2) := h.ag
  obtain ⟨a, cap, rfl, hc, hm⟩ : ∃ a cap, v = .slice a L.length cap ∧ L.length ≤ cap ∧ cap ≤ maxLen := by obtain ⟨a, cap, h1, h2, h3, _⟩ := h; exact ⟨a, cap, h1, h2, h3⟩
  unfold maxLen at hm
  have HR : Hid (TRd w (.slice a L.length cap) L) := h
  obtain ⟨kka, kkc, rfl, hkm⟩ := hK.form
  unfold maxLen at hkm
  have HK : Hid (Reads w (.slice kka key.length kkc) key) := hK
  obtain ⟨N, HN⟩ : ∃ n, Hid (L.length = n) := ⟨_, rfl⟩
  rw [HN.out] at HR hc hL ⊢
  obtain ⟨KK, HKK⟩ : ∃ n, Hid (key.length = n) := ⟨_, rfl⟩
  rw [HKK.out] at HK hkm ⊢
  clear h hK
  go_enter Try.func40, Try.ntmps40
  go_wp2_with fail
  go_loopw [7, 8] (fun o i wr => ∃ (j : Nat), i = .int .i64 (j : Int) ∧ j ≤ N ∧ Hid (SkR w wr o (skI (L.take j) key m)) ∧ Hid (Below w.heap.size w wr)) (fun _ i _ => N - (intOf i).toNat)
  case atStart => exact ⟨0, rfl, by omega, by unfold Hid skI geF; rw [List.take_zero, List.filter_nil, List.take_nil]; exact SkR.nil _ _, Below.refl _ _⟩
  case round =>
    obtain ⟨j, rfl, hj, HS, HB⟩ := hrel
    by_cases hlt : j < N
    · have hlt' : (j : Int) < (N : Int) := by omega
      have hjl : j < L.length := by rw [HN.out]; exact hlt
      obtain ⟨x, Hx⟩ := hid_ex L[j]
      have HSn : Hid (L.take (j + 1) = L.take j ++ [x]) := by
        unfold Hid
        rw [List.take_add_one, List.getElem?_eq_getElem hjl, Hx.out]
        rfl
      have HAx : Hid (AgOk x.2) := by unfold Hid; rw [Hx.out]; exact HAg.out _ (List.getElem_mem hjl)
      obtain ⟨b, off, kv, rfl, hbw, hcs, hrk, _⟩ := HR.out.at hjl Hx.out
      obtain ⟨k, A⟩ := x
      simp only at hcs hrk HAx
      obtain ⟨ka, kc, rfl, hkm2⟩ := hrk.form
      unfold maxLen at hkm2
      obtain ⟨KL, HKL⟩ : ∃ n, Hid (k.length = n) := ⟨_, rfl⟩
      rw [HKL.out] at hcs hrk hkm2
      have HRk : Hid (Reads w (.slice ka KL kc) k) := hrk
      have q : ∀ i (hi : i < 7), wr.cell? ⟨b, off + j * 7 + i, none⟩ = some ((e7 (.slice ka KL kc) A)[i]'hi) := fun i hi => (HB.out.cell (p := ⟨b, off + j * 7 + i, none⟩) hbw).trans (hcs i hi)
      have c0 := q 0 (by decide)
      have c1 := q 1 (by decide)
      have c2 := q 2 (by decide)
      have c3 := q 3 (by decide)
      have c4 := q 4 (by decide)
      have c5 := q 5 (by decide)
      have c6 := q 6 (by decide)
      simp only [e7, List.getElem_cons_succ, List.getElem_cons_zero, Nat.add_zero] at c0 c1 c2 c3 c4 c5 c6
      have hq1 : ∀ n, (convert 25 9 (.slice ka KL kc)).run Try.prog (wr.drewN n) = .ok (.string ⟨k.toArray⟩) (wr.drewN n) := fun n => reads_text (HRk.out.below (below_drewN HB.out n))
      have hq2 : ∀ n, (convert 25 9 (.slice kka KK kkc)).run Try.prog (wr.drewN n) = .ok (.string ⟨key.toArray⟩) (wr.drewN n) := fun n => reads_text (HK.out.below (below_drewN HB.out n))
      have hle : Op.bytesLess k key = !decide (0 ≤ Lib.compareBytes k key) := by
        rw [Bool.eq_iff_iff, Bool.not_eq_true', decide_eq_false_iff_not, rless_ltK, decide_eq_true_iff, cmp_ge, Decidable.not_not]
      obtain ⟨C, HC⟩ := hid_ex (Lib.compareBytes k key)
      rw [← HC.out] at hle
      obtain ⟨ao, co, hov, hoc, hom⟩ := HS.out.form
      obtain ⟨OL, HOL⟩ : ∃ n, Hid ((skI (L.take j) key m).length = n) := ⟨_, rfl⟩
      rw [HOL.out] at hov hoc
      subst hov
      have hOb : OL ≤ N := by have := skI_len (L.take j) key m; rw [HOL.out, List.length_take] at this; omega
      have hcsW : Hid (∀ i (hi : i < 7), w.cell? ⟨b, off + j * 7 + i, none⟩ = some ((e7 (.slice ka KL kc) A)[i]'hi)) := hcs
      clear hrk hcs q Hx
      by_cases g1 : 0 ≤ C
      · have hle' : Op.bytesLess k key = false := by rw [hle]; simp [g1]
        clear hle
        by_cases g2 : (OL : Int) < m
        · have HE : Hid (skI (L.take (j + 1)) key m = skI (L.take j) key m ++ [(k, A)]) := by unfold Hid; rw [HSn.out]; exact skI_yes (by rw [← HC.out]; exact g1) (by rw [HOL.out]; exact g2)
          go_wp2_with fail
          go_quiet (fail)
          have hbw1 : Below wr.heap.size wr (wr.drewN nq) := below_drewN (Below.refl _ _) _
          obtain ⟨W1, HW1⟩ := hid_ex (wr.drewN nq)
          rw [← HW1.out] at hbw1 ⊢
          have hS1 := HS.out.below hbw1
          have HB1 : Hid (Below w.heap.size w W1) := HB.out.trans (hbw1.mono HB.out.size)
          have q1 : ∀ i (hi : i < 7), W1.cell? ⟨b, off + j * 7 + i, none⟩ = some ((e7 (.slice ka KL kc) A)[i]'hi) := fun i hi => (HB1.out.cell (p := ⟨b, off + j * 7 + i, none⟩) hbw).trans (hcsW.out i hi)
          obtain ⟨W2, HW2⟩ := hid_ex (W1.alloc (.cells #[.slice ka KL kc, .int .u64 A.c, .bool A.o, .int .i64 (hi A.s), .int .u64 (lo A.s), .int .i64 A.mn, .int .i64 A.mx] 43))
          have hb2 : Below W1.heap.size W1 W2 := by rw [HW2.out]; exact (Below.refl _ _).alloc (Nat.le_refl _) _
          have hx2 : W2.heap[W1.heap.size]? = some (.cells #[.slice ka KL kc, .int .u64 A.c, .bool A.o, .int .i64 (hi A.s), .int .u64 (lo A.s), .int .i64 A.mn, .int .i64 A.mx] 43) := by rw [HW2.out]; exact heap_alloc_new _ _
          have hz2 : w.heap.size ≤ W2.heap.size := (HB1.out.trans (hb2.mono HB1.out.size)).size
          obtain ⟨v3, w3, hr3, ⟨a3, c3', hv3⟩, hs3, hb3⟩ := (hS1.below hb2).app hz2 (x := ⟨.slice ka KL kc, (k, A)⟩) ⟨HRk.out, HAx.out⟩ hx2 (by rw [HOL.out]; omega) 22
          rw [HOL.out] at hv3
          subst hv3
          have HB3 : Hid (Below w.heap.size w w3) := (HB1.out.trans (hb2.mono HB1.out.size)).trans hb3
          have HS3 : Hid (SkR w w3 (.slice a3 (OL + 1) c3') (skI (L.take (j + 1)) key m)) := by rw [HE.out]; exact hs3
          rw [HW2.out] at hr3
          clear hbw1 hS1 hb2 hx2 hz2 hs3 hb3 HW2 c0 c1 c2 c3 c4 c5 c6 hq1 hq2
          have c0 := q1 0 (by decide)
          have c1 := q1 1 (by decide)
          have c2 := q1 2 (by decide)
          have c3 := q1 3 (by decide)
          have c4 := q1 4 (by decide)
          have c5 := q1 5 (by decide)
          have c6 := q1 6 (by decide)
          simp only [e7, List.getElem_cons_succ, List.getElem_cons_zero, Nat.add_zero] at c0 c1 c2 c3 c4 c5 c6
          clear q1 HW1
          go_wp2_with (at_builtin; refine wpList_app_runT rfl _ _ _ _ (by rfl) (by rfl) _ _ _ (by rfl) (by rfl) hr3 ?_; clear hr3)
          go_roundw
          case rel => exact ⟨j + 1, by go_num, by omega, HS3, HB3⟩
          case measure => simp [intOf]; omega
        · have HE : Hid (skI (L.take (j + 1)) key m = skI (L.take j) key m) := by unfold Hid; rw [HSn.out]; exact skI_full (by rw [HOL.out]; exact g2)
          go_wp2_with fail
          go_quiet (fail)
          go_wp2_with fail
          go_roundw
          case rel => exact ⟨j + 1, by go_num, by omega, by rw [HE.out]; exact HS.out.below (below_drewN (Below.refl _ _) _), below_drewN HB.out _⟩
          case measure => simp [intOf]; omega
      · have hle' : Op.bytesLess k key = true := by rw [hle]; simp [g1]
        clear hle
        have HE : Hid (skI (L.take (j + 1)) key m = skI (L.take j) key m) := by unfold Hid; rw [HSn.out]; exact skI_less (by rw [← HC.out]; exact g1)
        go_wp2_with fail
        go_quiet (fail)
        go_wp2_with fail
        go_roundw
        case rel => exact ⟨j + 1, by go_num, by omega, by rw [HE.out]; exact HS.out.below (below_drewN (Below.refl _ _) _), below_drewN HB.out _⟩
        case measure => simp [intOf]; omega
    · have hlt' : ¬ (j : Int) < (N : Int) := by omega
      have hLj : L.take j = L := List.take_of_length_le (by rw [HN.out]; omega)
      rw [hLj] at HS
      clear hLj
      go_wp2_with fail
      go_ret
      exact ⟨_, rfl, HS.out, HB.out⟩
end Go.Proofs.Ytlpjdfgknmfmnaa
