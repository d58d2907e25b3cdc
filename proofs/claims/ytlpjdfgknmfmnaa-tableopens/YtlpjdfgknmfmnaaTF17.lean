/- BK4, joined. -/
import Derived.Test.YtlpjdfgknmfmnaaTF5
import Derived.Test.YtlpjdfgknmfmnaaTF7
import Derived.Test.YtlpjdfgknmfmnaaTF15
import Derived.Test.YtlpjdfgknmfmnaaTF16
import Derived.RangeFuncRecord
/- The contract of Write. -/
namespace Go.Proofs.Ytlpjdfgknmfmnaa
open Go.RowKit

/-- The last key. -/
def lastK (ah : Ks) (l : List Pr) : Ks := match l.getLast? with | none => ah | some y => y.1
theorem lastK_snoc (ah : Ks) (l : List Pr) (x : Pr) : lastK ah (l ++ [x]) = x.1 := by simp [lastK]
theorem lastK_cons (ah : Ks) (y : Pr) (l : List Pr) : lastK ah (y :: l) = lastK y.1 l := by
  unfold lastK
  cases l with
  | nil => rfl
  | cons z l => rw [List.getLast?_cons_cons]; cases h : (z :: l).getLast? with
    | none => simp at h
    | some u => rfl
theorem wbF_snoc : ∀ (l : List Pr) (i : Nat) (ah : Ks) (x : Pr), wbF i ah (l ++ [x]) = wbF i ah l ++ pb (i + l.length) (lastK ah l) x
  | [], i, ah, x => by simp [wbF, lastK]
  | y :: l, i, ah, x => by
    rw [List.cons_append, wbF, wbF_snoc l (i + 1) y.1 x, wbF, lastK_cons, List.append_assoc, List.length_cons, show i + 1 + l.length = i + (l.length + 1) by omega]
theorem sh2 {n : Nat} (h : n ≤ 4096) : (sh n).length ≤ 2 := sh_len 1 n (by omega)
theorem pb_le {i : Nat} {ah : Ks} {x : Pr} (hx : okP x) : (pb i ah x).length ≤ x.1.length + x.2.length + 6 := by
  have h := svd_le i ah x.1
  obtain ⟨h1, h2⟩ := hx
  have a := sh2 (n := svd i ah x.1) (by omega)
  have b := sh2 (n := x.1.length - svd i ah x.1) (by omega)
  have c := sh2 h2
  rw [pb_len]; omega
theorem wbF_len : ∀ (l : List Pr) (i : Nat) (ah : Ks), (∀ x ∈ l, okP x) → (wbF i ah l).length ≤ l.length * 8198
  | [], _, _, _ => by simp [wbF]
  | x :: l, i, ah, h => by
    have ih := wbF_len l (i + 1) x.1 (fun y hy => h y (List.mem_cons_of_mem _ hy))
    have hx := h x List.mem_cons_self
    have hp := pb_le (i := i) (ah := ah) hx
    obtain ⟨h1, h2⟩ := hx
    rw [wbF, List.length_append, List.length_cons]; omega
/-- What Write tells. -/
def wrB (l : List Pr) : List UInt8 := if mbF l = 0 then wb l else []
/-- The short numbers of a pair that are written so far. -/
def s3 (s m v : Nat) : Nat → List UInt8
  | 0 => []
  | 1 => sh s
  | 2 => sh s ++ sh m
  | _ => sh s ++ sh m ++ sh v
theorem s3_len {s m v : Nat} (h1 : s ≤ 4096) (h2 : m ≤ 4096) (h3 : v ≤ 4096) (j : Nat) : (s3 s m v j).length ≤ 6 := by
  have a := sh2 h1
  have b := sh2 h2
  have c := sh2 h3
  match j with
  | 0 => simp [s3]
  | 1 => simp [s3]; omega
  | 2 => simp [s3]; omega
  | n + 3 => simp [s3]; omega
set_option maxRecDepth 100000 in
set_option maxHeartbeats 4000000 in
theorem write_any (v : Value) (l : List Pr) (w : World) (hP : PReads w v l) :
    Calls Try.prog 20 #[v] w fun e w' => ∃ u, e = .returned (.tuple #[u, .int .i64 (mbF l)]) ∧ Own w' w.heap.size u (wrB l) ∧ Below w.heap.size w w' := by
  have HP : Hid (PReads w v l) := hP
  obtain ⟨a, cap, rfl, hcap, hm, h3⟩ := hP
  unfold maxLen at hm
  have H3 : Hid _ := h3
  clear h3
  go_enter Try.func20, Try.ntmps20
  go_wp2_with fail
  refine (mayBe_any _ l _ HP.out).mono ?_
  rintro e w0 ⟨rfl, hb0⟩
  have HB0 : Hid (Below w.heap.size w w0) := hb0
  clear hb0 HP
  by_cases hok : mbF l = 0
  · rw [hok]
    have HW : Hid (wrB l = wb l) := by unfold Hid wrB; rw [if_pos hok]
    obtain ⟨hl1, hl2, hl3⟩ := mb_zero.1 hok
    have HL2 : Hid (∀ x ∈ l, okP x) := hl2
    have HM0 : Hid (mbF l = 0) := hok
    clear hok hl2 hl3
    go_wp2_with fail
    go_loopw [5, 6, 19] (fun o ah i wr => ∃ k : Nat, k ≤ l.length ∧ i = .int .i64 (k : Int) ∧ Hid (Own wr w.heap.size o (wbF 0 [] (l.take k))) ∧ Hid (Reads w ah (lastK [] (l.take k))) ∧ Hid (Below w.heap.size w wr)) (fun _ _ i _ => l.length - (intOf i).toNat)
    case atStart => exact ⟨0, by omega, rfl, Own.nil _ _, .inl ⟨rfl, _, _, rfl, fun _ => rfl⟩, HB0⟩
    case round =>
      rename World => wo
      obtain ⟨k, hk, rfl, HO, HA, HWo⟩ := hrel
      by_cases hlt : k < l.length
      · obtain ⟨bA, oA, rfl, hbA, hA⟩ := H3.out.resolve_left (fun h => by rw [h] at hlt; simp at hlt)
        obtain ⟨kv, vv, q0, q1, r0, r1⟩ := hA k hlt
        obtain ⟨X, HX⟩ := hid_ex l[k]
        rw [← HX.out] at r0 r1
        have HTk : Hid (l.take (k + 1) = l.take k ++ [X]) := by unfold Hid; rw [List.take_add_one, List.getElem?_eq_getElem hlt, HX.out]; rfl
        have hXo : okP X := by rw [HX.out]; exact HL2.out _ (List.getElem_mem hlt)
        obtain ⟨hX1, hX2⟩ := hXo
        have c0 := (HWo.out.cell (p := ⟨bA, oA + k * 2, none⟩) hbA).trans q0
        have c1 := (HWo.out.cell (p := ⟨bA, oA + k * 2 + 1, none⟩) hbA).trans q1
        have HRk : Hid (Reads w kv X.1) := r0
        have HRv : Hid (Reads w vv X.2) := r1
        obtain ⟨ak, ck, rfl, hmk⟩ := r0.form
        obtain ⟨av, cv, rfl, hmv⟩ := r1.form
        unfold maxLen at hmk hmv
        clear hA q0 q1 r0 r1 HX
        obtain ⟨AH, HAH⟩ := hid_ex (lastK [] (l.take k))
        obtain ⟨P, HPp⟩ := hid_ex (wbF 0 [] (l.take k))
        have hPl : P.length ≤ 4096 * 8198 := by
          rw [HPp.out]
          have := wbF_len (l.take k) 0 [] (fun x hx => HL2.out x (List.mem_of_mem_take hx))
          rw [List.length_take] at this
          have h2 : min k l.length * 8198 ≤ 4096 * 8198 := Nat.mul_le_mul_right _ (by omega)
          omega
        have HNx : Hid (wbF 0 [] (l.take (k + 1)) = P ++ pb k AH X) := by
          unfold Hid
          rw [HTk.out, wbF_snoc, ← HPp.out, ← HAH.out, List.length_take, Nat.zero_add, Nat.min_eq_left hk]
        have HNl : Hid (lastK [] (l.take (k + 1)) = X.1) := by unfold Hid; rw [HTk.out, lastK_snoc]
        rw [← HAH.out] at HA
        rw [← HPp.out] at HO
        clear HTk HAH HPp
        obtain ⟨w1, HW1⟩ := hid_ex (wo.alloc (.cells #[.slice ak X.1.length ck, .slice av X.2.length cv] 53))
        have HB1 : Hid (Below w.heap.size w w1) := by rw [HW1.out]; exact HWo.out.alloc HWo.out.size _
        have HZ1 : Hid (w1.heap[wo.heap.size]? = some (.cells #[.slice ak X.1.length ck, .slice av X.2.length cv] 53)) := by rw [HW1.out]; exact World.alloc_heap_new _ _
        have HO1 : Hid (Own w1 w.heap.size u5 P) := by rw [HW1.out]; exact HO.out.alloc _
        obtain ⟨aa, ca, rfl, hma⟩ := HA.out.form
        clear HO HWo
        go_wp2_with fail
        rw [← HW1.out]
        refine (saved_any k (by omega) _ _ AH X.1 _ (HA.out.below HB1.out) (HRk.out.below HB1.out)).mono ?_
        rintro e w2 ⟨rfl, hb2⟩
        have HB2 : Hid (Below w.heap.size w w2) := HB1.out.trans (hb2.mono HB1.out.size)
        have HZ2 : Hid (w2.heap[wo.heap.size]? = some (.cells #[.slice ak X.1.length ck, .slice av X.2.length cv] 53)) := (hb2.block _ (Array.getElem?_eq_some_iff.1 HZ1.out).1).trans HZ1.out
        have HO2 : Hid (Own w2 w.heap.size u5 P) := HO1.out.below hb2
        clear hb2 HB1 HZ1 HO1 HW1 c0 c1
        obtain ⟨s, HS⟩ := hid_ex (svd k AH X.1)
        have hs1 : s ≤ X.1.length := by rw [HS.out]; exact (svd_le _ _ _).2
        rw [← HS.out]
        obtain ⟨m, hmm⟩ : ∃ m : Nat, (X.1.length : Int) - (s : Int) = (m : Int) := ⟨X.1.length - s, by omega⟩
        have HPB : Hid (pb k AH X = s3 s m X.2.length 3 ++ X.1.drop s ++ X.2) := by
          unfold Hid pb
          rw [← HS.out, show X.1.length - s = m by omega]
          simp [s3]
        obtain ⟨ad, cd, hsl, hrd⟩ := sl_from HRk.out hs1
        have HSL : Hid _ := hsl
        have HRd : Hid (Reads w (.slice ad (X.1.length - s) cd) (X.1.drop s)) := hrd
        clear hsl hrd
        have z0 := cell_rw HZ2.out 0 (by simp)
        have z1 := cell_rw HZ2.out 1 (by simp)
        simp only [List.getElem_toArray, List.getElem_cons_succ, List.getElem_cons_zero] at z0 z1
        go_wp2_with fail
        clear z0 z1
        go_loopw [5, 39] (fun o i wi => ∃ j : Nat, j ≤ 3 ∧ i = .int .i64 (j : Int) ∧ Hid (Own wi w.heap.size o (P ++ s3 s m X.2.length j)) ∧ Hid (wi.heap[wo.heap.size]? = some (.cells #[.slice ak X.1.length ck, .slice av X.2.length cv] 53)) ∧ Hid (Below w.heap.size w wi)) (fun _ i _ => 3 - (intOf i).toNat)
        case atStart => exact ⟨0, by omega, rfl, by rw [s3, List.append_nil]; exact HO2, HZ2, HB2⟩
        case round =>
          obtain ⟨j, hj, rfl, HOi, HZi, HBi⟩ := hrel
          clear HO2 HZ2 HB2
          obtain rfl | rfl | rfl | rfl : j = 0 ∨ j = 1 ∨ j = 2 ∨ j = 3 := by omega
          · have hx := idx3_0 (s : Int) (m : Int) (X.2.length : Int)
            go_wp2_with fail
            clear hx
            refine (short_any s (by omega) _).mono ?_
            rintro e w5 ⟨v5, rfl, ho5, hb5⟩
            have HB5 : Hid (Below w.heap.size w w5) := HBi.out.trans (hb5.mono HBi.out.size)
            have HZ5 : Hid (w5.heap[wo.heap.size]? = some (.cells #[.slice ak X.1.length ck, .slice av X.2.length cv] 53)) := (hb5.block _ (Array.getElem?_eq_some_iff.1 HZi.out).1).trans HZi.out
            have HO5 : Hid (Own w5 w.heap.size u5 (P ++ s3 s m X.2.length 0)) := HOi.out.below hb5
            have HR5 : Hid (Reads w5 v5 (sh s)) := reads_own ho5
            clear hb5 ho5 HBi HZi HOi
            have HM : Hid (P ++ s3 s m X.2.length 1 = P ++ s3 s m X.2.length 0 ++ sh s) := by simp [Hid, s3]
            have hl5 := s3_len (s := s) (m := m) (v := X.2.length) (by omega) (by omega) (by omega) 0
            have hl6 := sh2 (n := s) (by omega)
            have hsz5 := HB5.out.size
            go_wp2_with (at_builtin; refine wpList_appK rfl _ _ rfl w.heap.size _ _ _ _ _ HM.out rfl rfl HO5.out HR5.out (by rw [List.length_append]; omega) hsz5 ?_)
            intro v6 w6 ho6 HB6 HK6
            have HO6 : Hid (Own w6 w.heap.size v6 (P ++ s3 s m X.2.length 1)) := ho6
            have HZ6 : Hid (w6.heap[wo.heap.size]? = some (.cells #[.slice ak X.1.length ck, .slice av X.2.length cv] 53)) := HK6.out _ _ _ _ (by decide) HZ5.out
            have HW6 : Hid (Below w.heap.size w w6) := HB5.out.trans HB6.out
            clear ho6 HB6 HK6 HB5 HZ5 HO5 HR5 HM hl5 hl6 hsz5
            go_wp2_with fail
            go_roundw
            case rel => exact ⟨1, by omega, by go_num, HO6, HZ6, HW6⟩
            case measure => simp [intOf]
          · have hx := idx3_1 (s : Int) (m : Int) (X.2.length : Int)
            go_wp2_with fail
            clear hx
            refine (short_any m (by omega) _).mono ?_
            rintro e w5 ⟨v5, rfl, ho5, hb5⟩
            have HB5 : Hid (Below w.heap.size w w5) := HBi.out.trans (hb5.mono HBi.out.size)
            have HZ5 : Hid (w5.heap[wo.heap.size]? = some (.cells #[.slice ak X.1.length ck, .slice av X.2.length cv] 53)) := (hb5.block _ (Array.getElem?_eq_some_iff.1 HZi.out).1).trans HZi.out
            have HO5 : Hid (Own w5 w.heap.size u5 (P ++ s3 s m X.2.length 1)) := HOi.out.below hb5
            have HR5 : Hid (Reads w5 v5 (sh m)) := reads_own ho5
            clear hb5 ho5 HBi HZi HOi
            have HM : Hid (P ++ s3 s m X.2.length 2 = P ++ s3 s m X.2.length 1 ++ sh m) := by simp [Hid, s3]
            have hl5 := s3_len (s := s) (m := m) (v := X.2.length) (by omega) (by omega) (by omega) 1
            have hl6 := sh2 (n := m) (by omega)
            have hsz5 := HB5.out.size
            go_wp2_with (at_builtin; refine wpList_appK rfl _ _ rfl w.heap.size _ _ _ _ _ HM.out rfl rfl HO5.out HR5.out (by rw [List.length_append]; omega) hsz5 ?_)
            intro v6 w6 ho6 HB6 HK6
            have HO6 : Hid (Own w6 w.heap.size v6 (P ++ s3 s m X.2.length 2)) := ho6
            have HZ6 : Hid (w6.heap[wo.heap.size]? = some (.cells #[.slice ak X.1.length ck, .slice av X.2.length cv] 53)) := HK6.out _ _ _ _ (by decide) HZ5.out
            have HW6 : Hid (Below w.heap.size w w6) := HB5.out.trans HB6.out
            clear ho6 HB6 HK6 HB5 HZ5 HO5 HR5 HM hl5 hl6 hsz5
            go_wp2_with fail
            go_roundw
            case rel => exact ⟨2, by omega, by go_num, HO6, HZ6, HW6⟩
            case measure => simp [intOf]
          · have hx := idx3_2 (s : Int) (m : Int) (X.2.length : Int)
            go_wp2_with fail
            clear hx
            refine (short_any X.2.length (by omega) _).mono ?_
            rintro e w5 ⟨v5, rfl, ho5, hb5⟩
            have HB5 : Hid (Below w.heap.size w w5) := HBi.out.trans (hb5.mono HBi.out.size)
            have HZ5 : Hid (w5.heap[wo.heap.size]? = some (.cells #[.slice ak X.1.length ck, .slice av X.2.length cv] 53)) := (hb5.block _ (Array.getElem?_eq_some_iff.1 HZi.out).1).trans HZi.out
            have HO5 : Hid (Own w5 w.heap.size u5 (P ++ s3 s m X.2.length 2)) := HOi.out.below hb5
            have HR5 : Hid (Reads w5 v5 (sh X.2.length)) := reads_own ho5
            clear hb5 ho5 HBi HZi HOi
            have HM : Hid (P ++ s3 s m X.2.length 3 = P ++ s3 s m X.2.length 2 ++ sh X.2.length) := by simp [Hid, s3]
            have hl5 := s3_len (s := s) (m := m) (v := X.2.length) (by omega) (by omega) (by omega) 2
            have hl6 := sh2 (n := X.2.length) (by omega)
            have hsz5 := HB5.out.size
            go_wp2_with (at_builtin; refine wpList_appK rfl _ _ rfl w.heap.size _ _ _ _ _ HM.out rfl rfl HO5.out HR5.out (by rw [List.length_append]; omega) hsz5 ?_)
            intro v6 w6 ho6 HB6 HK6
            have HO6 : Hid (Own w6 w.heap.size v6 (P ++ s3 s m X.2.length 3)) := ho6
            have HZ6 : Hid (w6.heap[wo.heap.size]? = some (.cells #[.slice ak X.1.length ck, .slice av X.2.length cv] 53)) := HK6.out _ _ _ _ (by decide) HZ5.out
            have HW6 : Hid (Below w.heap.size w w6) := HB5.out.trans HB6.out
            clear ho6 HB6 HK6 HB5 HZ5 HO5 HR5 HM hl5 hl6 hsz5
            go_wp2_with fail
            go_roundw
            case rel => exact ⟨3, by omega, by go_num, HO6, HZ6, HW6⟩
            case measure => simp [intOf]
          · obtain ⟨S3, HS3⟩ := hid_ex (s3 s m X.2.length 3)
            have hl3 : S3.length ≤ 6 := by rw [HS3.out]; exact s3_len (by omega) (by omega) (by omega) 3
            rw [← HS3.out] at HOi HPB
            have hsl := HSL.out
            have z0 := cell_rw HZi.out 0 (by simp)
            simp only [List.getElem_toArray, List.getElem_cons_zero] at z0
            have hszi := HBi.out.size
            have hrd := HRd.out.below HBi.out
            have hdl : (X.1.drop s).length ≤ 4096 := by simp; omega
            go_wp2_with (at_builtin; refine wpList_appK rfl _ _ rfl w.heap.size _ _ (P ++ S3) (X.1.drop s) _ rfl rfl rfl HOi.out hrd (by rw [List.length_append]; omega) hszi ?_)
            intro v6 w6 ho6 HB6 HK6
            have HO6 : Hid (Own w6 w.heap.size v6 (P ++ S3 ++ X.1.drop s)) := by rw [List.append_assoc]; exact ho6
            have HZ6 : Hid (w6.heap[wo.heap.size]? = some (.cells #[.slice ak X.1.length ck, .slice av X.2.length cv] 53)) := HK6.out _ _ _ _ (by decide) HZi.out
            have HW6 : Hid (Below w.heap.size w w6) := HBi.out.trans HB6.out
            clear ho6 HB6 HK6 HBi HZi HOi hsl z0 hszi hrd HSL HRd
            have z1 := cell_rw HZ6.out 1 (by simp)
            simp only [List.getElem_toArray, List.getElem_cons_succ, List.getElem_cons_zero] at z1
            have hsz6 := HW6.out.size
            have hrv := HRv.out.below HW6.out
            go_wp2_with (at_builtin; refine wpList_appK rfl _ _ rfl w.heap.size _ _ (P ++ S3 ++ X.1.drop s) X.2 _ rfl rfl rfl HO6.out hrv (by rw [List.length_append, List.length_append]; omega) hsz6 ?_)
            intro v7 w7 ho7 HB7 HK7
            have HO7 : Hid (Own w7 w.heap.size v7 (wbF 0 [] (l.take (k + 1)))) := by
              rw [HNx.out, HPB.out]; simp only [List.append_assoc]; exact ho7
            have HZ7 : Hid (w7.heap[wo.heap.size]? = some (.cells #[.slice ak X.1.length ck, .slice av X.2.length cv] 53)) := HK7.out _ _ _ _ (by decide) HZ6.out
            have HW7 : Hid (Below w.heap.size w w7) := HW6.out.trans HB7.out
            clear ho7 HB7 HK7 HW6 HZ6 HO6 z1 hsz6 hrv
            have z0 := cell_rw HZ7.out 0 (by simp)
            simp only [List.getElem_toArray, List.getElem_cons_zero] at z0
            go_wp2_with fail
            go_roundw
            case rel => exact ⟨k + 1, by omega, by go_num, HO7, by rw [HNl.out]; exact HRk, HW7⟩
            case measure => simp [intOf]; omega
      · go_wp2_with fail
        go_ret2
        have hkl : k = l.length := by omega
        rw [hkl, List.take_length] at HO
        rw [HM0.out, HW.out]
        exact ⟨_, rfl, HO.out, HWo.out⟩
  · go_wp2_with fail
    go_ret2
    refine ⟨_, rfl, ?_, HB0.out⟩
    unfold wrB
    rw [if_neg hok]
    exact Own.nil _ _
end Go.Proofs.Ytlpjdfgknmfmnaa
