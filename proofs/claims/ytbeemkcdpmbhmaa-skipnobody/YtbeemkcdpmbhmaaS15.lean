/- What the fixed calls of layer 8's 'alive' come to. -/
import Derived.Test.YtbeemkcdpmbhmaaS14
import Derived.Lib.SmallJoins
namespace Go.Proofs.Ytbeemkcdpmbhmaa
open Go.RowKit Go.Joins

def ag1 : Ag := ⟨1, false, 5, 5, 5⟩
theorem env1 (kv : Value) : env kv ag1 = .agg #[kv, .int .u64 1, .bool false, .int .i64 0, .int .u64 5, .int .i64 5, .int .i64 5] := rfl
theorem envZ : env (.slice none 0 0) agZ = .agg #[.slice none 0 0, .int .u64 0, .bool false, .int .i64 0, .int .u64 0, .int .i64 0, .int .i64 0] := rfl
theorem pE1 : putE [] [98] ag1 = [([98], ag1)] := rfl
theorem pE2 : putE [([98], ag1)] [97] ag1 = [([97], ag1), ([98], ag1)] := rfl
theorem pE3 : putE [([97], ag1), ([98], ag1)] [98] ag1 = [([97], ag1), ([98], mrg ag1 ag1)] := rfl
theorem mp1 (h : Int) (h1 : 1 ≤ h) (h2 : h ≤ 8) : mpF false h 1 ag1 = 0 := by
  unfold mpF
  rw [if_neg (by omega), if_neg (by simp), if_neg (by omega), if_neg (by simp [ag1, rightB])]
theorem mpZ (h : Int) (h1 : 1 ≤ h) (h2 : h ≤ 8) : mpF false h 0 agZ = 40 := by
  unfold mpF
  rw [if_neg (by omega), if_neg (by simp), if_pos (by omega)]
theorem reads_one (w1 : World) (x : UInt8) : Reads (w1.alloc (.cells #[.int .u8 (x.toNat : Int)] 5 (1, 2))) (.slice (some ⟨w1.heap.size, 0, none⟩) 1 1) [x] := by
  refine .inr ⟨w1.heap.size, 0, 1, rfl, by simp, by simp, by simp [maxLen], by simp, ?_⟩
  intro j hj
  have hj' : j < 1 := hj
  match j, hj' with
  | 0, _ => (rw [Nat.zero_add, cell_alloc_mark_at _ _ _ _ _ _ rfl]; rfl)
theorem two_of {α : Type} : ∀ {xs : List α}, xs.length = 2 → ∃ a b, xs = [a, b]
  | [a, b], _ => ⟨a, b, rfl⟩
set_option maxRecDepth 100000 in
set_option maxHeartbeats 1000000 in
theorem alive_any (w : World) : Calls Try.prog 6 #[] w fun e w' => e = .returned (.bool true) ∧ Below w.heap.size w w' := by
  go_enter Try.func6, Try.ntmps6
  go_wp2_with fail
  refine (new_any _).mono ?_
  rintro e w1 ⟨L0, rfl, hs1, hb1⟩
  have HS1 : Hid (SK w1 w.heap.size L0 [] false) := hs1
  have HB1 : Hid (Below w.heap.size w w1) := hb1
  clear hs1 hb1
  obtain ⟨w2, HW2⟩ := hid_ex (w1.alloc (.cells #[.int .u64 1, .bool false, .int .i64 0, .int .u64 5, .int .i64 5, .int .i64 5] 34))
  have hal2 : Below w1.heap.size w1 w2 := by rw [HW2.out]; exact (Below.refl _ _).alloc (Nat.le_refl _) _
  have HB2 : Hid (Below w.heap.size w w2) := HB1.out.trans (hal2.mono HB1.out.size)
  have HS2 : Hid (SK w2 w.heap.size L0 [] false) := HS1.out.below hal2
  have HO2 : Hid (w2.heap[w1.heap.size]? = some (.cells #[.int .u64 1, .bool false, .int .i64 0, .int .u64 5, .int .i64 5, .int .i64 5] 34)) := by rw [HW2.out]; exact World.alloc_heap_new _ _
  have hsz2 : w2.heap.size = w1.heap.size + 1 := by rw [HW2.out]; simp
  have hcv := run_convert_bytes_const_at (P := Try.prog) (w1.alloc (.cells #[.int .u64 1, .bool false, .int .i64 0, .int .u64 5, .int .i64 5, .int .i64 5] 34)) 29 5 #[.int .u8 98] 1 1 (w1.heap.size + 1) (by simp) Try.underlying29 Try.underlying5
  clear hal2
  go_wp2_with fail
  rw [← HW2.out, ← hsz2]
  have hal := (Below.refl w2.heap.size w2).alloc (Nat.le_refl _) (.cells #[.int .u8 98] 5 (1, 2))
  refine (put_any L0 [] false _ [98] ag1 3 _ w.heap.size (Nat.le_trans HB2.out.size hal.size) (HS2.out.below hal) (reads_one w2 98) ⟨by decide, by decide⟩ (by simp)).mono ?_
  rintro e w3 ⟨rfl, hs, hb, hk⟩
  rw [show ([98] : List UInt8).length = 1 from rfl, mp1 3 (by decide) (by decide), if_pos rfl, pE1] at hs
  rw [show ([98] : List UInt8).length = 1 from rfl, mp1 3 (by decide) (by decide)]
  have HSw3 : Hid (SK w3 w.heap.size L0 [([98], ag1)] false) := hs
  have HBw3 : Hid (Below w.heap.size w w3) := (HB2.out.trans (hal.mono HB2.out.size)).trans hb
  have HOw3 : Hid (w3.heap[w1.heap.size]? = some (.cells #[.int .u64 1, .bool false, .int .i64 0, .int .u64 5, .int .i64 5, .int .i64 5] 34)) := hk _ _ _ _ (by decide) (by decide) ((hal.block _ (Array.getElem?_eq_some_iff.1 HO2.out).1).trans HO2.out)
  clear hs hb hk hal hcv
  have hcv := run_convert_bytes_const_at (P := Try.prog) w3 29 5 #[.int .u8 97] 1 1 w3.heap.size rfl Try.underlying29 Try.underlying5
  have HCR : Hid (w1.heap.size < w3.heap.size) := (Array.getElem?_eq_some_iff.1 HOw3.out).1
  have hcr := HCR.out
  obtain ⟨o0, _⟩ := cell_row HOw3.out 0 (by simp)
  obtain ⟨o1, _⟩ := cell_row HOw3.out 1 (by simp)
  obtain ⟨o2, _⟩ := cell_row HOw3.out 2 (by simp)
  obtain ⟨o3, _⟩ := cell_row HOw3.out 3 (by simp)
  obtain ⟨o4, _⟩ := cell_row HOw3.out 4 (by simp)
  obtain ⟨o5, _⟩ := cell_row HOw3.out 5 (by simp)
  simp only [List.getElem_toArray, List.getElem_cons_succ, List.getElem_cons_zero] at o0 o1 o2 o3 o4 o5
  go_wp2_with fail
  have hal := (Below.refl w3.heap.size w3).alloc (Nat.le_refl _) (.cells #[.int .u8 97] 5 (1, 2))
  refine (put_any L0 [([98], ag1)] false _ [97] ag1 1 _ w.heap.size (Nat.le_trans HBw3.out.size hal.size) (HSw3.out.below hal) (reads_one w3 97) ⟨by decide, by decide⟩ (by simp)).mono ?_
  rintro e w4 ⟨rfl, hs, hb, hk⟩
  rw [show ([97] : List UInt8).length = 1 from rfl, mp1 1 (by decide) (by decide), if_pos rfl, pE2] at hs
  rw [show ([97] : List UInt8).length = 1 from rfl, mp1 1 (by decide) (by decide)]
  have HSw4 : Hid (SK w4 w.heap.size L0 [([97], ag1), ([98], ag1)] false) := hs
  have HBw4 : Hid (Below w.heap.size w w4) := (HBw3.out.trans (hal.mono HBw3.out.size)).trans hb
  have HOw4 : Hid (w4.heap[w1.heap.size]? = some (.cells #[.int .u64 1, .bool false, .int .i64 0, .int .u64 5, .int .i64 5, .int .i64 5] 34)) := hk _ _ _ _ (by decide) (by decide) ((hal.block _ (Array.getElem?_eq_some_iff.1 HOw3.out).1).trans HOw3.out)
  clear hs hb hk hal hcv
  clear o0 o1 o2 o3 o4 o5 hcr HCR
  have hcv := run_convert_bytes_const_at (P := Try.prog) w4 29 5 #[.int .u8 98] 1 1 w4.heap.size rfl Try.underlying29 Try.underlying5
  have HCR : Hid (w1.heap.size < w4.heap.size) := (Array.getElem?_eq_some_iff.1 HOw4.out).1
  have hcr := HCR.out
  obtain ⟨o0, _⟩ := cell_row HOw4.out 0 (by simp)
  obtain ⟨o1, _⟩ := cell_row HOw4.out 1 (by simp)
  obtain ⟨o2, _⟩ := cell_row HOw4.out 2 (by simp)
  obtain ⟨o3, _⟩ := cell_row HOw4.out 3 (by simp)
  obtain ⟨o4, _⟩ := cell_row HOw4.out 4 (by simp)
  obtain ⟨o5, _⟩ := cell_row HOw4.out 5 (by simp)
  simp only [List.getElem_toArray, List.getElem_cons_succ, List.getElem_cons_zero] at o0 o1 o2 o3 o4 o5
  go_wp2_with fail
  have hal := (Below.refl w4.heap.size w4).alloc (Nat.le_refl _) (.cells #[.int .u8 98] 5 (1, 2))
  refine (put_any L0 [([97], ag1), ([98], ag1)] false _ [98] ag1 8 _ w.heap.size (Nat.le_trans HBw4.out.size hal.size) (HSw4.out.below hal) (reads_one w4 98) ⟨by decide, by decide⟩ (by simp)).mono ?_
  rintro e w5 ⟨rfl, hs, hb, hk⟩
  rw [show ([98] : List UInt8).length = 1 from rfl, mp1 8 (by decide) (by decide), if_pos rfl, pE3] at hs
  rw [show ([98] : List UInt8).length = 1 from rfl, mp1 8 (by decide) (by decide)]
  have HSw5 : Hid (SK w5 w.heap.size L0 [([97], ag1), ([98], mrg ag1 ag1)] false) := hs
  have HBw5 : Hid (Below w.heap.size w w5) := (HBw4.out.trans (hal.mono HBw4.out.size)).trans hb
  have HOw5 : Hid (w5.heap[w1.heap.size]? = some (.cells #[.int .u64 1, .bool false, .int .i64 0, .int .u64 5, .int .i64 5, .int .i64 5] 34)) := hk _ _ _ _ (by decide) (by decide) ((hal.block _ (Array.getElem?_eq_some_iff.1 HOw4.out).1).trans HOw4.out)
  clear hs hb hk hal hcv
  clear o0 o1 o2 o3 o4 o5 hcr HCR
  go_wp2_with fail
  refine (all_any L0 _ false _ w.heap.size HSw5.out).mono ?_
  rintro e w6 ⟨v6, xs, rfl, he6, hm6, hb6⟩
  have HB6 : Hid (Below w.heap.size w w6) := HBw5.out.trans (hb6.mono HBw5.out.size)
  have HS6 : Hid (SK w6 w.heap.size L0 [([97], ag1), ([98], mrg ag1 ag1)] false) := HSw5.out.below hb6
  obtain ⟨x0, x1, rfl⟩ : ∃ x0 x1, xs = [x0, x1] := two_of (by have := congrArg List.length hm6; simpa using this)
  have hm0 : evE x0 = ([97], ag1) ∧ evE x1 = ([98], mrg ag1 ag1) := by simpa using hm6
  obtain ⟨xkv0, xk0, xa0⟩ := x0
  obtain ⟨xkv1, xk1, xa1⟩ := x1
  simp only [evE, Prod.mk.injEq] at hm0
  obtain ⟨⟨rfl, rfl⟩, rfl, rfl⟩ := hm0
  obtain ⟨av, cv, rfl, _, _, hat⟩ := he6.at
  obtain ⟨g, rfl, _, _, hcell⟩ := hat (by simp)
  have k0 := (hcell 0 (by simp) 0 (by decide)).1
  have k1 := (hcell 1 (by simp) 1 (by decide)).1
  simp [c7] at k0 k1
  have HR0 : Hid (Reads w6 xkv0 [97]) := (he6.2 _ (List.mem_cons_self ..)).reads
  obtain ⟨a0, c0, rfl, _⟩ := HR0.out.form
  have hcv : (convert 29 9 (.slice a0 1 c0)).run Try.prog w6 = .ok (.string ⟨[97].toArray⟩) w6 := reads_text HR0.out
  have hmc : (mrg ag1 ag1).c = 2 := rfl
  rw [hmc] at k1
  clear he6 hm6 hb6 hat hcell hmc
  go_wp2_with fail
  refine (len_any L0 _ false _ w.heap.size HS6.out).mono ?_
  rintro e w7 ⟨rfl, hw7⟩
  subst w7
  clear hcv k0 k1
  go_wp2_with fail
  refine (size_any L0 _ false _ w.heap.size HS6.out).mono ?_
  rintro e w7 ⟨rfl, hw7⟩
  subst w7
  rw [show sizE [(([97] : Ks), ag1), ([98], mrg ag1 ag1)] = 84 from rfl]
  go_wp2_with fail
  refine (put_any L0 _ false _ [] agZ 1 _ w.heap.size HB6.out.size HS6.out (.inl ⟨rfl, _, _, rfl, fun _ => rfl⟩) ⟨by decide, by decide⟩ (by simp)).mono ?_
  rintro e w8 ⟨rfl, _, hb8, _⟩
  rw [show ([] : List UInt8).length = 0 from rfl, mpZ 1 (by decide) (by decide)]
  have HB8 : Hid (Below w.heap.size w w8) := HB6.out.trans hb8
  clear hb8
  go_wp2_with fail
  go_ret
  exact ⟨rfl, HB8.out⟩
end Go.Proofs.Ytbeemkcdpmbhmaa
