/- AB3, joined. -/
import Derived.Test.YtlpjdfgknmfmnaaTZ0
import Derived.Test.YtlpjdfgknmfmnaaTF5
import Derived.RangeFuncRecord
/- The contract of agg.Read. -/
namespace Go.Proofs.Ytlpjdfgknmfmnaa
open Go.RowKit

def zsU (l : List UInt8) : List Int := l.map fun x => (x.toNat : Int)
theorem beval_from (l : List UInt8) : ∀ n : Int, (zsU l).foldl (fun n x => n * 256 + x) n = n * (256 : Int) ^ l.length + (bv l : Nat) := by
  induction l with
  | nil => intro n; simp [zsU, bv]
  | cons x l ih =>
    intro n
    show (zsU l).foldl _ (n * 256 + (x.toNat : Int)) = _
    have hx : ((x.toNat * 256 ^ l.length + bv l : Nat) : Int) = (x.toNat : Int) * (256 : Int) ^ l.length + (bv l : Nat) := by
      rw [Int.natCast_add, Int.natCast_mul, Int.natCast_pow]; rfl
    rw [ih, List.length_cons, bv, hx, Int.pow_succ]
    generalize (256 : Int) ^ l.length = q
    rw [Int.add_mul, Int.mul_assoc, Int.mul_comm 256 q, Int.add_assoc]
theorem beval_bv (l : List UInt8) : beval (zsU l) = (bv l : Nat) := by
  unfold beval; rw [beval_from]; simp
theorem zsU_bd (l : List UInt8) : ∀ x ∈ zsU l, 0 ≤ x ∧ x ≤ 255 := by
  intro x hx
  obtain ⟨y, _, rfl⟩ := List.mem_map.1 hx
  have := UInt8.toNat_lt y
  omega
theorem zsU_cell (l : List UInt8) (j : Nat) (h : j < l.length) : bc l[j] = .int .u8 ((zsU l).getD j 0) := by
  unfold bc zsU; simp [List.getD, h]
theorem wrd_any (v : Value) (p : List UInt8) (hp : p.length = 8) (w : World) (hR : Reads w v p) :
    Calls Try.prog 92 #[v] w fun e w' => e = .returned (.int .u64 ((bv p : Nat) : Int)) ∧ w' = w := by
  rcases hR with ⟨h, _⟩ | ⟨b, off, cap, rfl, h2, h3, h4, h5, h6⟩
  · rw [h] at hp; simp at hp
  · rw [hp, ← beval_bv]
    refine wordRead_any b off cap (zsU p) (by unfold zsU; simp [hp]) (zsU_bd p) w ?_
    intro i hi
    rw [h6 i (by omega), zsU_cell p i (by omega)]
theorem wrd16_any (v : Value) (p : List UInt8) (hp : p.length = 16) (w : World) (hR : Reads w v p) :
    Calls Try.prog 91 #[v] w fun e w' => e = .returned (.tuple #[.agg #[.int .i64 (w64 (bv (p.take 8))), .int .u64 ((bv (p.drop 8) : Nat) : Int)], .int .i64 0]) ∧ Below w.heap.size w w' := by
  rcases hR with ⟨h, _⟩ | ⟨b, off, cap, rfl, h2, h3, h4, h5, h6⟩
  · rw [h] at hp; simp at hp
  · rw [hp]
    have e1 : w64 (bv (p.take 8)) = IntKind.i64.wrap (beval ((zsU p).take 8)) := by
      unfold w64; rw [← beval_bv]; unfold zsU; rw [List.map_take]
    have e2 : ((bv (p.drop 8) : Nat) : Int) = beval ((zsU p).drop 8) := by
      rw [← beval_bv]; unfold zsU; rw [List.map_drop]
    rw [e1, e2]
    refine wideRead16 b off cap (zsU p) (by unfold zsU; simp [hp]) (zsU_bd p) (by omega) h4 w h5 ?_
    intro i hi
    rw [h6 i (by omega), zsU_cell p i (by omega)]
theorem set6' {w : World} {b : Nat} {T : TypeId} {x0 x1 x2 x3 x4 x5 : Value} (h : w.heap[b]? = some (.cells #[x0, x1, x2, x3, x4, x5] T)) (v0 v1 v2 v3 v4 v5 : Value) :
    ((((((w.setCell ⟨b, 0, none⟩ v0).setCell ⟨b, 1, none⟩ v1).setCell ⟨b, 2, none⟩ v2).setCell ⟨b, 3, none⟩ v3).setCell ⟨b, 4, none⟩ v4).setCell ⟨b, 5, none⟩ v5).heap[b]? = some (.cells #[v0, v1, v2, v3, v4, v5] T) := by
  have h0 := Go.heap_setCell_same w b 0 _ _ v0 h
  have h1 := Go.heap_setCell_same _ b 1 _ _ v1 h0
  have h2 := Go.heap_setCell_same _ b 2 _ _ v2 h1
  have h3 := Go.heap_setCell_same _ b 3 _ _ v3 h2
  have h4 := Go.heap_setCell_same _ b 4 _ _ v4 h3
  have h5 := Go.heap_setCell_same _ b 5 _ _ v5 h4
  simpa using h5
theorem below6' {w0 w : World} {n b : Nat} (h : Below n w0 w) (hb : n ≤ b) (v0 v1 v2 v3 v4 v5 : Value) :
    Below n w0 ((((((w.setCell ⟨b, 0, none⟩ v0).setCell ⟨b, 1, none⟩ v1).setCell ⟨b, 2, none⟩ v2).setCell ⟨b, 3, none⟩ v3).setCell ⟨b, 4, none⟩ v4).setCell ⟨b, 5, none⟩ v5) := (((((h.setCell hb _).setCell hb _).setCell hb _).setCell hb _).setCell hb _).setCell hb _
theorem res_rt {fn : Func} {p u : Tmp} {ty : TypeId} (h : fn.results = #[.cell p ty, .tmp u]) (tmps : Array Value) (w : World) (g : Nat) (cs : Array Value)
    (hp : tmps.getD p undef = .pointer (some ⟨g, 0, none⟩)) (hl : (loadVar ty ⟨g, 0, none⟩).run Try.prog w = .ok (.agg cs) w) :
    (results fn tmps).run Try.prog w = .ok (.tuple #[.agg cs, tmps.getD u undef]) w := by
  have hp' : tmps[p]?.getD undef = .pointer (some ⟨g, 0, none⟩) := by simpa using hp
  simp [results, h, hp', asAddr, hl]
theorem rdA_no {l : List UInt8} (h : ¬ (l.length = 41 ∧ rdG l)) : rdA l = aZ := by unfold rdA; rw [if_neg h]
theorem c_rw {w : World} {b : Nat} {cs : Array Value} {T : TypeId} (h : w.heap[b]? = some (.cells cs T)) (i : Nat) (hi : i < cs.size) : w.cell? ⟨b, i, none⟩ = some cs[i] := by
  simp [World.cell?, h, hi]
theorem f_rw {w : World} {b : Nat} {cs : Array Value} {T : TypeId} (h : w.heap[b]? = some (.cells cs T)) (i : Nat) : w.frozen? ⟨b, i, none⟩ = false := by
  simp [World.frozen?, h]
set_option maxRecDepth 100000 in
set_option maxHeartbeats 4000000 in
theorem aggRead_any (v : Value) (l : List UInt8) (w : World) (hR : Reads w v l) :
    Calls Try.prog 70 #[v] w fun e w' => e = .returned (.tuple #[agV (rdA l), .int .i64 (rdR l)]) ∧ Below w.heap.size w w' := by
  have HR : Hid (Reads w v l) := hR
  obtain ⟨ab, cb, rfl, hm⟩ := hR.form
  unfold maxLen at hm
  clear hR
  by_cases g1 : (l.length : Int) < 41
  · have e1 : rdA l = aZ := rdA_no (fun h => by omega)
    have e2 : rdR l = 10 := by unfold rdR; rw [if_pos (by omega)]
    rw [e1, e2, agVZ]
    go_enter Try.func70, Try.ntmps70
    go_wp2_with fail
    exact bodyPost_ret (res_rt rfl _ _ w.heap.size _ rfl (run_loadVar_row _ w.heap.size _ _ _ (0, 0) _ (World.alloc_heap_new _ _) Try.underlying41 rfl (by kernel_rfl))) rfl ⟨rfl, (Below.refl _ _).alloc (Nat.le_refl _) _⟩
  by_cases g2 : (41 : Int) < (l.length : Int)
  · have e1 : rdA l = aZ := rdA_no (fun h => by omega)
    have e2 : rdR l = 2 := by unfold rdR; rw [if_neg (by omega), if_pos (by omega)]
    rw [e1, e2, agVZ]
    go_enter Try.func70, Try.ntmps70
    go_wp2_with fail
    exact bodyPost_ret (res_rt rfl _ _ w.heap.size _ rfl (run_loadVar_row _ w.heap.size _ _ _ (0, 0) _ (World.alloc_heap_new _ _) Try.underlying41 rfl (by kernel_rfl))) rfl ⟨rfl, (Below.refl _ _).alloc (Nat.le_refl _) _⟩
  have hl : l.length = 41 := by omega
  have t8 : ∀ k, k + 8 ≤ 41 → ((l.drop k).take 8).length = 8 := fun k hk => by rw [List.length_take, List.length_drop]; omega
  obtain ⟨a1, f1, hs1, hr1⟩ := sl_part HR.out (c := 1) (d := 9) (by omega) (by omega)
  obtain ⟨a2, f2, hs2, hr2⟩ := sl_part HR.out (c := 9) (d := 25) (by omega) (by omega)
  obtain ⟨a3, f3, hs3, hr3⟩ := sl_part HR.out (c := 25) (d := 33) (by omega) (by omega)
  obtain ⟨a4, f4, hs4, hr4⟩ := sl_from HR.out (c := 33) (by omega)
  obtain ⟨bb, oo, rfl, hbl, hcc⟩ := HR.out.at 0 (by omega)
  have k1 : ∀ w', (Instr.slice 25 (.slice (some ⟨bb, oo, none⟩) 41 cb) (some (.int .i64 1)) (some (.int .i64 9)) none).run Try.prog w' = .ok (.slice a1 8 f1) w' := by rw [← hl]; exact hs1
  have k2 : ∀ w', (Instr.slice 25 (.slice (some ⟨bb, oo, none⟩) 41 cb) (some (.int .i64 9)) (some (.int .i64 25)) none).run Try.prog w' = .ok (.slice a2 16 f2) w' := by rw [← hl]; exact hs2
  have k3 : ∀ w', (Instr.slice 25 (.slice (some ⟨bb, oo, none⟩) 41 cb) (some (.int .i64 25)) (some (.int .i64 33)) none).run Try.prog w' = .ok (.slice a3 8 f3) w' := by rw [← hl]; exact hs3
  have k4 : ∀ w', (Instr.slice 25 (.slice (some ⟨bb, oo, none⟩) 41 cb) (some (.int .i64 33)) none none).run Try.prog w' = .ok (.slice a4 8 f4) w' := by
    have e : l.length - 33 = 8 := by omega
    rw [e] at hs4; rw [← hl]; exact hs4
  have HR1 : Hid (Reads w (.slice a1 8 f1) ((l.drop 1).take 8)) := by rw [List.drop_take] at hr1; exact hr1
  have HR2 : Hid (Reads w (.slice a2 16 f2) ((l.drop 9).take 16)) := by rw [List.drop_take] at hr2; exact hr2
  have HR3 : Hid (Reads w (.slice a3 8 f3) ((l.drop 25).take 8)) := by rw [List.drop_take] at hr3; exact hr3
  have HR4 : Hid (Reads w (.slice a4 8 f4) ((l.drop 33).take 8)) := by
    have e : l.length - 33 = 8 := by omega
    rw [e] at hr4
    rw [List.take_of_length_le (by rw [List.length_drop]; omega)]
    exact hr4
  have H16 : Hid (((l.drop 9).take 16).length = 16 ∧ ((l.drop 9).take 16).take 8 = (l.drop 9).take 8 ∧ ((l.drop 9).take 16).drop 8 = (l.drop 17).take 8) := by
    refine ⟨by rw [List.length_take, List.length_drop]; omega, ?_, ?_⟩
    · rw [List.take_take]; rfl
    · rw [List.drop_take, List.drop_drop]
  obtain ⟨x, HX⟩ := hid_ex l[0]
  have HX0 : Hid (l.getD 0 0 = x) := by rw [HX.out]; unfold Hid; simp [List.getD, hl]
  simp only [Nat.add_zero] at hcc
  rw [← HX.out] at hcc
  have hcx : w.cell? ⟨bb, oo, none⟩ = some (.int .u8 (x.toNat : Int)) := hcc
  obtain ⟨D, HD⟩ := hid_ex (decU l)
  obtain ⟨n1, HN1⟩ := hid_ex (bv ((l.drop 1).take 8))
  obtain ⟨n2, HN2⟩ := hid_ex (bv ((l.drop 9).take 8))
  obtain ⟨n3, HN3⟩ := hid_ex (bv ((l.drop 17).take 8))
  obtain ⟨n4, HN4⟩ := hid_ex (bv ((l.drop 25).take 8))
  obtain ⟨n5, HN5⟩ := hid_ex (bv ((l.drop 33).take 8))
  have b3 := bv8_lt (t8 17 (by omega))
  rw [← HN3.out] at b3
  have hwb := w64_bd n2
  have HDD : Hid (D = ⟨(n1 : Nat), x == 1, w64 n2 * 18446744073709551616 + (n3 : Nat), w64 n4, w64 n5⟩) := by
    unfold Hid
    rw [HD.out, HN1.out, HN2.out, HN3.out, HN4.out, HN5.out, ← HX0.out]; rfl
  have HDC : Hid (D.c = (n1 : Nat)) := by rw [HDD.out]; exact (rfl : _ = _)
  have HDO : Hid (D.o = ((x.toNat : Int) == 1)) := by
    rw [HDD.out]; unfold Hid; simp only
    by_cases h1 : x = 1
    · subst h1; rfl
    · have : ¬ (x.toNat : Int) = 1 := fun e => h1 (UInt8.toNat_inj.1 (by show x.toNat = 1; omega))
      rw [beq_eq_false_iff_ne.2 h1, beq_eq_false_iff_ne.2 this]
  obtain ⟨eh, el⟩ := hilo (w64 n2) ((n3 : Nat) : Int) hwb.1 hwb.2 (by omega) (by omega)
  have HDH : Hid (hi D.s = w64 n2) := by rw [HDD.out]; exact eh
  have HDL : Hid (lo D.s = (n3 : Nat)) := by rw [HDD.out]; exact el
  have HDN : Hid (D.mn = w64 n4) := by rw [HDD.out]; exact (rfl : _ = _)
  have HDX : Hid (D.mx = w64 n5) := by rw [HDD.out]; exact (rfl : _ = _)
  have HGOOD : Hid (x.toNat ≤ 1 → rightB D = true → rdA l = D ∧ rdR l = 0) := by
    intro h1 h2
    have hg : rdG l := ⟨by rw [HX0.out]; exact h1, by rw [← HD.out]; exact h2⟩
    refine ⟨?_, ?_⟩
    · unfold rdA; rw [if_pos ⟨hl, hg⟩, HD.out]
    · unfold rdR; rw [if_neg (by omega), if_neg (by omega), if_pos hg]
  have HBAD : Hid (¬ (x.toNat ≤ 1 ∧ rightB D = true) → rdA l = aZ ∧ rdR l = 3) := by
    intro h1
    have hg : ¬ rdG l := fun h => h1 ⟨by rw [← HX0.out]; exact h.1, by rw [HD.out]; exact h.2⟩
    refine ⟨?_, ?_⟩
    · unfold rdA; rw [if_neg (fun h => hg h.2)]
    · unfold rdR; rw [if_neg (by omega), if_neg (by omega), if_neg hg]
  have HT1 : Hid (((l.drop 1).take 8).length = 8) := t8 1 (by omega)
  have HT4 : Hid (((l.drop 25).take 8).length = 8) := t8 25 (by omega)
  have HT5 : Hid (((l.drop 33).take 8).length = 8) := t8 33 (by omega)
  have HRT : Hid (∀ w, Calls Try.prog 48 #[.agg #[.int .u64 D.c, .bool D.o, .int .i64 (hi D.s), .int .u64 (lo D.s), .int .i64 D.mn, .int .i64 D.mx]] w fun e w' => e = .returned (.bool (rightB D)) ∧ Below w.heap.size w w') := fun w => right_any D w
  obtain ⟨RD, HRD⟩ := hid_ex (rightB D)
  rw [← HRD.out] at HRT HGOOD HBAD
  obtain ⟨RA, HRA⟩ := hid_ex (agV (rdA l))
  obtain ⟨RR, HRR⟩ := hid_ex (rdR l)
  have HG2 : Hid (x.toNat ≤ 1 → RD = true → RA = .agg #[.int .u64 D.c, .bool D.o, .int .i64 (hi D.s), .int .u64 (lo D.s), .int .i64 D.mn, .int .i64 D.mx] ∧ RR = 0) := by
    intro h1 h2
    obtain ⟨q1, q2⟩ := HGOOD.out h1 h2
    rw [HRA.out, HRR.out, q1, q2]; exact ⟨rfl, rfl⟩
  have HB2 : Hid (¬ (x.toNat ≤ 1 ∧ RD = true) → RA = .agg #[.int .u64 0, .bool false, .int .i64 0, .int .u64 0, .int .i64 0, .int .i64 0] ∧ RR = 3) := by
    intro h1
    obtain ⟨q1, q2⟩ := HBAD.out h1
    rw [HRA.out, HRR.out, q1, q2, agVZ]; exact ⟨rfl, rfl⟩
  rw [← HRA.out, ← HRR.out]
  rw [hl]
  have hx255 := UInt8.toNat_lt x
  clear hs1 hs2 hs3 hs4 hr1 hr2 hr3 hr4 hcc g1 g2 hm t8 eh el hwb HGOOD HBAD HRA HRR HRD HDD HX HD b3 HR
  obtain ⟨w1, HW1⟩ := hid_ex (w.alloc (.cells #[.int .u64 0, .bool false, .int .i64 0, .int .u64 0, .int .i64 0, .int .i64 0] 41))
  have HB1 : Hid (Below w.heap.size w w1) := by rw [HW1.out]; exact (Below.refl _ _).alloc (Nat.le_refl _) _
  have HZ1 : Hid (w1.heap[w.heap.size]? = some (.cells #[.int .u64 0, .bool false, .int .i64 0, .int .u64 0, .int .i64 0, .int .i64 0] 41)) := by rw [HW1.out]; exact World.alloc_heap_new _ _
  go_enter Try.func70, Try.ntmps70
  go_wp2_with fail
  rw [← HW1.out]
  refine (wrd16_any _ _ H16.out.1 _ (HR2.out.below HB1.out)).mono ?_
  rw [H16.out.2.1, H16.out.2.2, ← HN2.out, ← HN3.out, ← HDH.out, ← HDL.out]
  rintro e w2 ⟨rfl, hb2⟩
  obtain ⟨w3, HW3⟩ := hid_ex (w2.alloc (.cells #[.int .i64 (hi D.s), .int .u64 (lo D.s)] 39))
  have h13 : Below w1.heap.size w1 w3 := by rw [HW3.out]; exact hb2.alloc hb2.size _
  have HB3 : Hid (Below w.heap.size w w3) := HB1.out.trans (h13.mono HB1.out.size)
  have HZ3 : Hid _ := (h13.block _ (Array.getElem?_eq_some_iff.1 HZ1.out).1).trans HZ1.out
  have HS3 : Hid (w3.heap[w2.heap.size]? = some (.cells #[.int .i64 (hi D.s), .int .u64 (lo D.s)] 39)) := by rw [HW3.out]; exact World.alloc_heap_new _ _
  have hbl3 : bb < w3.heap.size := Nat.lt_of_lt_of_le hbl HB3.out.size
  have HCX : Hid (w3.cell? ⟨bb, oo, none⟩ = some (.int .u8 (x.toNat : Int))) := (HB3.out.cell (p := ⟨bb, oo, none⟩) hbl).trans hcx
  have hwz : w.heap.size < w3.heap.size := (Array.getElem?_eq_some_iff.1 HZ3.out).1
  clear hb2 h13 HW1 HZ1 HB1 hcx
  go_wp2_with fail
  rw [← HW3.out]
  clear HW3
  refine wp_region_noPanic ?_
  refine wp_region_held_drew (S := (fun w' => Below w3.heap.size w3 w')) (by kernel_rfl) ?_ (fun hHeld => ?_)
  · exact (Below.refl _ _).drew
  refine tk (i := 0) (v := .slice (some ⟨bb, oo, none⟩) 41 cb) rfl ?_ ?_
  · intro w1 hSw; go_simp
  simp only [za, zc, Act.put, zd, ze, zf]
  refine tk (i := 1) (v := .slice a1 8 f1) rfl ?_ ?_
  · intro w1 hSw; go_simp
  simp only [za, zb, zc, Act.put, zd, ze, zf]
  refine tk (i := 3) (v := .slice (some ⟨bb, oo, none⟩) 41 cb) rfl ?_ ?_
  · intro w1 hSw; go_simp
  simp only [za, zb, zc, Act.put, zd, ze, zf]
  refine tk (i := 4) (v := .pointer (some ⟨bb, oo, none⟩)) rfl ?_ ?_
  · intro w1 hSw; go_simp
  simp only [za, zb, zc, Act.put, zd, ze, zf]
  refine tk (i := 5) (v := .int .u8 (x.toNat : Int)) rfl ?_ ?_
  · (intro w1 hSw; (try dsimp only at hSw); have hcy := (hSw.cell (p := ⟨bb, oo, none⟩) hbl3).trans HCX.out; go_simp)
  simp only [za, zb, zc, Act.put, zd, ze, zf]
  refine tk (i := 6) (v := .bool ((x.toNat : Int) == 1)) rfl ?_ ?_
  · intro w1 hSw; go_simp
  simp only [za, zb, zc, Act.put, zd, ze, zf]
  refine tk (i := 7) (v := .agg #[.int .i64 (hi D.s), .int .u64 (lo D.s)]) rfl ?_ ?_
  · (intro w1 hSw; (try dsimp only at hSw); have hxx := (hSw.block _ (Array.getElem?_eq_some_iff.1 HS3.out).1).trans HS3.out; have h0 := c_rw hxx 0 (by simp); have h1 := c_rw hxx 1 (by simp); simp only [List.getElem_toArray, List.getElem_cons_succ, List.getElem_cons_zero] at h0 h1; go_simp)
  simp only [za, zb, zc, Act.put, zd, ze, zf]
  refine tk (i := 8) (v := .slice (some ⟨bb, oo, none⟩) 41 cb) rfl ?_ ?_
  · intro w1 hSw; go_simp
  simp only [za, zb, zc, Act.put, zd, ze, zf]
  refine tk (i := 9) (v := .slice a3 8 f3) rfl ?_ ?_
  · intro w1 hSw; go_simp
  simp only [za, zb, zc, Act.put, zd, ze, zf]
  refine tk (i := 12) (v := .slice (some ⟨bb, oo, none⟩) 41 cb) rfl ?_ ?_
  · intro w1 hSw; go_simp
  simp only [za, zb, zc, Act.put, zd, ze, zf]
  refine tk (i := 13) (v := .slice a4 8 f4) rfl ?_ ?_
  · intro w1 hSw; go_simp
  simp only [za, zb, zc, Act.put, zd, ze, zf]
  refine wpAnyH_ready (rs := [2, 17]) (by kernel_rfl) (by simp) ?_
  refine AllReadyH.cons (o := _) rfl (fun K hK => ?_) (AllReadyH.cons (o := _) rfl (fun K hK => ?_) AllReadyH.nil)
  · go_simp
    refine (wrd_any _ _ HT1.out _ (HR1.out.below (HB3.out.trans (((Below.refl w3.heap.size w3).drew).mono HB3.out.size)))).mono ?_
    rw [← HN1.out]
    rintro e w' ⟨rfl, hw'⟩
    have hw' := hw'
    subst hw'
    refine hK.out _ _ ?_ (fun hHeld => ?_)
    · exact (Below.refl w3.heap.size w3).drew
    clear hK K
    refine wpAnyH_ready (rs := [10, 17]) (by kernel_rfl) (by simp) ?_
    refine AllReadyH.cons (o := _) rfl (fun K hK => ?_) (AllReadyH.cons (o := _) rfl (fun K hK => ?_) AllReadyH.nil)
    · go_simp
      refine (wrd_any _ _ HT4.out _ (HR3.out.below (HB3.out.trans (((Below.refl w3.heap.size w3).drew).mono HB3.out.size)))).mono ?_
      rw [← HN4.out]
      rintro e w' ⟨rfl, hw'⟩
      have hw' := hw'
      subst hw'
      refine hK.out _ _ ?_ (fun hHeld => ?_)
      · exact (Below.refl w3.heap.size w3).drew
      clear hK K
      refine tk (i := 11) (v := .int .i64 (w64 n4)) rfl ?_ ?_
      · (intro w1 hSw; (try dsimp only at hSw); go_simp; rfl)
      simp only [za, zb, zc, Act.put, zd, ze, zf]
      refine wpAnyH_ready (rs := [14, 17]) (by kernel_rfl) (by simp) ?_
      refine AllReadyH.cons (o := _) rfl (fun K hK => ?_) (AllReadyH.cons (o := _) rfl (fun K hK => ?_) AllReadyH.nil)
      · go_simp
        refine (wrd_any _ _ HT5.out _ (HR4.out.below (HB3.out.trans (((Below.refl w3.heap.size w3).drew).mono HB3.out.size)))).mono ?_
        rw [← HN5.out]
        rintro e w' ⟨rfl, hw'⟩
        have hw' := hw'
        subst hw'
        refine hK.out _ _ ?_ (fun hHeld => ?_)
        · exact (Below.refl w3.heap.size w3).drew
        clear hK K
        refine tk (i := 15) (v := .int .i64 (w64 n5)) rfl ?_ ?_
        · (intro w1 hSw; (try dsimp only at hSw); go_simp; rfl)
        simp only [za, zb, zc, Act.put, zd, ze, zf]
        rw [← HDO.out, ← HDC.out, ← HDN.out, ← HDX.out]
        refine tk (i := 16) (v := .agg #[.int .u64 D.c, .bool D.o, .int .i64 (hi D.s), .int .u64 (lo D.s), .int .i64 D.mn, .int .i64 D.mx]) rfl ?_ ?_
        · intro w1 hSw; go_simp
        simp only [za, zb, zc, Act.put, zd, ze, zf]
        refine wpAnyH_ready (rs := [17]) (by kernel_rfl) (by simp) ?_
        refine AllReadyH.cons (o := _) rfl (fun K hK => ?_) AllReadyH.nil
        go_simp
        refine hK.out _ _ ?_ (fun hHeld => ?_)
        · exact (Below.refl w3.heap.size w3).drew.alloc (Nat.le_refl _) _
        clear hK K
        refine wpAnyH_ready (rs := [18]) (by kernel_rfl) (by simp) ?_
        refine AllReadyH.cons (o := _) rfl (fun K hK => ?_) AllReadyH.nil
        go_simp
        obtain ⟨w5, HW5⟩ := hid_ex ((w3.alloc (.cells #[.int .u64 D.c, .bool D.o, .int .i64 (hi D.s), .int .u64 (lo D.s), .int .i64 D.mn, .int .i64 D.mx] 41)).drew)
        rw [← HW5.out]
        have HB5 : Hid (Below w3.heap.size w3 w5) := by rw [HW5.out]; exact ((Below.refl _ _).alloc (Nat.le_refl _) _).drew
        have HX5 : Hid (w5.heap[w3.heap.size]? = some (.cells #[.int .u64 D.c, .bool D.o, .int .i64 (hi D.s), .int .u64 (lo D.s), .int .i64 D.mn, .int .i64 D.mx] 41)) := by rw [HW5.out]; exact World.alloc_heap_new _ _
        refine hK.out _ _ ?_ (fun hHeld => ?_)
        · exact HB5.out
        clear hK K
        clear hHeld HW5
        refine wpAnyH_done (by kernel_rfl) ?_ _
        refine NoPanic.normal ?_
        have HB6 : Hid (Below w.heap.size w w5) := HB3.out.trans (HB5.out.mono HB3.out.size)
        have HZ5 : Hid _ := (HB5.out.block _ (Array.getElem?_eq_some_iff.1 HZ3.out).1).trans HZ3.out
        have hc5 := (HB5.out.cell (p := ⟨bb, oo, none⟩) hbl3).trans HCX.out
        have c0 := c_rw HX5.out 0 (by simp)
        have c1 := c_rw HX5.out 1 (by simp)
        have c2 := c_rw HX5.out 2 (by simp)
        have c3 := c_rw HX5.out 3 (by simp)
        have c4 := c_rw HX5.out 4 (by simp)
        have c5 := c_rw HX5.out 5 (by simp)
        simp only [List.getElem_toArray, List.getElem_cons_succ, List.getElem_cons_zero] at c0 c1 c2 c3 c4 c5
        by_cases hx1 : (1 : Int) < (x.toNat : Int)
        · obtain ⟨q1, q2⟩ := HB2.out (fun h => by omega)
          subst q1 q2
          have f0 := f_rw HZ5.out 0
          have f1' := f_rw HZ5.out 1
          have f2' := f_rw HZ5.out 2
          have f3' := f_rw HZ5.out 3
          have f4' := f_rw HZ5.out 4
          have f5 := f_rw HZ5.out 5
          have z0 := c_rw HZ5.out 0 (by simp)
          have z1 := c_rw HZ5.out 1 (by simp)
          have z2 := c_rw HZ5.out 2 (by simp)
          have z3 := c_rw HZ5.out 3 (by simp)
          have z4 := c_rw HZ5.out 4 (by simp)
          have z5 := c_rw HZ5.out 5 (by simp)
          simp only [List.getElem_toArray, List.getElem_cons_succ, List.getElem_cons_zero] at z0 z1 z2 z3 z4 z5
          go_wp2_with fail
          exact bodyPost_ret (res_rt rfl _ _ w.heap.size _ rfl (run_loadVar_row _ w.heap.size _ _ _ (0, 0) _ (set6' HZ5.out _ _ _ _ _ _) Try.underlying41 rfl (by kernel_rfl))) rfl ⟨rfl, below6' HB6.out (Nat.le_refl _) _ _ _ _ _ _⟩
        · go_wp2_with fail
          refine (HRT.out _).mono ?_
          rintro e w6 ⟨rfl, hb6⟩
          have HB7 : Hid (Below w.heap.size w w6) := HB6.out.trans (hb6.mono HB6.out.size)
          have HZ6 : Hid _ := (hb6.block _ (Array.getElem?_eq_some_iff.1 HZ5.out).1).trans HZ5.out
          have HX6 : Hid _ := (hb6.block _ (Array.getElem?_eq_some_iff.1 HX5.out).1).trans HX5.out
          clear hb6 hc5 c0 c1 c2 c3 c4 c5
          have f0 := f_rw HZ6.out 0
          have f1' := f_rw HZ6.out 1
          have f2' := f_rw HZ6.out 2
          have f3' := f_rw HZ6.out 3
          have f4' := f_rw HZ6.out 4
          have f5 := f_rw HZ6.out 5
          have z0 := c_rw HZ6.out 0 (by simp)
          have z1 := c_rw HZ6.out 1 (by simp)
          have z2 := c_rw HZ6.out 2 (by simp)
          have z3 := c_rw HZ6.out 3 (by simp)
          have z4 := c_rw HZ6.out 4 (by simp)
          have z5 := c_rw HZ6.out 5 (by simp)
          have c0 := c_rw HX6.out 0 (by simp)
          have c1 := c_rw HX6.out 1 (by simp)
          have c2 := c_rw HX6.out 2 (by simp)
          have c3 := c_rw HX6.out 3 (by simp)
          have c4 := c_rw HX6.out 4 (by simp)
          have c5 := c_rw HX6.out 5 (by simp)
          simp only [List.getElem_toArray, List.getElem_cons_succ, List.getElem_cons_zero] at z0 z1 z2 z3 z4 z5 c0 c1 c2 c3 c4 c5
          cases RD with
          | false =>
            obtain ⟨q1, q2⟩ := HB2.out (fun h => by simp at h)
            subst q1 q2
            go_wp2_with fail
            exact bodyPost_ret (res_rt rfl _ _ w.heap.size _ rfl (run_loadVar_row _ w.heap.size _ _ _ (0, 0) _ (set6' HZ6.out _ _ _ _ _ _) Try.underlying41 rfl (by kernel_rfl))) rfl ⟨rfl, below6' HB7.out (Nat.le_refl _) _ _ _ _ _ _⟩
          | true =>
            obtain ⟨q1, q2⟩ := HG2.out (by omega) rfl
            subst q1 q2
            go_wp2_with fail
            exact bodyPost_ret (res_rt rfl _ _ w.heap.size _ rfl (run_loadVar_row _ w.heap.size _ _ _ (0, 0) _ (set6' HZ6.out _ _ _ _ _ _) Try.underlying41 rfl (by kernel_rfl))) rfl ⟨rfl, below6' HB7.out (Nat.le_refl _) _ _ _ _ _ _⟩
      · go_simp
        refine hK.out _ _ ?_ (fun hHeld => ?_)
        · exact (Below.refl w3.heap.size w3).drew.alloc (Nat.le_refl _) _
        clear hK K
        refine wpAnyH_ready (rs := [14]) (by kernel_rfl) (by simp) ?_
        refine AllReadyH.cons (o := _) rfl (fun K hK => ?_) AllReadyH.nil
        go_simp
        refine (wrd_any _ _ HT5.out _ (HR4.out.below (HB3.out.trans (((Below.refl w3.heap.size w3).drew.alloc (Nat.le_refl _) _).mono HB3.out.size)))).mono ?_
        rw [← HN5.out]
        rintro e w' ⟨rfl, hw'⟩
        have hw' := hw'
        subst hw'
        refine hK.out _ _ ?_ (fun hHeld => ?_)
        · exact (Below.refl w3.heap.size w3).drew.alloc (Nat.le_refl _) _
        clear hK K
        refine tk (i := 15) (v := .int .i64 (w64 n5)) rfl ?_ ?_
        · (intro w1 hSw; (try dsimp only at hSw); go_simp; rfl)
        simp only [za, zb, zc, Act.put, zd, ze, zf]
        rw [← HDO.out, ← HDC.out, ← HDN.out, ← HDX.out]
        refine tk (i := 16) (v := .agg #[.int .u64 D.c, .bool D.o, .int .i64 (hi D.s), .int .u64 (lo D.s), .int .i64 D.mn, .int .i64 D.mx]) rfl ?_ ?_
        · intro w1 hSw; go_simp
        simp only [za, zb, zc, Act.put, zd, ze, zf]
        refine wpAnyH_ready (rs := [18]) (by kernel_rfl) (by simp) ?_
        refine AllReadyH.cons (o := _) rfl (fun K hK => ?_) AllReadyH.nil
        go_simp
        obtain ⟨w5, HW5⟩ := hid_ex ((w3.alloc (.cells #[.int .u64 D.c, .bool D.o, .int .i64 (hi D.s), .int .u64 (lo D.s), .int .i64 D.mn, .int .i64 D.mx] 41)).drew)
        rw [← HW5.out]
        have HB5 : Hid (Below w3.heap.size w3 w5) := by rw [HW5.out]; exact ((Below.refl _ _).alloc (Nat.le_refl _) _).drew
        have HX5 : Hid (w5.heap[w3.heap.size]? = some (.cells #[.int .u64 D.c, .bool D.o, .int .i64 (hi D.s), .int .u64 (lo D.s), .int .i64 D.mn, .int .i64 D.mx] 41)) := by rw [HW5.out]; exact World.alloc_heap_new _ _
        refine hK.out _ _ ?_ (fun hHeld => ?_)
        · exact HB5.out
        clear hK K
        clear hHeld HW5
        refine wpAnyH_done (by kernel_rfl) ?_ _
        refine NoPanic.normal ?_
        have HB6 : Hid (Below w.heap.size w w5) := HB3.out.trans (HB5.out.mono HB3.out.size)
        have HZ5 : Hid _ := (HB5.out.block _ (Array.getElem?_eq_some_iff.1 HZ3.out).1).trans HZ3.out
        have hc5 := (HB5.out.cell (p := ⟨bb, oo, none⟩) hbl3).trans HCX.out
        have c0 := c_rw HX5.out 0 (by simp)
        have c1 := c_rw HX5.out 1 (by simp)
        have c2 := c_rw HX5.out 2 (by simp)
        have c3 := c_rw HX5.out 3 (by simp)
        have c4 := c_rw HX5.out 4 (by simp)
        have c5 := c_rw HX5.out 5 (by simp)
        simp only [List.getElem_toArray, List.getElem_cons_succ, List.getElem_cons_zero] at c0 c1 c2 c3 c4 c5
        by_cases hx1 : (1 : Int) < (x.toNat : Int)
        · obtain ⟨q1, q2⟩ := HB2.out (fun h => by omega)
          subst q1 q2
          have f0 := f_rw HZ5.out 0
          have f1' := f_rw HZ5.out 1
          have f2' := f_rw HZ5.out 2
          have f3' := f_rw HZ5.out 3
          have f4' := f_rw HZ5.out 4
          have f5 := f_rw HZ5.out 5
          have z0 := c_rw HZ5.out 0 (by simp)
          have z1 := c_rw HZ5.out 1 (by simp)
          have z2 := c_rw HZ5.out 2 (by simp)
          have z3 := c_rw HZ5.out 3 (by simp)
          have z4 := c_rw HZ5.out 4 (by simp)
          have z5 := c_rw HZ5.out 5 (by simp)
          simp only [List.getElem_toArray, List.getElem_cons_succ, List.getElem_cons_zero] at z0 z1 z2 z3 z4 z5
          go_wp2_with fail
          exact bodyPost_ret (res_rt rfl _ _ w.heap.size _ rfl (run_loadVar_row _ w.heap.size _ _ _ (0, 0) _ (set6' HZ5.out _ _ _ _ _ _) Try.underlying41 rfl (by kernel_rfl))) rfl ⟨rfl, below6' HB6.out (Nat.le_refl _) _ _ _ _ _ _⟩
        · go_wp2_with fail
          refine (HRT.out _).mono ?_
          rintro e w6 ⟨rfl, hb6⟩
          have HB7 : Hid (Below w.heap.size w w6) := HB6.out.trans (hb6.mono HB6.out.size)
          have HZ6 : Hid _ := (hb6.block _ (Array.getElem?_eq_some_iff.1 HZ5.out).1).trans HZ5.out
          have HX6 : Hid _ := (hb6.block _ (Array.getElem?_eq_some_iff.1 HX5.out).1).trans HX5.out
          clear hb6 hc5 c0 c1 c2 c3 c4 c5
          have f0 := f_rw HZ6.out 0
          have f1' := f_rw HZ6.out 1
          have f2' := f_rw HZ6.out 2
          have f3' := f_rw HZ6.out 3
          have f4' := f_rw HZ6.out 4
          have f5 := f_rw HZ6.out 5
          have z0 := c_rw HZ6.out 0 (by simp)
          have z1 := c_rw HZ6.out 1 (by simp)
          have z2 := c_rw HZ6.out 2 (by simp)
          have z3 := c_rw HZ6.out 3 (by simp)
          have z4 := c_rw HZ6.out 4 (by simp)
          have z5 := c_rw HZ6.out 5 (by simp)
          have c0 := c_rw HX6.out 0 (by simp)
          have c1 := c_rw HX6.out 1 (by simp)
          have c2 := c_rw HX6.out 2 (by simp)
          have c3 := c_rw HX6.out 3 (by simp)
          have c4 := c_rw HX6.out 4 (by simp)
          have c5 := c_rw HX6.out 5 (by simp)
          simp only [List.getElem_toArray, List.getElem_cons_succ, List.getElem_cons_zero] at z0 z1 z2 z3 z4 z5 c0 c1 c2 c3 c4 c5
          cases RD with
          | false =>
            obtain ⟨q1, q2⟩ := HB2.out (fun h => by simp at h)
            subst q1 q2
            go_wp2_with fail
            exact bodyPost_ret (res_rt rfl _ _ w.heap.size _ rfl (run_loadVar_row _ w.heap.size _ _ _ (0, 0) _ (set6' HZ6.out _ _ _ _ _ _) Try.underlying41 rfl (by kernel_rfl))) rfl ⟨rfl, below6' HB7.out (Nat.le_refl _) _ _ _ _ _ _⟩
          | true =>
            obtain ⟨q1, q2⟩ := HG2.out (by omega) rfl
            subst q1 q2
            go_wp2_with fail
            exact bodyPost_ret (res_rt rfl _ _ w.heap.size _ rfl (run_loadVar_row _ w.heap.size _ _ _ (0, 0) _ (set6' HZ6.out _ _ _ _ _ _) Try.underlying41 rfl (by kernel_rfl))) rfl ⟨rfl, below6' HB7.out (Nat.le_refl _) _ _ _ _ _ _⟩
    · go_simp
      refine hK.out _ _ ?_ (fun hHeld => ?_)
      · exact (Below.refl w3.heap.size w3).drew.alloc (Nat.le_refl _) _
      clear hK K
      refine wpAnyH_ready (rs := [10]) (by kernel_rfl) (by simp) ?_
      refine AllReadyH.cons (o := _) rfl (fun K hK => ?_) AllReadyH.nil
      go_simp
      refine (wrd_any _ _ HT4.out _ (HR3.out.below (HB3.out.trans (((Below.refl w3.heap.size w3).drew.alloc (Nat.le_refl _) _).mono HB3.out.size)))).mono ?_
      rw [← HN4.out]
      rintro e w' ⟨rfl, hw'⟩
      have hw' := hw'
      subst hw'
      refine hK.out _ _ ?_ (fun hHeld => ?_)
      · exact (Below.refl w3.heap.size w3).drew.alloc (Nat.le_refl _) _
      clear hK K
      refine tk (i := 11) (v := .int .i64 (w64 n4)) rfl ?_ ?_
      · (intro w1 hSw; (try dsimp only at hSw); go_simp; rfl)
      simp only [za, zb, zc, Act.put, zd, ze, zf]
      refine wpAnyH_ready (rs := [14]) (by kernel_rfl) (by simp) ?_
      refine AllReadyH.cons (o := _) rfl (fun K hK => ?_) AllReadyH.nil
      go_simp
      refine (wrd_any _ _ HT5.out _ (HR4.out.below (HB3.out.trans (((Below.refl w3.heap.size w3).drew.alloc (Nat.le_refl _) _).mono HB3.out.size)))).mono ?_
      rw [← HN5.out]
      rintro e w' ⟨rfl, hw'⟩
      have hw' := hw'
      subst hw'
      refine hK.out _ _ ?_ (fun hHeld => ?_)
      · exact (Below.refl w3.heap.size w3).drew.alloc (Nat.le_refl _) _
      clear hK K
      refine tk (i := 15) (v := .int .i64 (w64 n5)) rfl ?_ ?_
      · (intro w1 hSw; (try dsimp only at hSw); go_simp; rfl)
      simp only [za, zb, zc, Act.put, zd, ze, zf]
      rw [← HDO.out, ← HDC.out, ← HDN.out, ← HDX.out]
      refine tk (i := 16) (v := .agg #[.int .u64 D.c, .bool D.o, .int .i64 (hi D.s), .int .u64 (lo D.s), .int .i64 D.mn, .int .i64 D.mx]) rfl ?_ ?_
      · intro w1 hSw; go_simp
      simp only [za, zb, zc, Act.put, zd, ze, zf]
      refine wpAnyH_ready (rs := [18]) (by kernel_rfl) (by simp) ?_
      refine AllReadyH.cons (o := _) rfl (fun K hK => ?_) AllReadyH.nil
      go_simp
      obtain ⟨w5, HW5⟩ := hid_ex ((w3.alloc (.cells #[.int .u64 D.c, .bool D.o, .int .i64 (hi D.s), .int .u64 (lo D.s), .int .i64 D.mn, .int .i64 D.mx] 41)).drew)
      rw [← HW5.out]
      have HB5 : Hid (Below w3.heap.size w3 w5) := by rw [HW5.out]; exact ((Below.refl _ _).alloc (Nat.le_refl _) _).drew
      have HX5 : Hid (w5.heap[w3.heap.size]? = some (.cells #[.int .u64 D.c, .bool D.o, .int .i64 (hi D.s), .int .u64 (lo D.s), .int .i64 D.mn, .int .i64 D.mx] 41)) := by rw [HW5.out]; exact World.alloc_heap_new _ _
      refine hK.out _ _ ?_ (fun hHeld => ?_)
      · exact HB5.out
      clear hK K
      clear hHeld HW5
      refine wpAnyH_done (by kernel_rfl) ?_ _
      refine NoPanic.normal ?_
      have HB6 : Hid (Below w.heap.size w w5) := HB3.out.trans (HB5.out.mono HB3.out.size)
      have HZ5 : Hid _ := (HB5.out.block _ (Array.getElem?_eq_some_iff.1 HZ3.out).1).trans HZ3.out
      have hc5 := (HB5.out.cell (p := ⟨bb, oo, none⟩) hbl3).trans HCX.out
      have c0 := c_rw HX5.out 0 (by simp)
      have c1 := c_rw HX5.out 1 (by simp)
      have c2 := c_rw HX5.out 2 (by simp)
      have c3 := c_rw HX5.out 3 (by simp)
      have c4 := c_rw HX5.out 4 (by simp)
      have c5 := c_rw HX5.out 5 (by simp)
      simp only [List.getElem_toArray, List.getElem_cons_succ, List.getElem_cons_zero] at c0 c1 c2 c3 c4 c5
      by_cases hx1 : (1 : Int) < (x.toNat : Int)
      · obtain ⟨q1, q2⟩ := HB2.out (fun h => by omega)
        subst q1 q2
        have f0 := f_rw HZ5.out 0
        have f1' := f_rw HZ5.out 1
        have f2' := f_rw HZ5.out 2
        have f3' := f_rw HZ5.out 3
        have f4' := f_rw HZ5.out 4
        have f5 := f_rw HZ5.out 5
        have z0 := c_rw HZ5.out 0 (by simp)
        have z1 := c_rw HZ5.out 1 (by simp)
        have z2 := c_rw HZ5.out 2 (by simp)
        have z3 := c_rw HZ5.out 3 (by simp)
        have z4 := c_rw HZ5.out 4 (by simp)
        have z5 := c_rw HZ5.out 5 (by simp)
        simp only [List.getElem_toArray, List.getElem_cons_succ, List.getElem_cons_zero] at z0 z1 z2 z3 z4 z5
        go_wp2_with fail
        exact bodyPost_ret (res_rt rfl _ _ w.heap.size _ rfl (run_loadVar_row _ w.heap.size _ _ _ (0, 0) _ (set6' HZ5.out _ _ _ _ _ _) Try.underlying41 rfl (by kernel_rfl))) rfl ⟨rfl, below6' HB6.out (Nat.le_refl _) _ _ _ _ _ _⟩
      · go_wp2_with fail
        refine (HRT.out _).mono ?_
        rintro e w6 ⟨rfl, hb6⟩
        have HB7 : Hid (Below w.heap.size w w6) := HB6.out.trans (hb6.mono HB6.out.size)
        have HZ6 : Hid _ := (hb6.block _ (Array.getElem?_eq_some_iff.1 HZ5.out).1).trans HZ5.out
        have HX6 : Hid _ := (hb6.block _ (Array.getElem?_eq_some_iff.1 HX5.out).1).trans HX5.out
        clear hb6 hc5 c0 c1 c2 c3 c4 c5
        have f0 := f_rw HZ6.out 0
        have f1' := f_rw HZ6.out 1
        have f2' := f_rw HZ6.out 2
        have f3' := f_rw HZ6.out 3
        have f4' := f_rw HZ6.out 4
        have f5 := f_rw HZ6.out 5
        have z0 := c_rw HZ6.out 0 (by simp)
        have z1 := c_rw HZ6.out 1 (by simp)
        have z2 := c_rw HZ6.out 2 (by simp)
        have z3 := c_rw HZ6.out 3 (by simp)
        have z4 := c_rw HZ6.out 4 (by simp)
        have z5 := c_rw HZ6.out 5 (by simp)
        have c0 := c_rw HX6.out 0 (by simp)
        have c1 := c_rw HX6.out 1 (by simp)
        have c2 := c_rw HX6.out 2 (by simp)
        have c3 := c_rw HX6.out 3 (by simp)
        have c4 := c_rw HX6.out 4 (by simp)
        have c5 := c_rw HX6.out 5 (by simp)
        simp only [List.getElem_toArray, List.getElem_cons_succ, List.getElem_cons_zero] at z0 z1 z2 z3 z4 z5 c0 c1 c2 c3 c4 c5
        cases RD with
        | false =>
          obtain ⟨q1, q2⟩ := HB2.out (fun h => by simp at h)
          subst q1 q2
          go_wp2_with fail
          exact bodyPost_ret (res_rt rfl _ _ w.heap.size _ rfl (run_loadVar_row _ w.heap.size _ _ _ (0, 0) _ (set6' HZ6.out _ _ _ _ _ _) Try.underlying41 rfl (by kernel_rfl))) rfl ⟨rfl, below6' HB7.out (Nat.le_refl _) _ _ _ _ _ _⟩
        | true =>
          obtain ⟨q1, q2⟩ := HG2.out (by omega) rfl
          subst q1 q2
          go_wp2_with fail
          exact bodyPost_ret (res_rt rfl _ _ w.heap.size _ rfl (run_loadVar_row _ w.heap.size _ _ _ (0, 0) _ (set6' HZ6.out _ _ _ _ _ _) Try.underlying41 rfl (by kernel_rfl))) rfl ⟨rfl, below6' HB7.out (Nat.le_refl _) _ _ _ _ _ _⟩
  · go_simp
    refine hK.out _ _ ?_ (fun hHeld => ?_)
    · exact (Below.refl w3.heap.size w3).drew.alloc (Nat.le_refl _) _
    clear hK K
    refine wpAnyH_ready (rs := [2]) (by kernel_rfl) (by simp) ?_
    refine AllReadyH.cons (o := _) rfl (fun K hK => ?_) AllReadyH.nil
    go_simp
    refine (wrd_any _ _ HT1.out _ (HR1.out.below (HB3.out.trans (((Below.refl w3.heap.size w3).drew.alloc (Nat.le_refl _) _).mono HB3.out.size)))).mono ?_
    rw [← HN1.out]
    rintro e w' ⟨rfl, hw'⟩
    have hw' := hw'
    subst hw'
    refine hK.out _ _ ?_ (fun hHeld => ?_)
    · exact (Below.refl w3.heap.size w3).drew.alloc (Nat.le_refl _) _
    clear hK K
    refine wpAnyH_ready (rs := [10]) (by kernel_rfl) (by simp) ?_
    refine AllReadyH.cons (o := _) rfl (fun K hK => ?_) AllReadyH.nil
    go_simp
    refine (wrd_any _ _ HT4.out _ (HR3.out.below (HB3.out.trans (((Below.refl w3.heap.size w3).drew.alloc (Nat.le_refl _) _).mono HB3.out.size)))).mono ?_
    rw [← HN4.out]
    rintro e w' ⟨rfl, hw'⟩
    have hw' := hw'
    subst hw'
    refine hK.out _ _ ?_ (fun hHeld => ?_)
    · exact (Below.refl w3.heap.size w3).drew.alloc (Nat.le_refl _) _
    clear hK K
    refine tk (i := 11) (v := .int .i64 (w64 n4)) rfl ?_ ?_
    · (intro w1 hSw; (try dsimp only at hSw); go_simp; rfl)
    simp only [za, zb, zc, Act.put, zd, ze, zf]
    refine wpAnyH_ready (rs := [14]) (by kernel_rfl) (by simp) ?_
    refine AllReadyH.cons (o := _) rfl (fun K hK => ?_) AllReadyH.nil
    go_simp
    refine (wrd_any _ _ HT5.out _ (HR4.out.below (HB3.out.trans (((Below.refl w3.heap.size w3).drew.alloc (Nat.le_refl _) _).mono HB3.out.size)))).mono ?_
    rw [← HN5.out]
    rintro e w' ⟨rfl, hw'⟩
    have hw' := hw'
    subst hw'
    refine hK.out _ _ ?_ (fun hHeld => ?_)
    · exact (Below.refl w3.heap.size w3).drew.alloc (Nat.le_refl _) _
    clear hK K
    refine tk (i := 15) (v := .int .i64 (w64 n5)) rfl ?_ ?_
    · (intro w1 hSw; (try dsimp only at hSw); go_simp; rfl)
    simp only [za, zb, zc, Act.put, zd, ze, zf]
    rw [← HDO.out, ← HDC.out, ← HDN.out, ← HDX.out]
    refine tk (i := 16) (v := .agg #[.int .u64 D.c, .bool D.o, .int .i64 (hi D.s), .int .u64 (lo D.s), .int .i64 D.mn, .int .i64 D.mx]) rfl ?_ ?_
    · intro w1 hSw; go_simp
    simp only [za, zb, zc, Act.put, zd, ze, zf]
    refine wpAnyH_ready (rs := [18]) (by kernel_rfl) (by simp) ?_
    refine AllReadyH.cons (o := _) rfl (fun K hK => ?_) AllReadyH.nil
    go_simp
    obtain ⟨w5, HW5⟩ := hid_ex ((w3.alloc (.cells #[.int .u64 D.c, .bool D.o, .int .i64 (hi D.s), .int .u64 (lo D.s), .int .i64 D.mn, .int .i64 D.mx] 41)).drew)
    rw [← HW5.out]
    have HB5 : Hid (Below w3.heap.size w3 w5) := by rw [HW5.out]; exact ((Below.refl _ _).alloc (Nat.le_refl _) _).drew
    have HX5 : Hid (w5.heap[w3.heap.size]? = some (.cells #[.int .u64 D.c, .bool D.o, .int .i64 (hi D.s), .int .u64 (lo D.s), .int .i64 D.mn, .int .i64 D.mx] 41)) := by rw [HW5.out]; exact World.alloc_heap_new _ _
    refine hK.out _ _ ?_ (fun hHeld => ?_)
    · exact HB5.out
    clear hK K
    clear hHeld HW5
    refine wpAnyH_done (by kernel_rfl) ?_ _
    refine NoPanic.normal ?_
    have HB6 : Hid (Below w.heap.size w w5) := HB3.out.trans (HB5.out.mono HB3.out.size)
    have HZ5 : Hid _ := (HB5.out.block _ (Array.getElem?_eq_some_iff.1 HZ3.out).1).trans HZ3.out
    have hc5 := (HB5.out.cell (p := ⟨bb, oo, none⟩) hbl3).trans HCX.out
    have c0 := c_rw HX5.out 0 (by simp)
    have c1 := c_rw HX5.out 1 (by simp)
    have c2 := c_rw HX5.out 2 (by simp)
    have c3 := c_rw HX5.out 3 (by simp)
    have c4 := c_rw HX5.out 4 (by simp)
    have c5 := c_rw HX5.out 5 (by simp)
    simp only [List.getElem_toArray, List.getElem_cons_succ, List.getElem_cons_zero] at c0 c1 c2 c3 c4 c5
    by_cases hx1 : (1 : Int) < (x.toNat : Int)
    · obtain ⟨q1, q2⟩ := HB2.out (fun h => by omega)
      subst q1 q2
      have f0 := f_rw HZ5.out 0
      have f1' := f_rw HZ5.out 1
      have f2' := f_rw HZ5.out 2
      have f3' := f_rw HZ5.out 3
      have f4' := f_rw HZ5.out 4
      have f5 := f_rw HZ5.out 5
      have z0 := c_rw HZ5.out 0 (by simp)
      have z1 := c_rw HZ5.out 1 (by simp)
      have z2 := c_rw HZ5.out 2 (by simp)
      have z3 := c_rw HZ5.out 3 (by simp)
      have z4 := c_rw HZ5.out 4 (by simp)
      have z5 := c_rw HZ5.out 5 (by simp)
      simp only [List.getElem_toArray, List.getElem_cons_succ, List.getElem_cons_zero] at z0 z1 z2 z3 z4 z5
      go_wp2_with fail
      exact bodyPost_ret (res_rt rfl _ _ w.heap.size _ rfl (run_loadVar_row _ w.heap.size _ _ _ (0, 0) _ (set6' HZ5.out _ _ _ _ _ _) Try.underlying41 rfl (by kernel_rfl))) rfl ⟨rfl, below6' HB6.out (Nat.le_refl _) _ _ _ _ _ _⟩
    · go_wp2_with fail
      refine (HRT.out _).mono ?_
      rintro e w6 ⟨rfl, hb6⟩
      have HB7 : Hid (Below w.heap.size w w6) := HB6.out.trans (hb6.mono HB6.out.size)
      have HZ6 : Hid _ := (hb6.block _ (Array.getElem?_eq_some_iff.1 HZ5.out).1).trans HZ5.out
      have HX6 : Hid _ := (hb6.block _ (Array.getElem?_eq_some_iff.1 HX5.out).1).trans HX5.out
      clear hb6 hc5 c0 c1 c2 c3 c4 c5
      have f0 := f_rw HZ6.out 0
      have f1' := f_rw HZ6.out 1
      have f2' := f_rw HZ6.out 2
      have f3' := f_rw HZ6.out 3
      have f4' := f_rw HZ6.out 4
      have f5 := f_rw HZ6.out 5
      have z0 := c_rw HZ6.out 0 (by simp)
      have z1 := c_rw HZ6.out 1 (by simp)
      have z2 := c_rw HZ6.out 2 (by simp)
      have z3 := c_rw HZ6.out 3 (by simp)
      have z4 := c_rw HZ6.out 4 (by simp)
      have z5 := c_rw HZ6.out 5 (by simp)
      have c0 := c_rw HX6.out 0 (by simp)
      have c1 := c_rw HX6.out 1 (by simp)
      have c2 := c_rw HX6.out 2 (by simp)
      have c3 := c_rw HX6.out 3 (by simp)
      have c4 := c_rw HX6.out 4 (by simp)
      have c5 := c_rw HX6.out 5 (by simp)
      simp only [List.getElem_toArray, List.getElem_cons_succ, List.getElem_cons_zero] at z0 z1 z2 z3 z4 z5 c0 c1 c2 c3 c4 c5
      cases RD with
      | false =>
        obtain ⟨q1, q2⟩ := HB2.out (fun h => by simp at h)
        subst q1 q2
        go_wp2_with fail
        exact bodyPost_ret (res_rt rfl _ _ w.heap.size _ rfl (run_loadVar_row _ w.heap.size _ _ _ (0, 0) _ (set6' HZ6.out _ _ _ _ _ _) Try.underlying41 rfl (by kernel_rfl))) rfl ⟨rfl, below6' HB7.out (Nat.le_refl _) _ _ _ _ _ _⟩
      | true =>
        obtain ⟨q1, q2⟩ := HG2.out (by omega) rfl
        subst q1 q2
        go_wp2_with fail
        exact bodyPost_ret (res_rt rfl _ _ w.heap.size _ rfl (run_loadVar_row _ w.heap.size _ _ _ (0, 0) _ (set6' HZ6.out _ _ _ _ _ _) Try.underlying41 rfl (by kernel_rfl))) rfl ⟨rfl, below6' HB7.out (Nat.le_refl _) _ _ _ _ _ _⟩
end Go.Proofs.Ytlpjdfgknmfmnaa
