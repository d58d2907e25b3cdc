/- CL1, joined. -/
import Derived.Test.YtoenijflijfogaaRF31
import Derived.Test.YtoenijflijfogaaRF43
/- Layer 17: AskAll, what stands behind its first loop (written by mkcl.py). -/
namespace Go.Proofs.Ytoenijflijfogaa
open Go.RowKit

def cT17 : Code → Code
  | .seq _ b => b
  | c => c
noncomputable def allTail : Code := cT17 (cT17 (cT17 (cT17 (cT17 (cT17 (cT17 (cT17 (Try.f3.body.getD .skip))))))))
theorem six17 {W : World} {p : Nat} {A : Ag} {T : TypeId} (h : W.heap[p]? = some (.cells #[.int .u64 A.c, .bool A.o, .int .i64 (hi A.s), .int .u64 (lo A.s), .int .i64 A.mn, .int .i64 A.mx] T)) : W.cell? ⟨p, 0, none⟩ = some (.int .u64 A.c) ∧ W.cell? ⟨p, 1, none⟩ = some (.bool A.o) ∧ W.cell? ⟨p, 2, none⟩ = some (.int .i64 (hi A.s)) ∧ W.cell? ⟨p, 3, none⟩ = some (.int .u64 (lo A.s)) ∧ W.cell? ⟨p, 4, none⟩ = some (.int .i64 A.mn) ∧ W.cell? ⟨p, 5, none⟩ = some (.int .i64 A.mx) :=
  ⟨(cell_row h 0 (by simp)).1, (cell_row h 1 (by simp)).1, (cell_row h 2 (by simp)).1, (cell_row h 3 (by simp)).1, (cell_row h 4 (by simp)).1, (cell_row h 5 (by simp)).1⟩
theorem st17 {w W : World} {g : Nat} {T : TypeId} {cur : Array Value} {v0 v1 v2 v3 v4 v5 : Value} (hz : cur.size = 6) (h : StW w W g 0 cur T [v0, v1, v2, v3, v4, v5]) : W.heap[g]? = some (.cells #[v0, v1, v2, v3, v4, v5] T) := by
  obtain ⟨c, h1, h2, _, h4⟩ := h.c
  rw [h1]
  have e : c = #[v0, v1, v2, v3, v4, v5] := by
    apply Array.ext
    · rw [h2, hz]; rfl
    · intro i hi hi2
      have hi3 : i < 6 := hi2
      have h5 := h4 i hi3
      rw [Nat.zero_add, Array.getElem?_eq_getElem hi] at h5
      simpa using h5
  rw [e]
theorem merge17 {A O N : Ag} (hA : Gd A) (hO : Gd O) (hN : N = mrg A O) (w : World) : Calls Try.prog 9 #[.agg #[.int .u64 A.c, .bool A.o, .int .i64 (hi A.s), .int .u64 (lo A.s), .int .i64 A.mn, .int .i64 A.mx], .agg #[.int .u64 O.c, .bool O.o, .int .i64 (hi O.s), .int .u64 (lo O.s), .int .i64 O.mn, .int .i64 O.mx]] w fun e w' => e = .returned (.agg #[.int .u64 N.c, .bool N.o, .int .i64 (hi N.s), .int .u64 (lo N.s), .int .i64 N.mn, .int .i64 N.mx]) ∧ Below w.heap.size w w' := by
  subst hN
  exact merge_any A O hA.1.1 hA.1.2 hO.1.1 hO.1.2 w
theorem order17 {W : World} {va vb : Option Addr} {vn vc un uc : Nat} {A B : List ByteArray} {cm : Int} (hcm : cm = cmpL A B) (h1 : SReads W (.slice va vn vc) A) (h2 : SReads W (.slice vb un uc) B) : Calls Try.prog 11 #[.slice va vn vc, .slice vb un uc] W fun e w' => e = .returned (.int .i64 cm) ∧ Below W.heap.size W w' := by
  subst hcm
  exact order_anyK _ _ A B W h1 h2

set_option maxRecDepth 100000 in
set_option maxHeartbeats 16000000 in
theorem all_zero17 (R : Rl) (wm : Int) (a : Option Addr) (ln cap : Nat) (da : Option Addr) (dn dc : Nat) (qt qf qu qm : Int) (w W0 w3 : World) (xa oa ya : Option Addr) (xc oc yc : Nat) (n m : Nat) (S : Ag) (c3 : Int) (hbn : n ≤ 9223372036854775807) (hbm : m ≤ 9223372036854775807)
    (HB0 : Hid (Below w.heap.size w W0)) (HB3 : Hid (Below W0.heap.size W0 w3)) (HY0 : Hid (W0.heap[w.heap.size + 1]? = some (.cells #[.slice da dn dc, .int .i64 qt, .int .i64 qf, .int .i64 qu, .int .i64 qm] 28))) (HP3 : Hid (w3.heap[W0.heap.size]? = some (.cells #[.int .u64 S.c, .bool S.o, .int .i64 (hi S.s), .int .u64 (lo S.s), .int .i64 S.mn, .int .i64 S.mx] 40))) (HZ3 : Hid (w3.heap[W0.heap.size + 1]? = some (.cells #[.int .u64 agZ.c, .bool agZ.o, .int .i64 (hi agZ.s), .int .u64 (lo agZ.s), .int .i64 agZ.mn, .int .i64 agZ.mx] 40)))
    (HC3 : Hid (c3 ≠ 0 → qm < 0)) (hS : S = agZ) (hn : n = 0) (hm : m = 0)
    (x3 x5 x6 x8 x17 x18 x19 x20 x21 x22 x23 x24 x25 x26 x27 x28 x29 x30 x31 x32 x33 x34 x35 x36 x37 x38 x39 x40 x41 x42 x43 x44 x45 x46 x47 x48 x49 x50 x51 x52 x53 x54 x55 x56 x57 x58 x59 x60 x61 x62 x63 x64 x65 x66 x67 x68 x69 x70 x71 x72 x73 x74 x75 x76 x77 x78 x79 x80 x81 x82 x83 x84 x85 x86 x87 x88 x89 x90 x91 x92 x93 x94 x95 x96 x97 x98 x99 x100 x101 x102 x103 x104 x105 x106 x107 x108 x109 x110 x111 x112 x113 x114 x115 x116 x117 x118 x119 x120 x121 x122 x123 x124 x125 x126 x127 x128 x129 x130 x131 x132 x133 x134 x135 x136 x137 x138 x139 x140 x141 x142 x143 x144 x145 x146 x147 x148 x149 x150 x151 x152 x153 x154 x155 x156 x157 x158 x159 x160 x161 x162 x163 x164 x165 x166 x167 x168 x169 x170 x171 x172 x173 x174 x175 x176 x177 x178 x179 x180 x181 x182 x183 x184 x185 x186 x187 x188 x189 x190 x191 x192 x193 x194 x195 x196 x197 x198 x199 x200 x201 x202 x203 x204 x205 x206 x207 x208 : Value) :
    Code.wp Try.prog allTail (bodyPost Try.prog Try.f3 (fun e w' => e = .returned (.bool true) ∧ Below w.heap.size w w')) { tmps := #[.agg #[.slice R.a R.len R.cap, .int .i64 R.kp], .int .i64 wm, .slice a ln cap, x3, .pointer (some ⟨w.heap.size, 0, none⟩), x5, x6, .pointer (some ⟨w.heap.size + 1, 0, none⟩), x8, .slice xa n xc, .int .i64 0, .slice oa 0 oc, .int .i64 0, .slice ya m yc, .int .i64 c3, .pointer (some ⟨W0.heap.size, 0, none⟩), .pointer (some ⟨W0.heap.size + 1, 0, none⟩), x17, x18, x19, x20, x21, x22, x23, x24, x25, x26, x27, x28, x29, x30, x31, x32, x33, x34, x35, x36, x37, x38, x39, x40, x41, x42, x43, x44, x45, x46, x47, x48, x49, x50, x51, x52, x53, x54, x55, x56, x57, x58, x59, x60, x61, x62, x63, x64, x65, x66, x67, x68, x69, x70, x71, x72, x73, x74, x75, x76, x77, x78, x79, x80, x81, x82, x83, x84, x85, x86, x87, x88, x89, x90, x91, x92, x93, x94, x95, x96, x97, x98, x99, x100, x101, x102, x103, x104, x105, x106, x107, x108, x109, x110, x111, x112, x113, x114, x115, x116, x117, x118, x119, x120, x121, x122, x123, x124, x125, x126, x127, x128, x129, x130, x131, x132, x133, x134, x135, x136, x137, x138, x139, x140, x141, x142, x143, x144, x145, x146, x147, x148, x149, x150, x151, x152, x153, x154, x155, x156, x157, x158, x159, x160, x161, x162, x163, x164, x165, x166, x167, x168, x169, x170, x171, x172, x173, x174, x175, x176, x177, x178, x179, x180, x181, x182, x183, x184, x185, x186, x187, x188, x189, x190, x191, x192, x193, x194, x195, x196, x197, x198, x199, x200, x201, x202, x203, x204, x205, x206, x207, x208], defers := [] } w3 := by
  unfold allTail
  simp only [Try.f3, Option.getD_some, cT17]
  subst hS hn hm
  have HY3 : Hid (w3.heap[w.heap.size + 1]? = some (.cells #[.slice da dn dc, .int .i64 qt, .int .i64 qf, .int .i64 qu, .int .i64 qm] 28)) := (HB3.out.block _ (Array.getElem?_eq_some_iff.1 HY0.out).1).trans HY0.out
  go_wp2_with fail
  go_quiet (fail)
  obtain ⟨w4, HW4⟩ := hid_ex (w3.drewN nq)
  have HB34 : Hid (Below w3.heap.size w3 w4) := by rw [HW4.out]; exact below_drewN (Below.refl _ _) nq
  have HB4 : Hid (Below w.heap.size w w4) := HB0.out.trans ((HB3.out.trans (HB34.out.mono HB3.out.size)).mono HB0.out.size)
  have HP4 : Hid (w4.heap[W0.heap.size]? = some (.cells #[.int .u64 agZ.c, .bool agZ.o, .int .i64 (hi agZ.s), .int .u64 (lo agZ.s), .int .i64 agZ.mn, .int .i64 agZ.mx] 40)) := (HB34.out.block _ (Array.getElem?_eq_some_iff.1 HP3.out).1).trans HP3.out
  have HZ4 : Hid (w4.heap[W0.heap.size + 1]? = some (.cells #[.int .u64 agZ.c, .bool agZ.o, .int .i64 (hi agZ.s), .int .u64 (lo agZ.s), .int .i64 agZ.mn, .int .i64 agZ.mx] 40)) := (HB34.out.block _ (Array.getElem?_eq_some_iff.1 HZ3.out).1).trans HZ3.out
  have HY4 : Hid (w4.heap[w.heap.size + 1]? = some (.cells #[.slice da dn dc, .int .i64 qt, .int .i64 qf, .int .i64 qu, .int .i64 qm] 28)) := (HB34.out.block _ (Array.getElem?_eq_some_iff.1 HY3.out).1).trans HY3.out
  rw [← HW4.out]
  clear HW4 HB34 HY3 HP3 HZ3 HB3
  by_cases hc3 : c3 = 0
  · subst hc3
    clear HC3
    go_wp2_with fail
    go_loopw [18] (fun i wr => i = .int .i64 0 ∧ Hid (wr = w4)) (fun i _ => 0 - (intOf i).toNat)
    case atStart => exact ⟨rfl, rfl⟩
    case round =>
      obtain ⟨rfl, HR⟩ := hrel
      obtain rfl := HR.out
      clear HR
      go_wp2_with fail
      refine (alive17_any wr).mono ?_
      rintro e w6 ⟨rfl, hb6⟩
      have HB6 : Hid (Below w.heap.size w w6) := HB4.out.trans (hb6.mono HB4.out.size)
      have HP6 : Hid (w6.heap[W0.heap.size]? = some (.cells #[.int .u64 agZ.c, .bool agZ.o, .int .i64 (hi agZ.s), .int .u64 (lo agZ.s), .int .i64 agZ.mn, .int .i64 agZ.mx] 40)) := (hb6.block _ (Array.getElem?_eq_some_iff.1 HP4.out).1).trans HP4.out
      have HZ6 : Hid (w6.heap[W0.heap.size + 1]? = some (.cells #[.int .u64 agZ.c, .bool agZ.o, .int .i64 (hi agZ.s), .int .u64 (lo agZ.s), .int .i64 agZ.mn, .int .i64 agZ.mx] 40)) := (hb6.block _ (Array.getElem?_eq_some_iff.1 HZ4.out).1).trans HZ4.out
      obtain ⟨z0, z1, z2, z3, z4, z5⟩ := six17 HP6.out
      obtain ⟨y0, y1, y2, y3, y4, y5⟩ := six17 HZ6.out
      clear hb6
      go_wp2_with fail
      go_ret
      exact ⟨rfl, HB6.out⟩
  · have hq : qm < 0 := HC3.out hc3
    have hcb : (c3 == 0) = false := by simp [hc3]
    have hcb' : (c3 != 0) = true := by simp [hc3]
    clear HC3
    go_wp2_with fail
    refine (alive17_any w4).mono ?_
    rintro e w6 ⟨rfl, hb6⟩
    have HB6 : Hid (Below w.heap.size w w6) := HB4.out.trans (hb6.mono HB4.out.size)
    have HY6 : Hid (w6.heap[w.heap.size + 1]? = some (.cells #[.slice da dn dc, .int .i64 qt, .int .i64 qf, .int .i64 qu, .int .i64 qm] 28)) := (hb6.block _ (Array.getElem?_eq_some_iff.1 HY4.out).1).trans HY4.out
    have y4 := (cell_row HY6.out 4 (by simp)).1
    simp only [List.getElem_toArray, List.getElem_cons_zero, List.getElem_cons_succ] at y4
    clear hb6
    go_wp2_with fail
    go_ret
    exact ⟨rfl, HB6.out⟩

set_option maxRecDepth 100000 in
set_option maxHeartbeats 16000000 in
theorem all_some17 (R : Rl) (wm : Int) (a : Option Addr) (ln cap : Nat) (da : Option Addr) (dn dc : Nat) (qt qf qu qm : Int) (w W0 w3 : World) (xa oa ya : Option Addr) (xc oc yc : Nat) (xs ys : List It) (n m : Nat) (S : Ag) (c3 : Int) (hbn : n ≤ 9223372036854775807) (hbm : m ≤ 9223372036854775807)
    (HB0 : Hid (Below w.heap.size w W0)) (HB3 : Hid (Below W0.heap.size W0 w3)) (HY0 : Hid (W0.heap[w.heap.size + 1]? = some (.cells #[.slice da dn dc, .int .i64 qt, .int .i64 qf, .int .i64 qu, .int .i64 qm] 28))) (HP3 : Hid (w3.heap[W0.heap.size]? = some (.cells #[.int .u64 S.c, .bool S.o, .int .i64 (hi S.s), .int .u64 (lo S.s), .int .i64 S.mn, .int .i64 S.mx] 40))) (HZ3 : Hid (w3.heap[W0.heap.size + 1]? = some (.cells #[.int .u64 agZ.c, .bool agZ.o, .int .i64 (hi agZ.s), .int .u64 (lo agZ.s), .int .i64 agZ.mn, .int .i64 agZ.mx] 40)))
    (HC3 : Hid (c3 ≠ 0 → qm < 0)) (mk : Nat) (hqm : c3 = 0 → qm = (mk : Int)) (hmk : mk < 9223372036854775808) (hn0 : 0 < n) (oy : It)
    (HT : Hid (TReads W0 (.slice xa n xc) xs)) (HS : Hid (TReads W0 (.slice ya m yc) ys)) (HO : Hid (TReads W0 (.slice oa 1 oc) [oy])) (HOD : Hid (oy.D = [] ∧ oy.a = S)) (Hn : Hid (n = xs.length)) (Hm : Hid (m = ys.length))
    (HGX : Hid (∀ x ∈ xs, Gd x.a ∧ x.D.length ≤ 1000)) (HGY : Hid (c3 = 0 → (∀ y ∈ ys, Gd y.a ∧ y.a = sumB ((xs.map itR).filter (prt mk y.D))) ∧ (∀ i (h : i + 1 < ys.length), cmpL (ys[i]'(by omega)).D ys[i + 1].D < 0) ∧ sumB (ys.map itR) = S))
    (x3 x5 x6 x8 x17 x18 x19 x20 x21 x22 x23 x24 x25 x26 x27 x28 x29 x30 x31 x32 x33 x34 x35 x36 x37 x38 x39 x40 x41 x42 x43 x44 x45 x46 x47 x48 x49 x50 x51 x52 x53 x54 x55 x56 x57 x58 x59 x60 x61 x62 x63 x64 x65 x66 x67 x68 x69 x70 x71 x72 x73 x74 x75 x76 x77 x78 x79 x80 x81 x82 x83 x84 x85 x86 x87 x88 x89 x90 x91 x92 x93 x94 x95 x96 x97 x98 x99 x100 x101 x102 x103 x104 x105 x106 x107 x108 x109 x110 x111 x112 x113 x114 x115 x116 x117 x118 x119 x120 x121 x122 x123 x124 x125 x126 x127 x128 x129 x130 x131 x132 x133 x134 x135 x136 x137 x138 x139 x140 x141 x142 x143 x144 x145 x146 x147 x148 x149 x150 x151 x152 x153 x154 x155 x156 x157 x158 x159 x160 x161 x162 x163 x164 x165 x166 x167 x168 x169 x170 x171 x172 x173 x174 x175 x176 x177 x178 x179 x180 x181 x182 x183 x184 x185 x186 x187 x188 x189 x190 x191 x192 x193 x194 x195 x196 x197 x198 x199 x200 x201 x202 x203 x204 x205 x206 x207 x208 : Value) :
    Code.wp Try.prog allTail (bodyPost Try.prog Try.f3 (fun e w' => e = .returned (.bool true) ∧ Below w.heap.size w w')) { tmps := #[.agg #[.slice R.a R.len R.cap, .int .i64 R.kp], .int .i64 wm, .slice a ln cap, x3, .pointer (some ⟨w.heap.size, 0, none⟩), x5, x6, .pointer (some ⟨w.heap.size + 1, 0, none⟩), x8, .slice xa n xc, .int .i64 0, .slice oa 1 oc, .int .i64 0, .slice ya m yc, .int .i64 c3, .pointer (some ⟨W0.heap.size, 0, none⟩), .pointer (some ⟨W0.heap.size + 1, 0, none⟩), x17, x18, x19, x20, x21, x22, x23, x24, x25, x26, x27, x28, x29, x30, x31, x32, x33, x34, x35, x36, x37, x38, x39, x40, x41, x42, x43, x44, x45, x46, x47, x48, x49, x50, x51, x52, x53, x54, x55, x56, x57, x58, x59, x60, x61, x62, x63, x64, x65, x66, x67, x68, x69, x70, x71, x72, x73, x74, x75, x76, x77, x78, x79, x80, x81, x82, x83, x84, x85, x86, x87, x88, x89, x90, x91, x92, x93, x94, x95, x96, x97, x98, x99, x100, x101, x102, x103, x104, x105, x106, x107, x108, x109, x110, x111, x112, x113, x114, x115, x116, x117, x118, x119, x120, x121, x122, x123, x124, x125, x126, x127, x128, x129, x130, x131, x132, x133, x134, x135, x136, x137, x138, x139, x140, x141, x142, x143, x144, x145, x146, x147, x148, x149, x150, x151, x152, x153, x154, x155, x156, x157, x158, x159, x160, x161, x162, x163, x164, x165, x166, x167, x168, x169, x170, x171, x172, x173, x174, x175, x176, x177, x178, x179, x180, x181, x182, x183, x184, x185, x186, x187, x188, x189, x190, x191, x192, x193, x194, x195, x196, x197, x198, x199, x200, x201, x202, x203, x204, x205, x206, x207, x208], defers := [] } w3 := by
  unfold allTail
  simp only [Try.f3, Option.getD_some, cT17]
  obtain ⟨ov, oD, of, oz, og⟩ := oy
  obtain ⟨hod, hoa⟩ := HOD.out
  subst hod hoa
  obtain ⟨b1, o1, rfl, hn1, hs1⟩ := HO.out.nine (j := 0) (by simp) rfl
  obtain ⟨va, vc, hv, -⟩ := hs1.form
  subst hv
  rw [Nat.zero_mul, Nat.add_zero] at hn1
  have HN1 : Hid (N9 w3 b1 o1 (.slice va 0 vc) of oz og.c (hi og.s) (lo og.s) og.mn og.mx og.o) := hn1.below HB3.out
  have hn0' : (0 : Int) < (n : Int) := by omega
  have hbl1 : W0.heap.size < w3.heap.size := (Array.getElem?_eq_some_iff.1 HP3.out).1
  have HY3 : Hid (w3.heap[w.heap.size + 1]? = some (.cells #[.slice da dn dc, .int .i64 qt, .int .i64 qf, .int .i64 qu, .int .i64 qm] 28)) := (HB3.out.block _ (Array.getElem?_eq_some_iff.1 HY0.out).1).trans HY0.out
  have hyl : w.heap.size + 1 < W0.heap.size := (Array.getElem?_eq_some_iff.1 HY0.out).1
  obtain ⟨z0, z1, z2, z3, z4, z5⟩ := six17 HP3.out
  have e0 := HN1.out.c0
  have e3 := HN1.out.c3
  have e4 := HN1.out.c4
  have e5 := HN1.out.c5
  have e6 := HN1.out.c6
  have e7 := HN1.out.c7
  have e8 := HN1.out.c8
  clear hn1 hs1 HO HOD
  go_wp2_with fail
  go_quiet (fail)
  clear z0 z1 z2 z3 z4 z5 e0 e3 e4 e5 e6 e7 e8 HN1
  obtain ⟨w4, HW4⟩ := hid_ex (w3.drewN nq)
  have HB34 : Hid (Below w3.heap.size w3 w4) := by rw [HW4.out]; exact below_drewN (Below.refl _ _) nq
  have HB4 : Hid (Below W0.heap.size W0 w4) := HB3.out.trans (HB34.out.mono HB3.out.size)
  have HP4 : Hid (w4.heap[W0.heap.size]? = some (.cells #[.int .u64 og.c, .bool og.o, .int .i64 (hi og.s), .int .u64 (lo og.s), .int .i64 og.mn, .int .i64 og.mx] 40)) := (HB34.out.block _ hbl1).trans HP3.out
  have HZ4 : Hid (w4.heap[W0.heap.size + 1]? = some (.cells #[.int .u64 agZ.c, .bool agZ.o, .int .i64 (hi agZ.s), .int .u64 (lo agZ.s), .int .i64 agZ.mn, .int .i64 agZ.mx] 40)) := (HB34.out.block _ (Array.getElem?_eq_some_iff.1 HZ3.out).1).trans HZ3.out
  have HY4 : Hid (w4.heap[w.heap.size + 1]? = some (.cells #[.slice da dn dc, .int .i64 qt, .int .i64 qf, .int .i64 qu, .int .i64 qm] 28)) := (HB34.out.block _ (Array.getElem?_eq_some_iff.1 HY3.out).1).trans HY3.out
  rw [← HW4.out]
  clear HW4 HB34 HY3 HP3 HZ3 HB3
  by_cases hc3 : c3 = 0
  · obtain ⟨HGY1, HGY2, HGY3⟩ := HGY.out hc3
    have hq := hqm hc3
    subst hc3 hq
    have HGA : Hid (∀ y ∈ ys, Gd y.a ∧ y.a = sumB ((xs.map itR).filter (prt mk y.D))) := HGY1
    have HGL : Hid (∀ i (h : i + 1 < ys.length), cmpL (ys[i]'(by omega)).D ys[i + 1].D < 0) := HGY2
    have HGS : Hid (sumB (ys.map itR) = og) := HGY3
    clear HGY HGY1 HGY2 HGY3 hqm HC3
    go_wp2_with fail
    go_loopw [18] (fun i wv => ∃ (j : Nat) (A : Ag), j ≤ m ∧ i = .int .i64 (j : Int) ∧ Hid (A = sumB ((ys.map itR).take j)) ∧ Hid (wv.heap[W0.heap.size + 1]? = some (.cells #[.int .u64 A.c, .bool A.o, .int .i64 (hi A.s), .int .u64 (lo A.s), .int .i64 A.mn, .int .i64 A.mx] 40)) ∧ Hid (Below (W0.heap.size + 1) w4 wv)) (fun i _ => m - (intOf i).toNat)
    case atStart => exact ⟨0, agZ, by omega, by go_num, by show agZ = sumB (List.take 0 _); rw [List.take_zero]; rfl, HZ4, Below.refl _ _⟩
    case round =>
      rename World => wv
      obtain ⟨j, A, hj, rfl, HA, HZr, HBr⟩ := hrel
      have HBW : Hid (Below W0.heap.size W0 wv) := HB4.out.trans (HBr.out.mono (by omega))
      have HPr : Hid (wv.heap[W0.heap.size]? = some (.cells #[.int .u64 og.c, .bool og.o, .int .i64 (hi og.s), .int .u64 (lo og.s), .int .i64 og.mn, .int .i64 og.mx] 40)) := (HBr.out.block _ (by omega)).trans HP4.out
      have HYr : Hid (wv.heap[w.heap.size + 1]? = some (.cells #[.slice da dn dc, .int .i64 qt, .int .i64 qf, .int .i64 qu, .int .i64 (mk : Int)] 28)) := (HBr.out.block _ (by omega)).trans HY4.out
      have hwl : W0.heap.size + 1 < wv.heap.size := (Array.getElem?_eq_some_iff.1 HZr.out).1
      by_cases hlt : j < m
      · have hlt' : (j : Int) < (m : Int) := by omega
        have hjy : j < ys.length := by rw [← Hm.out]; exact hlt
        obtain ⟨HGy, HYA⟩ := HGA.out ys[j] (List.getElem_mem hjy)
        have HLj : Hid (∀ i, i + 1 = j → ∃ h : i < ys.length, cmpL ys[i].D ys[j].D < 0) := by
          intro i hi
          subst hi
          exact ⟨by omega, HGL.out i hjy⟩
        have HNA : Hid (mrg A ys[j].a = sumB ((ys.map itR).take (j + 1))) := by
          unfold Hid
          rw [List.take_succ_eq_append_getElem (by rw [List.length_map]; exact hjy), sumB_snoc, ← HA.out, List.getElem_map]
          rfl
        have HGA2 : Hid (Gd A) := by
          rw [HA.out]
          refine sumB_gd fun x hx => ?_
          obtain ⟨y, hy, rfl⟩ := List.mem_map.1 (List.mem_of_mem_take hx)
          exact (HGA.out y hy).1
        obtain ⟨y, Hy⟩ := hid_ex ys[j]
        rw [← Hy.out] at HGy HYA HLj HNA
        obtain ⟨yv, yD, yf, yz, yg⟩ := y
        simp only at HGy HYA HLj HNA
        obtain ⟨b2, o2, rfl, hn2, hs2⟩ := HS.out.nine hjy Hy.out.symm
        obtain ⟨ua, uc, hv, -⟩ := hs2.form
        obtain ⟨un, Hun⟩ := hid_ex yD.length
        rw [← Hun.out] at hv
        subst hv
        have HN2 : Hid (N9 W0 b2 (o2 + j * 9) (.slice ua un uc) yf yz yg.c (hi yg.s) (lo yg.s) yg.mn yg.mx yg.o) := hn2
        have HS2 : Hid (SReads W0 (.slice ua un uc) yD) := hs2
        have HGD : Hid (Gd yg) := HGy
        have HYB : Hid (yg = sumB ((xs.map itR).filter (prt mk yD))) := HYA
        clear HGy HYA hn2 hs2 Hun
        obtain ⟨w5, HW5⟩ := hid_ex (wv.alloc (.cells #[.int .u64 0, .bool false, .int .i64 0, .int .u64 0, .int .i64 0, .int .i64 0] 40))
        have HB5 : Hid (Below wv.heap.size wv w5) := by rw [HW5.out]; exact new_below _ _
        have HC5 : Hid (w5.heap[wv.heap.size]? = some (.cells #[.int .u64 agZ.c, .bool agZ.o, .int .i64 (hi agZ.s), .int .u64 (lo agZ.s), .int .i64 agZ.mn, .int .i64 agZ.mx] 40)) := by rw [HW5.out]; exact heap_alloc_new _ _
        go_wp2_with fail
        rw [← HW5.out]
        clear HW5
        go_loopw [20] (fun i wq => ∃ (k : Nat) (B : Ag), k ≤ n ∧ i = .int .i64 (k : Int) ∧ Hid (B = sumB (((xs.map itR).take k).filter (prt mk yD))) ∧ Hid (wq.heap[wv.heap.size]? = some (.cells #[.int .u64 B.c, .bool B.o, .int .i64 (hi B.s), .int .u64 (lo B.s), .int .i64 B.mn, .int .i64 B.mx] 40)) ∧ Hid (Below wv.heap.size wv wq)) (fun i _ => n - (intOf i).toNat)
        case atStart => exact ⟨0, agZ, by omega, by go_num, by show agZ = sumB (List.filter _ (List.take 0 _)); rw [List.take_zero]; rfl, HC5, HB5⟩
        case round =>
          rename World => wq
          obtain ⟨k, B, hk, rfl, HB, HCq, HBq⟩ := hrel
          have HBWq : Hid (Below W0.heap.size W0 wq) := HBW.out.trans (HBq.out.mono HBW.out.size)
          have HYq : Hid (wq.heap[w.heap.size + 1]? = some (.cells #[.slice da dn dc, .int .i64 qt, .int .i64 qf, .int .i64 qu, .int .i64 (mk : Int)] 28)) := (HBq.out.block _ (by omega)).trans HYr.out
          have HN2q : Hid (N9 wq b2 (o2 + j * 9) (.slice ua un uc) yf yz yg.c (hi yg.s) (lo yg.s) yg.mn yg.mx yg.o) := HN2.out.below HBWq.out
          have hql : wv.heap.size < wq.heap.size := (Array.getElem?_eq_some_iff.1 HCq.out).1
          by_cases hkl : k < n
          · have hkl' : (k : Int) < (n : Int) := by omega
            have hkx : k < xs.length := by rw [← Hn.out]; exact hkl
            obtain ⟨HGx, HLx⟩ := HGX.out xs[k] (List.getElem_mem hkx)
            have HTK : Hid (((xs.map itR).take (k + 1)).filter (prt mk yD) = ((xs.map itR).take k).filter (prt mk yD) ++ (if pt xs[k].D mk = yD then [itR xs[k]] else [])) := by
              unfold Hid
              rw [List.take_succ_eq_append_getElem (by rw [List.length_map]; exact hkx), List.filter_append, List.getElem_map, List.filter_cons, List.filter_nil]
              show _ ++ (if decide (pt xs[k].D mk = yD) = true then [itR xs[k]] else []) = _
              by_cases e : pt xs[k].D mk = yD
              · rw [if_pos (decide_eq_true e), if_pos e]
              · rw [if_neg (by simpa using e), if_neg e]
            have HGB : Hid (Gd B) := by
              rw [HB.out]
              refine sumB_gd fun x hx => ?_
              obtain ⟨y, hy, rfl⟩ := List.mem_map.1 (List.mem_of_mem_take (List.mem_filter.1 hx).1)
              exact (HGX.out y hy).1
            obtain ⟨x, Hx⟩ := hid_ex xs[k]
            rw [← Hx.out] at HGx HLx HTK
            obtain ⟨xv, xD, xf, xz, xg⟩ := x
            simp only at HGx HLx HTK
            obtain ⟨b, o, rfl, hn3, hs3⟩ := HT.out.nine hkx Hx.out.symm
            obtain ⟨va, vc, hv, -⟩ := hs3.form
            obtain ⟨vn, Hvn⟩ := hid_ex xD.length
            rw [← Hvn.out] at hv
            subst hv
            have HN3 : Hid (N9 wq b (o + k * 9) (.slice va vn vc) xf xz xg.c (hi xg.s) (lo xg.s) xg.mn xg.mx xg.o) := hn3.below HBWq.out
            have HGD3 : Hid (Gd xg) := HGx
            have HPC : Hid (∀ W, Below wq.heap.size wq W → Calls Try.prog 10 #[.slice va vn vc, .int .i64 (mk : Int)] W fun e w' => ∃ v', e = .returned (.tuple #[v', .int .i64 0]) ∧ SOwn w' W.heap.size v' (pt xD mk) ∧ Below W.heap.size W w') := fun W hW => part_any _ xD HLx mk hmk W (hs3.below (HBWq.out.trans (hW.mono HBWq.out.size)))
            obtain ⟨pD, HpD⟩ := hid_ex (pt xD mk)
            rw [← HpD.out] at HTK HPC
            have hyl2 : w.heap.size + 1 < wq.heap.size := (Array.getElem?_eq_some_iff.1 HYq.out).1
            clear HGx hn3 hs3 Hvn HpD HLx
            go_wp2_with fail
            refine wp_region_noPanic ?_
            refine wp_region_held_drew (S := (fun w' => Below wq.heap.size wq w')) (by kernel_rfl) ?_ (fun hHeld => ?_)
            · exact (Below.refl _ _).drew
            refine wpAnyH_take (i := 0) (v := .slice (some ⟨b, o, none⟩) n xc) rfl (by kernel_rfl) (by kernel_rfl) (by kernel_rfl) (fun _ _ _ h => h) (Or.inl ⟨by rfl, ?_⟩) (by assumption) ?_
            · (intro w1 hSw; (try dsimp only at hSw); go_simp)
            simp only [List.getElem_toArray, List.getElem_cons_zero, Act.put, List.setIfInBounds_toArray, List.set_cons_zero, List.set_cons_succ]
            refine wpAnyH_take (i := 1) (v := .int .i64 (k : Int)) rfl (by kernel_rfl) (by kernel_rfl) (by kernel_rfl) (fun _ _ _ h => h) (Or.inl ⟨by rfl, ?_⟩) (by assumption) ?_
            · (intro w1 hSw; (try dsimp only at hSw); go_simp)
            simp only [List.getElem_toArray, List.getElem_cons_succ, List.getElem_cons_zero, Act.put, List.setIfInBounds_toArray, List.set_cons_zero, List.set_cons_succ]
            refine wpAnyH_take (i := 2) (v := .pointer (some ⟨b, o + k * 9, none⟩)) rfl (by kernel_rfl) (by kernel_rfl) (by kernel_rfl) (fun _ _ _ h => h) (Or.inl ⟨by rfl, ?_⟩) (by assumption) ?_
            · (intro w1 hSw; (try dsimp only at hSw); go_simp)
            simp only [List.getElem_toArray, List.getElem_cons_succ, List.getElem_cons_zero, Act.put, List.setIfInBounds_toArray, List.set_cons_zero, List.set_cons_succ]
            refine wpAnyH_take (i := 3) (v := .pointer (some ⟨b, o + k * 9, none⟩)) rfl (by kernel_rfl) (by kernel_rfl) (by kernel_rfl) (fun _ _ _ h => h) (Or.inl ⟨by rfl, ?_⟩) (by assumption) ?_
            · (intro w1 hSw; (try dsimp only at hSw); go_simp)
            simp only [List.getElem_toArray, List.getElem_cons_succ, List.getElem_cons_zero, Act.put, List.setIfInBounds_toArray, List.set_cons_zero, List.set_cons_succ]
            refine wpAnyH_take (i := 4) (v := .slice va vn vc) rfl (by kernel_rfl) (by kernel_rfl) (by kernel_rfl) (fun _ _ _ h => h) (Or.inl ⟨by rfl, ?_⟩) (by assumption) ?_
            · (intro w1 hSw; (try dsimp only at hSw); have g0 := (HN3.out.below hSw).c0; go_simp)
            simp only [List.getElem_toArray, List.getElem_cons_succ, List.getElem_cons_zero, Act.put, List.setIfInBounds_toArray, List.set_cons_zero, List.set_cons_succ]
            refine wpAnyH_take (i := 5) (v := .pointer (some ⟨w.heap.size + 1, 4, none⟩)) rfl (by kernel_rfl) (by kernel_rfl) (by kernel_rfl) (fun _ _ _ h => h) (Or.inl ⟨by rfl, ?_⟩) (by assumption) ?_
            · (intro w1 hSw; (try dsimp only at hSw); go_simp)
            simp only [List.getElem_toArray, List.getElem_cons_succ, List.getElem_cons_zero, Act.put, List.setIfInBounds_toArray, List.set_cons_zero, List.set_cons_succ]
            refine wpAnyH_take (i := 6) (v := .int .i64 (mk : Int)) rfl (by kernel_rfl) (by kernel_rfl) (by kernel_rfl) (fun _ _ _ h => h) (Or.inl ⟨by rfl, ?_⟩) (by assumption) ?_
            · (intro w1 hSw; (try dsimp only at hSw); have gx := (hSw.block _ hyl2).trans HYq.out; have g0 := (cell_row gx 4 (by simp)).1; simp only [List.getElem_toArray, List.getElem_cons_zero, List.getElem_cons_succ] at g0; go_simp)
            simp only [List.getElem_toArray, List.getElem_cons_succ, List.getElem_cons_zero, Act.put, List.setIfInBounds_toArray, List.set_cons_zero, List.set_cons_succ]
            refine wpAnyH_ready (rs := [7]) (by kernel_rfl) (by simp) ?_
            refine AllReadyH.cons (o := _) rfl (fun K hK => ?_) AllReadyH.nil
            go_simp
            refine (HPC.out _ (Below.refl _ _).drew).mono ?_
            clear HPC
            rintro e W3 ⟨dv, rfl, hso, hb3⟩
            have HSD : Hid (SReads W3 dv pD) := hso.reads
            obtain ⟨pa, pc, hpv, -⟩ := HSD.out.form
            obtain ⟨pn, Hpn⟩ := hid_ex pD.length
            rw [← Hpn.out] at hpv
            subst hpv
            have HW3 : Hid (Below wq.heap.size wq W3) := (Below.refl wq.heap.size wq).drew.trans hb3
            clear hb3 hso Hpn
            refine hK.out _ _ ?_ (fun hHeld => ?_)
            · exact HW3.out
            clear hK K
            refine wpAnyH_take (i := 8) (v := .tuple #[.slice pa pn pc, .int .i64 0]) rfl (by kernel_rfl) (by kernel_rfl) (by kernel_rfl) (fun _ _ _ h => h) (Or.inl ⟨by rfl, ?_⟩) (by assumption) ?_
            · (intro w1 hSw; (try dsimp only at hSw); go_simp)
            simp only [List.getElem_toArray, List.getElem_cons_succ, List.getElem_cons_zero, Act.put, List.setIfInBounds_toArray, List.set_cons_zero, List.set_cons_succ]
            refine wpAnyH_take (i := 9) (v := .slice pa pn pc) rfl (by kernel_rfl) (by kernel_rfl) (by kernel_rfl) (fun _ _ _ h => h) (Or.inl ⟨by rfl, ?_⟩) (by assumption) ?_
            · (intro w1 hSw; (try dsimp only at hSw); go_simp)
            simp only [List.getElem_toArray, List.getElem_cons_succ, List.getElem_cons_zero, Act.put, List.setIfInBounds_toArray, List.set_cons_zero, List.set_cons_succ]
            refine wpAnyH_take (i := 10) (v := .int .i64 0) rfl (by kernel_rfl) (by kernel_rfl) (by kernel_rfl) (fun _ _ _ h => h) (Or.inl ⟨by rfl, ?_⟩) (by assumption) ?_
            · (intro w1 hSw; (try dsimp only at hSw); go_simp)
            simp only [List.getElem_toArray, List.getElem_cons_succ, List.getElem_cons_zero, Act.put, List.setIfInBounds_toArray, List.set_cons_zero, List.set_cons_succ]
            refine wpAnyH_take (i := 11) (v := .slice pa pn pc) rfl (by kernel_rfl) (by kernel_rfl) (by kernel_rfl) (fun _ _ _ h => h) (Or.inl ⟨by rfl, ?_⟩) (by assumption) ?_
            · (intro w1 hSw; (try dsimp only at hSw); go_simp)
            simp only [List.getElem_toArray, List.getElem_cons_succ, List.getElem_cons_zero, Act.put, List.setIfInBounds_toArray, List.set_cons_zero, List.set_cons_succ]
            refine wpAnyH_take (i := 12) (v := .int .i64 0) rfl (by kernel_rfl) (by kernel_rfl) (by kernel_rfl) (fun _ _ _ h => h) (Or.inl ⟨by rfl, ?_⟩) (by assumption) ?_
            · (intro w1 hSw; (try dsimp only at hSw); go_simp)
            simp only [List.getElem_toArray, List.getElem_cons_succ, List.getElem_cons_zero, Act.put, List.setIfInBounds_toArray, List.set_cons_zero, List.set_cons_succ]
            clear hHeld
            refine wpAnyH_done (by kernel_rfl) ?_ _
            refine NoPanic.normal ?_
            have HBW3 : Hid (Below W0.heap.size W0 W3) := HBWq.out.trans (HW3.out.mono HBWq.out.size)
            have g0 := (HN2.out.below HBW3.out).c0
            obtain ⟨cm, Hcm⟩ := hid_ex (cmpL pD yD)
            have HCM : Hid (cm = 0 ↔ pD = yD) := by unfold Hid; rw [Hcm.out]; exact cmpL_zero _ _
            have HOR : Hid (Calls Try.prog 11 #[.slice pa pn pc, .slice ua un uc] W3 fun e w' => e = .returned (.int .i64 cm) ∧ Below W3.heap.size W3 w') := order17 Hcm.out HSD.out (HS2.out.below HBW3.out)
            clear Hcm
            go_wp2_with fail
            refine HOR.out.mono ?_
            clear HOR g0
            rintro e w6 ⟨rfl, hb6⟩
            have HBq6 : Hid (Below wv.heap.size wv w6) := HBq.out.trans ((HW3.out.trans (hb6.mono HW3.out.size)).mono HBq.out.size)
            have HC6 : Hid (w6.heap[wv.heap.size]? = some (.cells #[.int .u64 B.c, .bool B.o, .int .i64 (hi B.s), .int .u64 (lo B.s), .int .i64 B.mn, .int .i64 B.mx] 40)) := ((HW3.out.trans (hb6.mono HW3.out.size)).block _ hql).trans HCq.out
            have HN6 : Hid (N9 w6 b (o + k * 9) (.slice va vn vc) xf xz xg.c (hi xg.s) (lo xg.s) xg.mn xg.mx xg.o) := HN3.out.below (HW3.out.trans (hb6.mono HW3.out.size))
            clear hb6 HW3 HSD HN3 HCq HBq HBWq HYq HN2q HBW3
            by_cases hcm : cm = 0
            · have hDe : pD = yD := HCM.out.1 hcm
              obtain ⟨M, HM⟩ := hid_ex (mrg B xg)
              have HMB : Hid (M = sumB (((xs.map itR).take (k + 1)).filter (prt mk yD))) := by
                unfold Hid
                rw [HTK.out, if_pos hDe, sumB_snoc, ← HB.out, HM.out]
                rfl
              have HMG : Hid (∀ w, Calls Try.prog 9 #[.agg #[.int .u64 B.c, .bool B.o, .int .i64 (hi B.s), .int .u64 (lo B.s), .int .i64 B.mn, .int .i64 B.mx], .agg #[.int .u64 xg.c, .bool xg.o, .int .i64 (hi xg.s), .int .u64 (lo xg.s), .int .i64 xg.mn, .int .i64 xg.mx]] w fun e w' => e = .returned (.agg #[.int .u64 M.c, .bool M.o, .int .i64 (hi M.s), .int .u64 (lo M.s), .int .i64 M.mn, .int .i64 M.mx]) ∧ Below w.heap.size w w') := fun w => merge17 HGB.out HGD3.out HM.out w
              subst hcm
              clear HTK HCM HM HB
              go_wp2_with fail
              obtain ⟨z0, z1, z2, z3, z4, z5⟩ := six17 HC6.out
              have HRC : Hid (∀ Z, Below w6.heap.size w6 Z → N9 Z b (o + k * 9) (.slice va vn vc) xf xz xg.c (hi xg.s) (lo xg.s) xg.mn xg.mx xg.o) := fun Z hZ => HN6.out.below hZ
              have e0 := HN6.out.c3
              have e1 := HN6.out.c4
              have e2 := HN6.out.c5
              have e3 := HN6.out.c6
              have e4 := HN6.out.c7
              have e5 := HN6.out.c8
              refine wp_region_noPanic ?_
              refine wp_region_S 7 (fun _ => True) (fun w' => w'.cell? ⟨wv.heap.size, 0, none⟩ = some (.int .u64 B.c) ∧ w'.cell? ⟨wv.heap.size, 1, none⟩ = some (.bool B.o) ∧ w'.cell? ⟨wv.heap.size, 2, none⟩ = some (.int .i64 (hi B.s)) ∧ w'.cell? ⟨wv.heap.size, 3, none⟩ = some (.int .u64 (lo B.s)) ∧ w'.cell? ⟨wv.heap.size, 4, none⟩ = some (.int .i64 B.mn) ∧ w'.cell? ⟨wv.heap.size, 5, none⟩ = some (.int .i64 B.mx) ∧ w'.cell? ⟨b, o + k * 9 + 3, none⟩ = some (.int .u64 xg.c) ∧ w'.cell? ⟨b, o + k * 9 + 4, none⟩ = some (.bool xg.o) ∧ w'.cell? ⟨b, o + k * 9 + 5, none⟩ = some (.int .i64 (hi xg.s)) ∧ w'.cell? ⟨b, o + k * 9 + 6, none⟩ = some (.int .u64 (lo xg.s)) ∧ w'.cell? ⟨b, o + k * 9 + 7, none⟩ = some (.int .i64 xg.mn) ∧ w'.cell? ⟨b, o + k * 9 + 8, none⟩ = some (.int .i64 xg.mx)) (by kernel_rfl) ?_ ?_ (fun hHeld => ?_)
              · trivial
              · exact ⟨z0, z1, z2, z3, z4, z5, e0, e1, e2, e3, e4, e5⟩
              refine wpAnyS_take (i := 0) (v := .agg #[.int .u64 B.c, .bool B.o, .int .i64 (hi B.s), .int .u64 (lo B.s), .int .i64 B.mn, .int .i64 B.mx]) true rfl (by kernel_rfl) (by kernel_rfl) (by kernel_rfl) (by kernel_rfl) (by kernel_rfl) (by kernel_rfl) (fun _ _ _ h => h) (Or.inl ⟨by rfl, ?_⟩) hHeld (fun hHeld => ?_)
              · (intro w1 hSw; have hSw2 := hSw.2 rfl; have hSw := hSw.1; (try dsimp only at hSw hSw2); go_simp)
              simp only [List.getElem_toArray, List.getElem_cons_zero, Act.put, List.setIfInBounds_toArray, List.set_cons_zero, List.set_cons_succ]
              refine wpAnyS_take (i := 1) (v := .slice (some ⟨b, o, none⟩) n xc) _ rfl (by kernel_rfl) (by kernel_rfl) (by kernel_rfl) (by kernel_rfl) (by kernel_rfl) rfl (fun _ _ _ h => h) (Or.inl ⟨by rfl, ?_⟩) hHeld (fun hHeld => ?_)
              · (intro w1 hSw; have hSw := hSw.1; (try dsimp only at hSw); go_simp)
              simp only [List.getElem_toArray, List.getElem_cons_succ, List.getElem_cons_zero, Act.put, List.setIfInBounds_toArray, List.set_cons_zero, List.set_cons_succ]
              refine wpAnyS_take (i := 2) (v := .int .i64 (k : Int)) _ rfl (by kernel_rfl) (by kernel_rfl) (by kernel_rfl) (by kernel_rfl) (by kernel_rfl) rfl (fun _ _ _ h => h) (Or.inl ⟨by rfl, ?_⟩) hHeld (fun hHeld => ?_)
              · (intro w1 hSw; have hSw := hSw.1; (try dsimp only at hSw); go_simp)
              simp only [List.getElem_toArray, List.getElem_cons_succ, List.getElem_cons_zero, Act.put, List.setIfInBounds_toArray, List.set_cons_zero, List.set_cons_succ]
              refine wpAnyS_take (i := 3) (v := .pointer (some ⟨b, o + k * 9, none⟩)) _ rfl (by kernel_rfl) (by kernel_rfl) (by kernel_rfl) (by kernel_rfl) (by kernel_rfl) rfl (fun _ _ _ h => h) (Or.inl ⟨by rfl, ?_⟩) hHeld (fun hHeld => ?_)
              · (intro w1 hSw; have hSw := hSw.1; (try dsimp only at hSw); go_simp)
              simp only [List.getElem_toArray, List.getElem_cons_succ, List.getElem_cons_zero, Act.put, List.setIfInBounds_toArray, List.set_cons_zero, List.set_cons_succ]
              refine wpAnyS_take (i := 4) (v := .pointer (some ⟨b, o + k * 9 + 3, none⟩)) _ rfl (by kernel_rfl) (by kernel_rfl) (by kernel_rfl) (by kernel_rfl) (by kernel_rfl) rfl (fun _ _ _ h => h) (Or.inl ⟨by rfl, ?_⟩) hHeld (fun hHeld => ?_)
              · (intro w1 hSw; have hSw := hSw.1; (try dsimp only at hSw); go_simp)
              simp only [List.getElem_toArray, List.getElem_cons_succ, List.getElem_cons_zero, Act.put, List.setIfInBounds_toArray, List.set_cons_zero, List.set_cons_succ]
              refine wpAnyS_take (i := 5) (v := .agg #[.int .u64 xg.c, .bool xg.o, .int .i64 (hi xg.s), .int .u64 (lo xg.s), .int .i64 xg.mn, .int .i64 xg.mx]) true rfl (by kernel_rfl) (by kernel_rfl) (by kernel_rfl) (by kernel_rfl) (by kernel_rfl) (by kernel_rfl) (fun _ _ _ h => h) (Or.inl ⟨by rfl, ?_⟩) hHeld (fun hHeld => ?_)
              · (intro w1 hSw; have hSw2 := hSw.2 rfl; have hSw := hSw.1; (try dsimp only at hSw hSw2); go_simp)
              simp only [List.getElem_toArray, List.getElem_cons_succ, List.getElem_cons_zero, Act.put, List.setIfInBounds_toArray, List.set_cons_zero, List.set_cons_succ]
              refine wpAnyS_ready (i := 6) (by kernel_rfl) rfl (fun K hK => ?_)
              go_simp
              refine (HMG.out _).mono ?_
              rintro e u6 ⟨rfl, hb6'⟩
              have hb6 : Below w6.heap.size w6 u6 := (Below.refl w6.heap.size w6).drew.trans hb6'
              have HB6 : Hid (Below w6.heap.size w6 u6) := hb6
              clear hb6'
              have HX6 : Hid (u6.heap[wv.heap.size]? = some (.cells #[.int .u64 B.c, .bool B.o, .int .i64 (hi B.s), .int .u64 (lo B.s), .int .i64 B.mn, .int .i64 B.mx] 40)) := (hb6.block _ (Array.getElem?_eq_some_iff.1 HC6.out).1).trans HC6.out
              have HR6 := HRC.out _ hb6
              have d0 := HR6.c3
              have d1 := HR6.c4
              have d2 := HR6.c5
              have d3 := HR6.c6
              have d4 := HR6.c7
              have d5 := HR6.c8
              clear HR6 hb6
              obtain ⟨y0, y1, y2, y3, y4, y5⟩ := six17 HX6.out
              go_simp
              refine hK.out _ _ ⟨?_, fun _ => ?_⟩ (fun hHeld => ?_)
              · trivial
              · exact ⟨y0, y1, y2, y3, y4, y5, d0, d1, d2, d3, d4, d5⟩
              clear hK K
              refine wpAnyS_ready (i := 7) (by kernel_rfl) rfl (fun K hK => ?_)
              rw [if_pos (by rfl)]
              refine wp_storeN _ _ _ rfl (wv.heap.size) 0 [.int .u64 M.c, .bool M.o, .int .i64 (hi M.s), .int .u64 (lo M.s), .int .i64 M.mn, .int .i64 M.mx] rfl rfl #[.int .u64 B.c, .bool B.o, .int .i64 (hi B.s), .int .u64 (lo B.s), .int .i64 B.mn, .int .i64 B.mx] _ HX6.out (by simp) (by kernel_rfl) (by kernel_rfl) (fun u7 hW7 => ?_)
              refine hK.out _ _ ⟨?_, fun hno => absurd hno (by decide)⟩ (fun hHeld => ?_)
              · trivial
              clear hK K
              refine wpAnyS_done (by kernel_rfl) ?_ _
              refine NoPanic.normal ?_
              have HX7 : Hid (u7.heap[wv.heap.size]? = some (.cells #[.int .u64 M.c, .bool M.o, .int .i64 (hi M.s), .int .u64 (lo M.s), .int .i64 M.mn, .int .i64 M.mx] 40)) := st17 rfl hW7
              have hb67 : Below (wv.heap.size) u6 u7 := hW7.b _ (Nat.le_refl _)
              skip
              clear hW7 y0 y1 y2 y3 y4 y5 z0 z1 z2 z3 z4 z5 e0 e1 e2 e3 e4 e5 d0 d1 d2 d3 d4 d5
              have HBN : Hid (Below wv.heap.size wv u7) := HBq6.out.trans ((HB6.out.mono HBq6.out.size).trans hb67)
              clear HBq6 HB6 hb67 HX6 HRC HMG HC6 HN6
              go_wp2_with fail
              go_roundw
              case rel => exact ⟨k + 1, M, by omega, by go_num, HMB, HX7, HBN⟩
              case measure => simp [intOf]; omega
            · have hcb : (cm == 0) = false := by simp [hcm]
              have hDn : ¬ pD = yD := fun e => hcm (HCM.out.2 e)
              have HMB : Hid (B = sumB (((xs.map itR).take (k + 1)).filter (prt mk yD))) := by
                unfold Hid
                rw [HTK.out, if_neg hDn, List.append_nil]
                exact HB.out
              clear HTK HCM HB HN6
              go_wp2_with fail
              go_roundw
              case rel => exact ⟨k + 1, B, by omega, by go_num, HMB, HC6, HBq6⟩
              case measure => simp [intOf]; omega
          · obtain rfl : k = n := by omega
            have hkl' : ¬ (k : Int) < (k : Int) := by omega
            have hBy : B = yg := by
              rw [HB.out, HYB.out, List.take_of_length_le (by rw [List.length_map, Hn.out]; exact Nat.le_refl _)]
            subst hBy
            obtain ⟨M, HM⟩ := hid_ex (mrg A B)
            have HMB : Hid (M = sumB ((ys.map itR).take (j + 1))) := HM.out.trans HNA.out
            have HMG : Hid (∀ w, Calls Try.prog 9 #[.agg #[.int .u64 A.c, .bool A.o, .int .i64 (hi A.s), .int .u64 (lo A.s), .int .i64 A.mn, .int .i64 A.mx], .agg #[.int .u64 B.c, .bool B.o, .int .i64 (hi B.s), .int .u64 (lo B.s), .int .i64 B.mn, .int .i64 B.mx]] w fun e w' => e = .returned (.agg #[.int .u64 M.c, .bool M.o, .int .i64 (hi M.s), .int .u64 (lo M.s), .int .i64 M.mn, .int .i64 M.mx]) ∧ Below w.heap.size w w') := fun w => merge17 HGA2.out HGD.out HM.out w
            clear HNA HM HB HA HYB
            have HZq : Hid (wq.heap[W0.heap.size + 1]? = some (.cells #[.int .u64 A.c, .bool A.o, .int .i64 (hi A.s), .int .u64 (lo A.s), .int .i64 A.mn, .int .i64 A.mx] 40)) := (HBq.out.block _ hwl).trans HZr.out
            have HBrq : Hid (Below (W0.heap.size + 1) w4 wq) := HBr.out.trans (HBq.out.mono (by omega))
            by_cases hj0 : j = 0
            · have hj0' : ¬ (0 : Int) < (j : Int) := by omega
              have hj1 : decide ((0 : Int) < (j : Int)) = false := decide_eq_false hj0'
              have hj2 : ¬ 0 < j := by omega
              have hj3 : decide (0 < j) = false := decide_eq_false hj2
              clear hj0 hj0' hj2
              obtain ⟨z0, z1, z2, z3, z4, z5⟩ := six17 HCq.out
              have e3 := HN2q.out.c3
              have e4 := HN2q.out.c4
              have e5 := HN2q.out.c5
              have e6 := HN2q.out.c6
              have e7 := HN2q.out.c7
              have e8 := HN2q.out.c8
              go_wp2_with fail
              go_quiet (fail)
              clear z0 z1 z2 z3 z4 z5 e3 e4 e5 e6 e7 e8
              obtain ⟨V, HV⟩ := hid_ex (wq.drewN nq)
              have HBqV : Hid (Below wq.heap.size wq V) := by rw [HV.out]; exact below_drewN (Below.refl _ _) nq
              have HZV : Hid (V.heap[W0.heap.size + 1]? = some (.cells #[.int .u64 A.c, .bool A.o, .int .i64 (hi A.s), .int .u64 (lo A.s), .int .i64 A.mn, .int .i64 A.mx] 40)) := (HBqV.out.block _ (by omega)).trans HZq.out
              have HNV : Hid (N9 V b2 (o2 + j * 9) (.slice ua un uc) yf yz B.c (hi B.s) (lo B.s) B.mn B.mx B.o) := HN2q.out.below HBqV.out
              have HBV : Hid (Below (W0.heap.size + 1) w4 V) := HBrq.out.trans (HBqV.out.mono (by omega))
              have hvl : W0.heap.size + 1 < V.heap.size := (Array.getElem?_eq_some_iff.1 HZV.out).1
              rw [← HV.out]
              clear HV HBqV HN2q HCq
              go_wp2_with fail
              obtain ⟨z0, z1, z2, z3, z4, z5⟩ := six17 HZV.out
              have HRC : Hid (∀ Z, Below V.heap.size V Z → N9 Z b2 (o2 + j * 9) (.slice ua un uc) yf yz B.c (hi B.s) (lo B.s) B.mn B.mx B.o) := fun Z hZ => HNV.out.below hZ
              have e0 := HNV.out.c3
              have e1 := HNV.out.c4
              have e2 := HNV.out.c5
              have e3 := HNV.out.c6
              have e4 := HNV.out.c7
              have e5 := HNV.out.c8
              refine wp_region_noPanic ?_
              refine wp_region_S 7 (fun _ => True) (fun w' => w'.cell? ⟨W0.heap.size + 1, 0, none⟩ = some (.int .u64 A.c) ∧ w'.cell? ⟨W0.heap.size + 1, 1, none⟩ = some (.bool A.o) ∧ w'.cell? ⟨W0.heap.size + 1, 2, none⟩ = some (.int .i64 (hi A.s)) ∧ w'.cell? ⟨W0.heap.size + 1, 3, none⟩ = some (.int .u64 (lo A.s)) ∧ w'.cell? ⟨W0.heap.size + 1, 4, none⟩ = some (.int .i64 A.mn) ∧ w'.cell? ⟨W0.heap.size + 1, 5, none⟩ = some (.int .i64 A.mx) ∧ w'.cell? ⟨b2, o2 + j * 9 + 3, none⟩ = some (.int .u64 B.c) ∧ w'.cell? ⟨b2, o2 + j * 9 + 4, none⟩ = some (.bool B.o) ∧ w'.cell? ⟨b2, o2 + j * 9 + 5, none⟩ = some (.int .i64 (hi B.s)) ∧ w'.cell? ⟨b2, o2 + j * 9 + 6, none⟩ = some (.int .u64 (lo B.s)) ∧ w'.cell? ⟨b2, o2 + j * 9 + 7, none⟩ = some (.int .i64 B.mn) ∧ w'.cell? ⟨b2, o2 + j * 9 + 8, none⟩ = some (.int .i64 B.mx)) (by kernel_rfl) ?_ ?_ (fun hHeld => ?_)
              · trivial
              · exact ⟨z0, z1, z2, z3, z4, z5, e0, e1, e2, e3, e4, e5⟩
              refine wpAnyS_take (i := 0) (v := .agg #[.int .u64 A.c, .bool A.o, .int .i64 (hi A.s), .int .u64 (lo A.s), .int .i64 A.mn, .int .i64 A.mx]) true rfl (by kernel_rfl) (by kernel_rfl) (by kernel_rfl) (by kernel_rfl) (by kernel_rfl) (by kernel_rfl) (fun _ _ _ h => h) (Or.inl ⟨by rfl, ?_⟩) hHeld (fun hHeld => ?_)
              · (intro w1 hSw; have hSw2 := hSw.2 rfl; have hSw := hSw.1; (try dsimp only at hSw hSw2); go_simp)
              simp only [List.getElem_toArray, List.getElem_cons_zero, Act.put, List.setIfInBounds_toArray, List.set_cons_zero, List.set_cons_succ]
              refine wpAnyS_take (i := 1) (v := .slice (some ⟨b2, o2, none⟩) m yc) _ rfl (by kernel_rfl) (by kernel_rfl) (by kernel_rfl) (by kernel_rfl) (by kernel_rfl) rfl (fun _ _ _ h => h) (Or.inl ⟨by rfl, ?_⟩) hHeld (fun hHeld => ?_)
              · (intro w1 hSw; have hSw := hSw.1; (try dsimp only at hSw); go_simp)
              simp only [List.getElem_toArray, List.getElem_cons_succ, List.getElem_cons_zero, Act.put, List.setIfInBounds_toArray, List.set_cons_zero, List.set_cons_succ]
              refine wpAnyS_take (i := 2) (v := .int .i64 (j : Int)) _ rfl (by kernel_rfl) (by kernel_rfl) (by kernel_rfl) (by kernel_rfl) (by kernel_rfl) rfl (fun _ _ _ h => h) (Or.inl ⟨by rfl, ?_⟩) hHeld (fun hHeld => ?_)
              · (intro w1 hSw; have hSw := hSw.1; (try dsimp only at hSw); go_simp)
              simp only [List.getElem_toArray, List.getElem_cons_succ, List.getElem_cons_zero, Act.put, List.setIfInBounds_toArray, List.set_cons_zero, List.set_cons_succ]
              refine wpAnyS_take (i := 3) (v := .pointer (some ⟨b2, o2 + j * 9, none⟩)) _ rfl (by kernel_rfl) (by kernel_rfl) (by kernel_rfl) (by kernel_rfl) (by kernel_rfl) rfl (fun _ _ _ h => h) (Or.inl ⟨by rfl, ?_⟩) hHeld (fun hHeld => ?_)
              · (intro w1 hSw; have hSw := hSw.1; (try dsimp only at hSw); go_simp)
              simp only [List.getElem_toArray, List.getElem_cons_succ, List.getElem_cons_zero, Act.put, List.setIfInBounds_toArray, List.set_cons_zero, List.set_cons_succ]
              refine wpAnyS_take (i := 4) (v := .pointer (some ⟨b2, o2 + j * 9 + 3, none⟩)) _ rfl (by kernel_rfl) (by kernel_rfl) (by kernel_rfl) (by kernel_rfl) (by kernel_rfl) rfl (fun _ _ _ h => h) (Or.inl ⟨by rfl, ?_⟩) hHeld (fun hHeld => ?_)
              · (intro w1 hSw; have hSw := hSw.1; (try dsimp only at hSw); go_simp)
              simp only [List.getElem_toArray, List.getElem_cons_succ, List.getElem_cons_zero, Act.put, List.setIfInBounds_toArray, List.set_cons_zero, List.set_cons_succ]
              refine wpAnyS_take (i := 5) (v := .agg #[.int .u64 B.c, .bool B.o, .int .i64 (hi B.s), .int .u64 (lo B.s), .int .i64 B.mn, .int .i64 B.mx]) true rfl (by kernel_rfl) (by kernel_rfl) (by kernel_rfl) (by kernel_rfl) (by kernel_rfl) (by kernel_rfl) (fun _ _ _ h => h) (Or.inl ⟨by rfl, ?_⟩) hHeld (fun hHeld => ?_)
              · (intro w1 hSw; have hSw2 := hSw.2 rfl; have hSw := hSw.1; (try dsimp only at hSw hSw2); go_simp)
              simp only [List.getElem_toArray, List.getElem_cons_succ, List.getElem_cons_zero, Act.put, List.setIfInBounds_toArray, List.set_cons_zero, List.set_cons_succ]
              refine wpAnyS_ready (i := 6) (by kernel_rfl) rfl (fun K hK => ?_)
              go_simp
              refine (HMG.out _).mono ?_
              rintro e u6 ⟨rfl, hb6'⟩
              have hb6 : Below V.heap.size V u6 := (Below.refl V.heap.size V).drew.trans hb6'
              have HB6 : Hid (Below V.heap.size V u6) := hb6
              clear hb6'
              have HX6 : Hid (u6.heap[W0.heap.size + 1]? = some (.cells #[.int .u64 A.c, .bool A.o, .int .i64 (hi A.s), .int .u64 (lo A.s), .int .i64 A.mn, .int .i64 A.mx] 40)) := (hb6.block _ (Array.getElem?_eq_some_iff.1 HZV.out).1).trans HZV.out
              have HR6 := HRC.out _ hb6
              have d0 := HR6.c3
              have d1 := HR6.c4
              have d2 := HR6.c5
              have d3 := HR6.c6
              have d4 := HR6.c7
              have d5 := HR6.c8
              clear HR6 hb6
              obtain ⟨y0, y1, y2, y3, y4, y5⟩ := six17 HX6.out
              go_simp
              refine hK.out _ _ ⟨?_, fun _ => ?_⟩ (fun hHeld => ?_)
              · trivial
              · exact ⟨y0, y1, y2, y3, y4, y5, d0, d1, d2, d3, d4, d5⟩
              clear hK K
              refine wpAnyS_ready (i := 7) (by kernel_rfl) rfl (fun K hK => ?_)
              rw [if_pos (by rfl)]
              refine wp_storeN _ _ _ rfl (W0.heap.size + 1) 0 [.int .u64 M.c, .bool M.o, .int .i64 (hi M.s), .int .u64 (lo M.s), .int .i64 M.mn, .int .i64 M.mx] rfl rfl #[.int .u64 A.c, .bool A.o, .int .i64 (hi A.s), .int .u64 (lo A.s), .int .i64 A.mn, .int .i64 A.mx] _ HX6.out (by simp) (by kernel_rfl) (by kernel_rfl) (fun u7 hW7 => ?_)
              refine hK.out _ _ ⟨?_, fun hno => absurd hno (by decide)⟩ (fun hHeld => ?_)
              · trivial
              clear hK K
              refine wpAnyS_done (by kernel_rfl) ?_ _
              refine NoPanic.normal ?_
              have HX7 : Hid (u7.heap[W0.heap.size + 1]? = some (.cells #[.int .u64 M.c, .bool M.o, .int .i64 (hi M.s), .int .u64 (lo M.s), .int .i64 M.mn, .int .i64 M.mx] 40)) := st17 rfl hW7
              have hb67 : Below (W0.heap.size + 1) u6 u7 := hW7.b _ (Nat.le_refl _)
              skip
              clear hW7 y0 y1 y2 y3 y4 y5 z0 z1 z2 z3 z4 z5 e0 e1 e2 e3 e4 e5 d0 d1 d2 d3 d4 d5
              have HBN : Hid (Below (W0.heap.size + 1) w4 u7) := HBV.out.trans ((HB6.out.mono (by omega)).trans hb67)
              clear HBV HB6 hb67 HX6 HRC HMG HZV HNV
              go_wp2_with fail
              go_roundw
              case rel => exact ⟨j + 1, M, by omega, by go_num, HMB, HX7, HBN⟩
              case measure => simp [intOf]; omega
            · obtain ⟨i, hij⟩ : ∃ i, i + 1 = j := ⟨j - 1, by omega⟩
              obtain ⟨hil, hlc⟩ := HLj.out i hij
              have him : (i : Int) < (m : Int) := by omega
              have hj0' : (0 : Int) < (j : Int) := by omega
              have hj2 : 0 < j := by omega
              have hwr : IntKind.i64.wrap ((j : Int) - 1) = (i : Int) := by
                have : (j : Int) - 1 = (i : Int) := by omega
                rw [this]
                simp [IntKind.wrap, IntKind.bits, IntKind.signed]; omega
              obtain ⟨x, Hx⟩ := hid_ex ys[i]
              rw [← Hx.out] at hlc
              obtain ⟨iv, iD, f9, z9, g9⟩ := x
              simp only at hlc
              obtain ⟨b3, o3, heq, hn3, hs3⟩ := HS.out.nine hil Hx.out.symm
              simp only [Option.some.injEq, Addr.mk.injEq, and_true] at heq
              obtain ⟨rfl, rfl⟩ := heq
              obtain ⟨va, vc, hv, -⟩ := hs3.form
              obtain ⟨vn, Hvn⟩ := hid_ex iD.length
              rw [← Hvn.out] at hv
              subst hv
              have HN3 : Hid (N9 wq b2 (o2 + i * 9) (.slice va vn vc) f9 z9 g9.c (hi g9.s) (lo g9.s) g9.mn g9.mx g9.o) := hn3.below HBWq.out
              obtain ⟨cm, Hcm⟩ := hid_ex (cmpL iD yD)
              have hcm : cm < 0 := by rw [Hcm.out]; exact hlc
              have hcm' : ¬ 0 ≤ cm := by omega
              have HOR : Hid (∀ W, Below wq.heap.size wq W → Calls Try.prog 11 #[.slice va vn vc, .slice ua un uc] W fun e w' => e = .returned (.int .i64 cm) ∧ Below W.heap.size W w') := fun W hW => order17 Hcm.out (hs3.below (HBWq.out.trans (hW.mono HBWq.out.size))) (HS2.out.below (HBWq.out.trans (hW.mono HBWq.out.size)))
              clear hn3 hs3 Hvn Hcm Hx hlc HLj
              go_wp2_with fail
              refine wp_region_noPanic ?_
              refine wp_region_held_drew (S := (fun w' => Below wq.heap.size wq w')) (by kernel_rfl) ?_ (fun hHeld => ?_)
              · exact (Below.refl _ _).drew
              refine wpAnyH_take (i := 0) (v := .agg #[.int .u64 B.c, .bool B.o, .int .i64 (hi B.s), .int .u64 (lo B.s), .int .i64 B.mn, .int .i64 B.mx]) rfl (by kernel_rfl) (by kernel_rfl) (by kernel_rfl) (fun _ _ _ h => h) (Or.inl ⟨by rfl, ?_⟩) (by assumption) ?_
              · (intro w1 hSw; (try dsimp only at hSw); have gx := (hSw.block _ hql).trans HCq.out; obtain ⟨g0, g1, g2, g3, g4, g5⟩ := six17 gx; go_simp)
              simp only [List.getElem_toArray, List.getElem_cons_zero, Act.put, List.setIfInBounds_toArray, List.set_cons_zero, List.set_cons_succ]
              refine wpAnyH_take (i := 1) (v := .slice (some ⟨b2, o2, none⟩) m yc) rfl (by kernel_rfl) (by kernel_rfl) (by kernel_rfl) (fun _ _ _ h => h) (Or.inl ⟨by rfl, ?_⟩) (by assumption) ?_
              · (intro w1 hSw; (try dsimp only at hSw); go_simp)
              simp only [List.getElem_toArray, List.getElem_cons_succ, List.getElem_cons_zero, Act.put, List.setIfInBounds_toArray, List.set_cons_zero, List.set_cons_succ]
              refine wpAnyH_take (i := 2) (v := .int .i64 (j : Int)) rfl (by kernel_rfl) (by kernel_rfl) (by kernel_rfl) (fun _ _ _ h => h) (Or.inl ⟨by rfl, ?_⟩) (by assumption) ?_
              · (intro w1 hSw; (try dsimp only at hSw); go_simp)
              simp only [List.getElem_toArray, List.getElem_cons_succ, List.getElem_cons_zero, Act.put, List.setIfInBounds_toArray, List.set_cons_zero, List.set_cons_succ]
              refine wpAnyH_take (i := 3) (v := .pointer (some ⟨b2, o2 + j * 9, none⟩)) rfl (by kernel_rfl) (by kernel_rfl) (by kernel_rfl) (fun _ _ _ h => h) (Or.inl ⟨by rfl, ?_⟩) (by assumption) ?_
              · (intro w1 hSw; (try dsimp only at hSw); go_simp)
              simp only [List.getElem_toArray, List.getElem_cons_succ, List.getElem_cons_zero, Act.put, List.setIfInBounds_toArray, List.set_cons_zero, List.set_cons_succ]
              refine wpAnyH_take (i := 4) (v := .pointer (some ⟨b2, o2 + j * 9 + 3, none⟩)) rfl (by kernel_rfl) (by kernel_rfl) (by kernel_rfl) (fun _ _ _ h => h) (Or.inl ⟨by rfl, ?_⟩) (by assumption) ?_
              · (intro w1 hSw; (try dsimp only at hSw); go_simp)
              simp only [List.getElem_toArray, List.getElem_cons_succ, List.getElem_cons_zero, Act.put, List.setIfInBounds_toArray, List.set_cons_zero, List.set_cons_succ]
              refine wpAnyH_take (i := 5) (v := .agg #[.int .u64 B.c, .bool B.o, .int .i64 (hi B.s), .int .u64 (lo B.s), .int .i64 B.mn, .int .i64 B.mx]) rfl (by kernel_rfl) (by kernel_rfl) (by kernel_rfl) (fun _ _ _ h => h) (Or.inl ⟨by rfl, ?_⟩) (by assumption) ?_
              · (intro w1 hSw; (try dsimp only at hSw); have gx := HN2q.out.below hSw; have g0 := gx.c3; have g1 := gx.c4; have g2 := gx.c5; have g3 := gx.c6; have g4 := gx.c7; have g5 := gx.c8; go_simp)
              simp only [List.getElem_toArray, List.getElem_cons_succ, List.getElem_cons_zero, Act.put, List.setIfInBounds_toArray, List.set_cons_zero, List.set_cons_succ]
              refine wpAnyH_take (i := 6) (v := .bool false) rfl (by kernel_rfl) (by kernel_rfl) (by kernel_rfl) (fun _ _ _ h => h) (Or.inl ⟨by rfl, ?_⟩) (by assumption) ?_
              · (intro w1 hSw; (try dsimp only at hSw); go_simp)
              simp only [List.getElem_toArray, List.getElem_cons_succ, List.getElem_cons_zero, Act.put, List.setIfInBounds_toArray, List.set_cons_zero, List.set_cons_succ]
              refine wpAnyH_take (i := 7) (v := .bool false) rfl (by kernel_rfl) (by kernel_rfl) (by kernel_rfl) (fun _ _ _ h => h) (Or.inl ⟨by rfl, ?_⟩) (by assumption) ?_
              · (intro w1 hSw; (try dsimp only at hSw); go_simp)
              simp only [List.getElem_toArray, List.getElem_cons_succ, List.getElem_cons_zero, Act.put, List.setIfInBounds_toArray, List.set_cons_zero, List.set_cons_succ]
              refine wpAnyH_take (i := 8) (v := .int .i64 (j : Int)) rfl (by kernel_rfl) (by kernel_rfl) (by kernel_rfl) (fun _ _ _ h => h) (Or.inl ⟨by rfl, ?_⟩) (by assumption) ?_
              · (intro w1 hSw; (try dsimp only at hSw); go_simp)
              simp only [List.getElem_toArray, List.getElem_cons_succ, List.getElem_cons_zero, Act.put, List.setIfInBounds_toArray, List.set_cons_zero, List.set_cons_succ]
              refine wpAnyH_take (i := 9) (v := .bool true) rfl (by kernel_rfl) (by kernel_rfl) (by kernel_rfl) (fun _ _ _ h => h) (Or.inl ⟨by rfl, ?_⟩) (by assumption) ?_
              · (intro w1 hSw; (try dsimp only at hSw); go_simp)
              simp only [List.getElem_toArray, List.getElem_cons_succ, List.getElem_cons_zero, Act.put, List.setIfInBounds_toArray, List.set_cons_zero, List.set_cons_succ]
              refine wpAnyH_take (i := 10) (v := .bool true) rfl (by kernel_rfl) (by kernel_rfl) (by kernel_rfl) (fun _ _ _ h => h) (Or.inl ⟨by rfl, ?_⟩) (by assumption) ?_
              · (intro w1 hSw; (try dsimp only at hSw); go_simp)
              simp only [List.getElem_toArray, List.getElem_cons_succ, List.getElem_cons_zero, Act.put, List.setIfInBounds_toArray, List.set_cons_zero, List.set_cons_succ]
              refine wpAnyH_take (i := 11) (v := .slice (some ⟨b2, o2, none⟩) m yc) rfl (by kernel_rfl) (by kernel_rfl) (by kernel_rfl) (fun _ _ _ h => h) (Or.inl ⟨by rfl, ?_⟩) (by assumption) ?_
              · (intro w1 hSw; (try dsimp only at hSw); go_simp)
              simp only [List.getElem_toArray, List.getElem_cons_succ, List.getElem_cons_zero, Act.put, List.setIfInBounds_toArray, List.set_cons_zero, List.set_cons_succ]
              refine wpAnyH_take (i := 12) (v := .int .i64 (j : Int)) rfl (by kernel_rfl) (by kernel_rfl) (by kernel_rfl) (fun _ _ _ h => h) (Or.inl ⟨by rfl, ?_⟩) (by assumption) ?_
              · (intro w1 hSw; (try dsimp only at hSw); go_simp)
              simp only [List.getElem_toArray, List.getElem_cons_succ, List.getElem_cons_zero, Act.put, List.setIfInBounds_toArray, List.set_cons_zero, List.set_cons_succ]
              refine wpAnyH_take (i := 13) (v := .int .i64 (i : Int)) rfl (by kernel_rfl) (by kernel_rfl) (by kernel_rfl) (fun _ _ _ h => h) (Or.inl ⟨by rfl, ?_⟩) (by assumption) ?_
              · (intro w1 hSw; (try dsimp only at hSw); go_simp)
              simp only [List.getElem_toArray, List.getElem_cons_succ, List.getElem_cons_zero, Act.put, List.setIfInBounds_toArray, List.set_cons_zero, List.set_cons_succ]
              refine wpAnyH_take (i := 14) (v := .pointer (some ⟨b2, o2 + i * 9, none⟩)) rfl (by kernel_rfl) (by kernel_rfl) (by kernel_rfl) (fun _ _ _ h => h) (Or.inl ⟨by rfl, ?_⟩) (by assumption) ?_
              · (intro w1 hSw; (try dsimp only at hSw); go_simp)
              simp only [List.getElem_toArray, List.getElem_cons_succ, List.getElem_cons_zero, Act.put, List.setIfInBounds_toArray, List.set_cons_zero, List.set_cons_succ]
              refine wpAnyH_take (i := 15) (v := .pointer (some ⟨b2, o2 + i * 9, none⟩)) rfl (by kernel_rfl) (by kernel_rfl) (by kernel_rfl) (fun _ _ _ h => h) (Or.inl ⟨by rfl, ?_⟩) (by assumption) ?_
              · (intro w1 hSw; (try dsimp only at hSw); go_simp)
              simp only [List.getElem_toArray, List.getElem_cons_succ, List.getElem_cons_zero, Act.put, List.setIfInBounds_toArray, List.set_cons_zero, List.set_cons_succ]
              refine wpAnyH_take (i := 16) (v := .slice va vn vc) rfl (by kernel_rfl) (by kernel_rfl) (by kernel_rfl) (fun _ _ _ h => h) (Or.inl ⟨by rfl, ?_⟩) (by assumption) ?_
              · (intro w1 hSw; (try dsimp only at hSw); have g0 := (HN3.out.below hSw).c0; go_simp)
              simp only [List.getElem_toArray, List.getElem_cons_succ, List.getElem_cons_zero, Act.put, List.setIfInBounds_toArray, List.set_cons_zero, List.set_cons_succ]
              refine wpAnyH_take (i := 17) (v := .slice (some ⟨b2, o2, none⟩) m yc) rfl (by kernel_rfl) (by kernel_rfl) (by kernel_rfl) (fun _ _ _ h => h) (Or.inl ⟨by rfl, ?_⟩) (by assumption) ?_
              · (intro w1 hSw; (try dsimp only at hSw); go_simp)
              simp only [List.getElem_toArray, List.getElem_cons_succ, List.getElem_cons_zero, Act.put, List.setIfInBounds_toArray, List.set_cons_zero, List.set_cons_succ]
              refine wpAnyH_take (i := 18) (v := .int .i64 (j : Int)) rfl (by kernel_rfl) (by kernel_rfl) (by kernel_rfl) (fun _ _ _ h => h) (Or.inl ⟨by rfl, ?_⟩) (by assumption) ?_
              · (intro w1 hSw; (try dsimp only at hSw); go_simp)
              simp only [List.getElem_toArray, List.getElem_cons_succ, List.getElem_cons_zero, Act.put, List.setIfInBounds_toArray, List.set_cons_zero, List.set_cons_succ]
              refine wpAnyH_take (i := 19) (v := .pointer (some ⟨b2, o2 + j * 9, none⟩)) rfl (by kernel_rfl) (by kernel_rfl) (by kernel_rfl) (fun _ _ _ h => h) (Or.inl ⟨by rfl, ?_⟩) (by assumption) ?_
              · (intro w1 hSw; (try dsimp only at hSw); go_simp)
              simp only [List.getElem_toArray, List.getElem_cons_succ, List.getElem_cons_zero, Act.put, List.setIfInBounds_toArray, List.set_cons_zero, List.set_cons_succ]
              refine wpAnyH_take (i := 20) (v := .pointer (some ⟨b2, o2 + j * 9, none⟩)) rfl (by kernel_rfl) (by kernel_rfl) (by kernel_rfl) (fun _ _ _ h => h) (Or.inl ⟨by rfl, ?_⟩) (by assumption) ?_
              · (intro w1 hSw; (try dsimp only at hSw); go_simp)
              simp only [List.getElem_toArray, List.getElem_cons_succ, List.getElem_cons_zero, Act.put, List.setIfInBounds_toArray, List.set_cons_zero, List.set_cons_succ]
              refine wpAnyH_take (i := 21) (v := .slice ua un uc) rfl (by kernel_rfl) (by kernel_rfl) (by kernel_rfl) (fun _ _ _ h => h) (Or.inl ⟨by rfl, ?_⟩) (by assumption) ?_
              · (intro w1 hSw; (try dsimp only at hSw); have g0 := (HN2q.out.below hSw).c0; go_simp)
              simp only [List.getElem_toArray, List.getElem_cons_succ, List.getElem_cons_zero, Act.put, List.setIfInBounds_toArray, List.set_cons_zero, List.set_cons_succ]
              refine wpAnyH_ready (rs := [22]) (by kernel_rfl) (by simp) ?_
              refine AllReadyH.cons (o := _) rfl (fun K hK => ?_) AllReadyH.nil
              go_simp
              refine (HOR.out _ (Below.refl _ _).drew).mono ?_
              clear HOR
              rintro e V ⟨rfl, hb3⟩
              have HBqV : Hid (Below wq.heap.size wq V) := (Below.refl wq.heap.size wq).drew.trans hb3
              clear hb3
              refine hK.out _ _ ?_ (fun hHeld => ?_)
              · exact HBqV.out
              clear hK K
              refine wpAnyH_take (i := 23) (v := .bool false) rfl (by kernel_rfl) (by kernel_rfl) (by kernel_rfl) (fun _ _ _ h => h) (Or.inl ⟨by rfl, ?_⟩) (by assumption) ?_
              · (intro w1 hSw; (try dsimp only at hSw); go_simp)
              simp only [List.getElem_toArray, List.getElem_cons_succ, List.getElem_cons_zero, Act.put, List.setIfInBounds_toArray, List.set_cons_zero, List.set_cons_succ]
              refine wpAnyH_take (i := 24) (v := .bool false) rfl (by kernel_rfl) (by kernel_rfl) (by kernel_rfl) (fun _ _ _ h => h) (Or.inl ⟨by rfl, ?_⟩) (by assumption) ?_
              · (intro w1 hSw; (try dsimp only at hSw); go_simp)
              simp only [List.getElem_toArray, List.getElem_cons_succ, List.getElem_cons_zero, Act.put, List.setIfInBounds_toArray, List.set_cons_zero, List.set_cons_succ]
              refine wpAnyH_take (i := 25) (v := .bool false) rfl (by kernel_rfl) (by kernel_rfl) (by kernel_rfl) (fun _ _ _ h => h) (Or.inl ⟨by rfl, ?_⟩) (by assumption) ?_
              · (intro w1 hSw; (try dsimp only at hSw); go_simp)
              simp only [List.getElem_toArray, List.getElem_cons_succ, List.getElem_cons_zero, Act.put, List.setIfInBounds_toArray, List.set_cons_zero, List.set_cons_succ]
              clear hHeld
              refine wpAnyH_done (by kernel_rfl) ?_ _
              refine NoPanic.normal ?_
              have HZV : Hid (V.heap[W0.heap.size + 1]? = some (.cells #[.int .u64 A.c, .bool A.o, .int .i64 (hi A.s), .int .u64 (lo A.s), .int .i64 A.mn, .int .i64 A.mx] 40)) := (HBqV.out.block _ (by omega)).trans HZq.out
              have HNV : Hid (N9 V b2 (o2 + j * 9) (.slice ua un uc) yf yz B.c (hi B.s) (lo B.s) B.mn B.mx B.o) := HN2q.out.below HBqV.out
              have HBV : Hid (Below (W0.heap.size + 1) w4 V) := HBrq.out.trans (HBqV.out.mono (by omega))
              have hvl : W0.heap.size + 1 < V.heap.size := (Array.getElem?_eq_some_iff.1 HZV.out).1
              clear HBqV HN2q HCq HN3
              go_wp2_with fail
              obtain ⟨z0, z1, z2, z3, z4, z5⟩ := six17 HZV.out
              have HRC : Hid (∀ Z, Below V.heap.size V Z → N9 Z b2 (o2 + j * 9) (.slice ua un uc) yf yz B.c (hi B.s) (lo B.s) B.mn B.mx B.o) := fun Z hZ => HNV.out.below hZ
              have e0 := HNV.out.c3
              have e1 := HNV.out.c4
              have e2 := HNV.out.c5
              have e3 := HNV.out.c6
              have e4 := HNV.out.c7
              have e5 := HNV.out.c8
              refine wp_region_noPanic ?_
              refine wp_region_S 7 (fun _ => True) (fun w' => w'.cell? ⟨W0.heap.size + 1, 0, none⟩ = some (.int .u64 A.c) ∧ w'.cell? ⟨W0.heap.size + 1, 1, none⟩ = some (.bool A.o) ∧ w'.cell? ⟨W0.heap.size + 1, 2, none⟩ = some (.int .i64 (hi A.s)) ∧ w'.cell? ⟨W0.heap.size + 1, 3, none⟩ = some (.int .u64 (lo A.s)) ∧ w'.cell? ⟨W0.heap.size + 1, 4, none⟩ = some (.int .i64 A.mn) ∧ w'.cell? ⟨W0.heap.size + 1, 5, none⟩ = some (.int .i64 A.mx) ∧ w'.cell? ⟨b2, o2 + j * 9 + 3, none⟩ = some (.int .u64 B.c) ∧ w'.cell? ⟨b2, o2 + j * 9 + 4, none⟩ = some (.bool B.o) ∧ w'.cell? ⟨b2, o2 + j * 9 + 5, none⟩ = some (.int .i64 (hi B.s)) ∧ w'.cell? ⟨b2, o2 + j * 9 + 6, none⟩ = some (.int .u64 (lo B.s)) ∧ w'.cell? ⟨b2, o2 + j * 9 + 7, none⟩ = some (.int .i64 B.mn) ∧ w'.cell? ⟨b2, o2 + j * 9 + 8, none⟩ = some (.int .i64 B.mx)) (by kernel_rfl) ?_ ?_ (fun hHeld => ?_)
              · trivial
              · exact ⟨z0, z1, z2, z3, z4, z5, e0, e1, e2, e3, e4, e5⟩
              refine wpAnyS_take (i := 0) (v := .agg #[.int .u64 A.c, .bool A.o, .int .i64 (hi A.s), .int .u64 (lo A.s), .int .i64 A.mn, .int .i64 A.mx]) true rfl (by kernel_rfl) (by kernel_rfl) (by kernel_rfl) (by kernel_rfl) (by kernel_rfl) (by kernel_rfl) (fun _ _ _ h => h) (Or.inl ⟨by rfl, ?_⟩) hHeld (fun hHeld => ?_)
              · (intro w1 hSw; have hSw2 := hSw.2 rfl; have hSw := hSw.1; (try dsimp only at hSw hSw2); go_simp)
              simp only [List.getElem_toArray, List.getElem_cons_zero, Act.put, List.setIfInBounds_toArray, List.set_cons_zero, List.set_cons_succ]
              refine wpAnyS_take (i := 1) (v := .slice (some ⟨b2, o2, none⟩) m yc) _ rfl (by kernel_rfl) (by kernel_rfl) (by kernel_rfl) (by kernel_rfl) (by kernel_rfl) rfl (fun _ _ _ h => h) (Or.inl ⟨by rfl, ?_⟩) hHeld (fun hHeld => ?_)
              · (intro w1 hSw; have hSw := hSw.1; (try dsimp only at hSw); go_simp)
              simp only [List.getElem_toArray, List.getElem_cons_succ, List.getElem_cons_zero, Act.put, List.setIfInBounds_toArray, List.set_cons_zero, List.set_cons_succ]
              refine wpAnyS_take (i := 2) (v := .int .i64 (j : Int)) _ rfl (by kernel_rfl) (by kernel_rfl) (by kernel_rfl) (by kernel_rfl) (by kernel_rfl) rfl (fun _ _ _ h => h) (Or.inl ⟨by rfl, ?_⟩) hHeld (fun hHeld => ?_)
              · (intro w1 hSw; have hSw := hSw.1; (try dsimp only at hSw); go_simp)
              simp only [List.getElem_toArray, List.getElem_cons_succ, List.getElem_cons_zero, Act.put, List.setIfInBounds_toArray, List.set_cons_zero, List.set_cons_succ]
              refine wpAnyS_take (i := 3) (v := .pointer (some ⟨b2, o2 + j * 9, none⟩)) _ rfl (by kernel_rfl) (by kernel_rfl) (by kernel_rfl) (by kernel_rfl) (by kernel_rfl) rfl (fun _ _ _ h => h) (Or.inl ⟨by rfl, ?_⟩) hHeld (fun hHeld => ?_)
              · (intro w1 hSw; have hSw := hSw.1; (try dsimp only at hSw); go_simp)
              simp only [List.getElem_toArray, List.getElem_cons_succ, List.getElem_cons_zero, Act.put, List.setIfInBounds_toArray, List.set_cons_zero, List.set_cons_succ]
              refine wpAnyS_take (i := 4) (v := .pointer (some ⟨b2, o2 + j * 9 + 3, none⟩)) _ rfl (by kernel_rfl) (by kernel_rfl) (by kernel_rfl) (by kernel_rfl) (by kernel_rfl) rfl (fun _ _ _ h => h) (Or.inl ⟨by rfl, ?_⟩) hHeld (fun hHeld => ?_)
              · (intro w1 hSw; have hSw := hSw.1; (try dsimp only at hSw); go_simp)
              simp only [List.getElem_toArray, List.getElem_cons_succ, List.getElem_cons_zero, Act.put, List.setIfInBounds_toArray, List.set_cons_zero, List.set_cons_succ]
              refine wpAnyS_take (i := 5) (v := .agg #[.int .u64 B.c, .bool B.o, .int .i64 (hi B.s), .int .u64 (lo B.s), .int .i64 B.mn, .int .i64 B.mx]) true rfl (by kernel_rfl) (by kernel_rfl) (by kernel_rfl) (by kernel_rfl) (by kernel_rfl) (by kernel_rfl) (fun _ _ _ h => h) (Or.inl ⟨by rfl, ?_⟩) hHeld (fun hHeld => ?_)
              · (intro w1 hSw; have hSw2 := hSw.2 rfl; have hSw := hSw.1; (try dsimp only at hSw hSw2); go_simp)
              simp only [List.getElem_toArray, List.getElem_cons_succ, List.getElem_cons_zero, Act.put, List.setIfInBounds_toArray, List.set_cons_zero, List.set_cons_succ]
              refine wpAnyS_ready (i := 6) (by kernel_rfl) rfl (fun K hK => ?_)
              go_simp
              refine (HMG.out _).mono ?_
              rintro e u6 ⟨rfl, hb6'⟩
              have hb6 : Below V.heap.size V u6 := (Below.refl V.heap.size V).drew.trans hb6'
              have HB6 : Hid (Below V.heap.size V u6) := hb6
              clear hb6'
              have HX6 : Hid (u6.heap[W0.heap.size + 1]? = some (.cells #[.int .u64 A.c, .bool A.o, .int .i64 (hi A.s), .int .u64 (lo A.s), .int .i64 A.mn, .int .i64 A.mx] 40)) := (hb6.block _ (Array.getElem?_eq_some_iff.1 HZV.out).1).trans HZV.out
              have HR6 := HRC.out _ hb6
              have d0 := HR6.c3
              have d1 := HR6.c4
              have d2 := HR6.c5
              have d3 := HR6.c6
              have d4 := HR6.c7
              have d5 := HR6.c8
              clear HR6 hb6
              obtain ⟨y0, y1, y2, y3, y4, y5⟩ := six17 HX6.out
              go_simp
              refine hK.out _ _ ⟨?_, fun _ => ?_⟩ (fun hHeld => ?_)
              · trivial
              · exact ⟨y0, y1, y2, y3, y4, y5, d0, d1, d2, d3, d4, d5⟩
              clear hK K
              refine wpAnyS_ready (i := 7) (by kernel_rfl) rfl (fun K hK => ?_)
              rw [if_pos (by rfl)]
              refine wp_storeN _ _ _ rfl (W0.heap.size + 1) 0 [.int .u64 M.c, .bool M.o, .int .i64 (hi M.s), .int .u64 (lo M.s), .int .i64 M.mn, .int .i64 M.mx] rfl rfl #[.int .u64 A.c, .bool A.o, .int .i64 (hi A.s), .int .u64 (lo A.s), .int .i64 A.mn, .int .i64 A.mx] _ HX6.out (by simp) (by kernel_rfl) (by kernel_rfl) (fun u7 hW7 => ?_)
              refine hK.out _ _ ⟨?_, fun hno => absurd hno (by decide)⟩ (fun hHeld => ?_)
              · trivial
              clear hK K
              refine wpAnyS_done (by kernel_rfl) ?_ _
              refine NoPanic.normal ?_
              have HX7 : Hid (u7.heap[W0.heap.size + 1]? = some (.cells #[.int .u64 M.c, .bool M.o, .int .i64 (hi M.s), .int .u64 (lo M.s), .int .i64 M.mn, .int .i64 M.mx] 40)) := st17 rfl hW7
              have hb67 : Below (W0.heap.size + 1) u6 u7 := hW7.b _ (Nat.le_refl _)
              skip
              clear hW7 y0 y1 y2 y3 y4 y5 z0 z1 z2 z3 z4 z5 e0 e1 e2 e3 e4 e5 d0 d1 d2 d3 d4 d5
              have HBN : Hid (Below (W0.heap.size + 1) w4 u7) := HBV.out.trans ((HB6.out.mono (by omega)).trans hb67)
              clear HBV HB6 hb67 HX6 HRC HMG HZV HNV
              go_wp2_with fail
              go_roundw
              case rel => exact ⟨j + 1, M, by omega, by go_num, HMB, HX7, HBN⟩
              case measure => simp [intOf]; omega
      · obtain rfl : j = m := by omega
        have hlt' : ¬ (j : Int) < (j : Int) := by omega
        have hAS : A = og := by
          rw [HA.out, List.take_of_length_le (by rw [List.length_map, Hm.out]; exact Nat.le_refl _)]
          exact HGS.out
        subst hAS
        have HBx : Hid (Below w.heap.size w wv) := HB0.out.trans (HBW.out.mono HB0.out.size)
        clear HA HGA HGL HGS
        go_wp2_with fail
        refine (alive17_any wv).mono ?_
        rintro e w6 ⟨rfl, hb6⟩
        have HB6 : Hid (Below w.heap.size w w6) := HBx.out.trans (hb6.mono HBx.out.size)
        have HP6 : Hid (w6.heap[W0.heap.size]? = some (.cells #[.int .u64 A.c, .bool A.o, .int .i64 (hi A.s), .int .u64 (lo A.s), .int .i64 A.mn, .int .i64 A.mx] 40)) := (hb6.block _ (by omega)).trans HPr.out
        have HZ6 : Hid (w6.heap[W0.heap.size + 1]? = some (.cells #[.int .u64 A.c, .bool A.o, .int .i64 (hi A.s), .int .u64 (lo A.s), .int .i64 A.mn, .int .i64 A.mx] 40)) := (hb6.block _ hwl).trans HZr.out
        obtain ⟨z0, z1, z2, z3, z4, z5⟩ := six17 HP6.out
        obtain ⟨y0, y1, y2, y3, y4, y5⟩ := six17 HZ6.out
        clear hb6
        go_wp2_with fail
        go_ret
        exact ⟨rfl, HB6.out⟩
  · have hq : qm < 0 := HC3.out hc3
    have hcb : (c3 == 0) = false := by simp [hc3]
    have hcb' : (c3 != 0) = true := by simp [hc3]
    have HB4w : Hid (Below w.heap.size w w4) := HB0.out.trans (HB4.out.mono HB0.out.size)
    clear HGY hqm HC3
    go_wp2_with fail
    refine (alive17_any w4).mono ?_
    rintro e w6 ⟨rfl, hb6⟩
    have HB6 : Hid (Below w.heap.size w w6) := HB4w.out.trans (hb6.mono HB4w.out.size)
    have HY6 : Hid (w6.heap[w.heap.size + 1]? = some (.cells #[.slice da dn dc, .int .i64 qt, .int .i64 qf, .int .i64 qu, .int .i64 qm] 28)) := (hb6.block _ (Array.getElem?_eq_some_iff.1 HY4.out).1).trans HY4.out
    have y4 := (cell_row HY6.out 4 (by simp)).1
    simp only [List.getElem_toArray, List.getElem_cons_zero, List.getElem_cons_succ] at y4
    clear hb6
    go_wp2_with fail
    go_ret
    exact ⟨rfl, HB6.out⟩
end Go.Proofs.Ytoenijflijfogaa
