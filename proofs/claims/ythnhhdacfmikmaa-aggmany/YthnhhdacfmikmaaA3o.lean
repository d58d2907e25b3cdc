/- The contract of agg.Write, of what is over. -/
import Derived.Test.YthnhhdacfmikmaaA3
namespace Go.Proofs.Ythnhhdacfmikmaa
open Go.RowKit

set_option maxRecDepth 100000 in
set_option maxHeartbeats 1000000 in
theorem aggWrite_over (a : Ag) (ho : a.o = true) (hr : rightB a = true) (c1 : 0 ≤ a.c ∧ a.c < 18446744073709551616) (w : World) :
    Calls Try.prog 8 #[.agg #[.int .u64 a.c, .bool a.o, .int .i64 (hi a.s), .int .u64 (lo a.s), .int .i64 a.mn, .int .i64 a.mx]] w fun e w' => ∃ v, e = .returned (.tuple #[v, .int .i64 0]) ∧ w'.ownsRow (w.heap.size + 1) 5 1 v 41 ((aggBytes a).map (Value.int .u8)) ∧ Below w.heap.size w w' := by
  obtain ⟨i0, hif, hz0, hz1, hz2⟩ := info_parts info5
  have HO : Hid _ := ho
  have HR : Hid _ := hr
  clear ho hr
  have hmk := mk41
  have hz41 := zer41_0
  go_enter Try.func8, Try.ntmps8
  go_wp2_with fail
  refine (right_any a _).mono ?_
  rw [HR.out]
  rintro e w1 ⟨rfl, hb1⟩
  have hs1 : w.heap.size < w1.heap.size := by have := hb1.size; simp at this; omega
  have k0 := hb1.cell (p := ⟨w.heap.size, 0, none⟩) (by simp)
  have k1 := hb1.cell (p := ⟨w.heap.size, 1, none⟩) (by simp)
  have k2 := hb1.cell (p := ⟨w.heap.size, 2, none⟩) (by simp)
  have k3 := hb1.cell (p := ⟨w.heap.size, 3, none⟩) (by simp)
  have k4 := hb1.cell (p := ⟨w.heap.size, 4, none⟩) (by simp)
  have k5 := hb1.cell (p := ⟨w.heap.size, 5, none⟩) (by simp)
  simp [go_sem] at k0 k1 k2 k3 k4 k5
  rw [HO.out] at k1
  have HX : Hid (BoxA a w.heap.size w1) := ⟨hs1, k0, k2, k3, k4, k5⟩
  have HB1 : Hid (Below w.heap.size w w1) := ((Below.refl _ _).alloc (by simp) _).trans (hb1.mono (by simp))
  clear hb1
  go_wp2_with fail
  clear k0 k1 k2 k3 k4 k5 hmk
  have hown1 : (w1.alloc (.cells one41 5)).ownsRow (w.heap.size + 1) 5 1 (.slice (some ⟨w1.heap.size, 0, none⟩) 1 41) 1 [.int .u8 1] := by
    refine ⟨rfl, Or.inr ⟨w1.heap.size, 41, one41, rfl, by omega, ?_, by decide, by decide, rfl, rfl⟩⟩
    show (w1.heap.push _)[w1.heap.size]? = _
    simp
  refine (word1 (w1.heap.size + 1) a.c c1 _ (by simp) (by simp [go_sem])).mono ?_
  rintro e w2 ⟨v2, rfl, hown2, hb2⟩
  have hown3 := own_below (hown1.alloc (.cells #[.int .u64 a.c] 24)) hb2
  have hx2 : BoxA a w.heap.size w2 := (HX.out.al.al).below hb2
  have HB2 : Hid (Below w.heap.size w w2) := ((HB1.out.alloc HB1.out.size _).alloc (by simp; omega) _).trans (hb2.mono (by simp; omega))
  have hsz2 : w.heap.size + 1 < w2.heap.size := by have := hb2.size; simp at this; omega
  obtain ⟨g2, cap2, hv2, hg2, hg2', hnews2⟩ := own_form hown2 (by decide)
  rw [hv2]
  clear hown1 hb2 hown2 hv2
  go_wp2_with (at_builtin; refine wpList_append_own _ rfl (.tmp 13) (.tmp 17) 31 rfl (w.heap.size + 1) 5 i0 (.int .u8 0) 1 1 Try.underlying31 hif hz0 hz1 hz2 rfl (by decide) _ 1 _ rfl hown3 ⟨g2, 0, none⟩ 8 cap2 ((eight a.c).map (Value.int .u8)) rfl (by rw [List.length_map, eight_len]) hnews2 (by intro u hu; obtain ⟨z, _, rfl⟩ := List.mem_map.1 hu; rfl) (by unfold maxLen; omega) (by omega) ?c5 ?_)
  case c5 => omega
  intro v3 w3 hown4 hgrow3 _
  have hx3 : BoxA a w.heap.size w3 := hx2.grown hgrow3 (own_block1 hown3 _ (by omega))
  have HB3 : Hid (Below w.heap.size w w3) := HB2.out.grown hgrow3 HB2.out.size (fun k hk => by have := own_block hown3 k hk; omega)
  have hsz3 : w.heap.size + 1 < w3.heap.size := by have := hgrow3.size; omega
  obtain ⟨j0, j1, j2, j3, j4, j5⟩ := hx3
  have HX3 : Hid (BoxA a w.heap.size w3) := ⟨j0, j1, j2, j3, j4, j5⟩
  have HO4 : Hid _ := hown4
  clear hown3 hown4 hgrow3 hx2 hnews2
  go_wp2_with fail
  clear j1 j2 j3 j4 j5
  refine (wideWrite_any a.s _).mono ?_
  rintro e w4 ⟨v4, rfl, hown5, hb4⟩
  have hown6 := own_below HO4.out hb4
  have hx4 : BoxA a w.heap.size w4 := HX3.out.below hb4
  have HB4 : Hid (Below w.heap.size w w4) := HB3.out.trans (hb4.mono HB3.out.size)
  have hsz4 : w.heap.size + 1 < w4.heap.size := by have := hb4.size; omega
  obtain ⟨g4, cap4, hv4, hg4, hg4', hnews4⟩ := own_form hown5 (by decide)
  rw [hv4]
  clear hb4 hown5 hv4 HO4
  go_wp2_with (at_builtin; refine wpList_append_own _ rfl (.tmp 19) (.tmp 22) 31 rfl (w.heap.size + 1) 5 i0 (.int .u8 0) 1 1 Try.underlying31 hif hz0 hz1 hz2 rfl (by decide) _ 9 _ rfl hown6 ⟨g4, 0, none⟩ 16 cap4 ((sixteen (hi a.s % 18446744073709551616) (lo a.s)).map (Value.int .u8)) rfl (by rw [List.length_map, sixteen_len]) hnews4 (by intro u hu; obtain ⟨z, _, rfl⟩ := List.mem_map.1 hu; rfl) (by unfold maxLen; omega) (by omega) ?c5 ?_)
  case c5 => omega
  intro v5 w5 hown7 hgrow5 _
  have hx5 : BoxA a w.heap.size w5 := hx4.grown hgrow5 (own_block1 hown6 _ (by omega))
  have HB5 : Hid (Below w.heap.size w w5) := HB4.out.grown hgrow5 HB4.out.size (fun k hk => by have := own_block hown6 k hk; omega)
  have hsz5 : w.heap.size + 1 < w5.heap.size := by have := hgrow5.size; omega
  obtain ⟨j0, j1, j2, j3, j4, j5⟩ := hx5
  have HO7 : Hid _ := hown7
  clear hown6 hown7 hgrow5 hx4 hnews4
  go_wp2_with fail
  clear j1 j2 j3 j4 j5
  simp only [IntKind.wrap_u64]
  refine (word2 w5.heap.size (a.mn % 18446744073709551616) (a.mx % 18446744073709551616) (by omega) (by omega) _ (by simp) (by simp [go_sem]) (by simp [go_sem])).mono ?_
  rintro e w6 ⟨v6, rfl, hown8, hb6⟩
  have hown9 := own_below (World.ownsRow.alloc (Hid.out HO7) (.cells #[.int .u64 (a.mn % 18446744073709551616), .int .u64 (a.mx % 18446744073709551616)] 24)) hb6
  have HB6 : Hid (Below w.heap.size w w6) := (HB5.out.alloc HB5.out.size _).trans (hb6.mono (by simp; omega))
  have hsz6 : w.heap.size + 1 < w6.heap.size := by have := hb6.size; simp at this; omega
  obtain ⟨g6, cap6, hv6, hg6, hg6', hnews6⟩ := own_form hown8 (by decide)
  rw [hv6]
  clear hb6 hown8 hv6 HO7
  go_wp2_with (at_builtin; refine wpList_append_own _ rfl (.tmp 24) (.tmp 32) 31 rfl (w.heap.size + 1) 5 i0 (.int .u8 0) 1 1 Try.underlying31 hif hz0 hz1 hz2 rfl (by decide) _ 25 _ rfl hown9 ⟨g6, 0, none⟩ 16 cap6 ((sixteen (a.mn % 18446744073709551616) (a.mx % 18446744073709551616)).map (Value.int .u8)) rfl (by rw [List.length_map, sixteen_len]) hnews6 (by intro u hu; obtain ⟨z, _, rfl⟩ := List.mem_map.1 hu; rfl) (by unfold maxLen; omega) (by omega) ?c5 ?_)
  case c5 => omega
  intro v7 w7 hown10 hgrow7 _
  have HB7 : Hid (Below w.heap.size w w7) := HB6.out.grown hgrow7 HB6.out.size (fun k hk => by have := own_block hown9 k hk; omega)
  have HO10 : Hid (w7.ownsRow (w.heap.size + 1) 5 1 v7 41 ((aggBytes a).map (Value.int .u8))) := by
    have e : (aggBytes a).map (Value.int .u8) = [Value.int .u8 1] ++ (eight a.c).map (Value.int .u8) ++ (sixteen (hi a.s % 18446744073709551616) (lo a.s)).map (Value.int .u8) ++ (sixteen (a.mn % 18446744073709551616) (a.mx % 18446744073709551616)).map (Value.int .u8) := by
      unfold aggBytes; rw [HO.out]; simp
    rw [e]; exact hown10
  clear hown9 hown10 hgrow7 hnews6
  go_wp2_with fail
  go_ret2
  exact ⟨_, rfl, HO10.out, HB7.out⟩
end Go.Proofs.Ythnhhdacfmikmaa
