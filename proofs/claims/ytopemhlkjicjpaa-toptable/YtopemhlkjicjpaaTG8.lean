/- W11 A3 A3o W12, joined. -/
import Derived.Test.YtopemhlkjicjpaaTG3
import Derived.Test.YtopemhlkjicjpaaTG7
import Derived.Laws.BitsAllLaws
/- The contract of wide.Write: sixteen bytes, the greatest first. -/
namespace Go.Proofs.Ytopemhlkjicjpaa
open Go.RowKit

theorem mk8 : ∀ w, (Instr.makeSlice 23 (.int .i64 0) (.int .i64 (8 * ((1 : Nat) : Int)))).run Try.prog w = .ok (.slice (some ⟨w.heap.size, 0, none⟩) 0 (8 * 1)) (w.alloc (.cells (Array.replicate (8 * 1) (.int .u8 0)) 5)) := fun _ => by kernel_rfl
theorem mk16 : ∀ w, (Instr.makeSlice 23 (.int .i64 0) (.int .i64 (8 * ((2 : Nat) : Int)))).run Try.prog w = .ok (.slice (some ⟨w.heap.size, 0, none⟩) 0 (8 * 2)) (w.alloc (.cells (Array.replicate (8 * 2) (.int .u8 0)) 5)) := fun _ => by kernel_rfl
/-- The eight bytes of one number, the sixteen of two. -/
def eight (x : Int) : List Int := bytesTo [x] 8
def sixteen (x y : Int) : List Int := bytesTo [x, y] 16
theorem eight_len (x : Int) : (eight x).length = 8 := bytesTo_len _ _
theorem sixteen_len (x y : Int) : (sixteen x y).length = 16 := bytesTo_len _ _
theorem word1 (b : Nat) (x : Int) (hx : 0 ≤ x ∧ x < 18446744073709551616) (w : World) (hbw : b < w.heap.size) (h0 : w.cell? ⟨b, 0, none⟩ = some (.int .u64 x)) :
    Calls Try.prog 28 #[.slice (some ⟨b, 0, none⟩) 1 1] w fun e w' => ∃ v, e = .returned v ∧ w'.ownsRow w.heap.size 5 1 v 8 ((eight x).map (Value.int .u8)) ∧ Below w.heap.size w w' :=
  wordWrite_any b 1 [x] rfl (by omega) (by intro z hz; simp at hz; subst hz; exact hx) w hbw (by
    intro i hi
    match i, hi with
    | 0, _ => simpa using h0) mk8
theorem word2 (b : Nat) (x y : Int) (hx : 0 ≤ x ∧ x < 18446744073709551616) (hy : 0 ≤ y ∧ y < 18446744073709551616) (w : World) (hbw : b < w.heap.size) (h0 : w.cell? ⟨b, 0, none⟩ = some (.int .u64 x)) (h1 : w.cell? ⟨b, 1, none⟩ = some (.int .u64 y)) :
    Calls Try.prog 28 #[.slice (some ⟨b, 0, none⟩) 2 2] w fun e w' => ∃ v, e = .returned v ∧ w'.ownsRow w.heap.size 5 1 v 16 ((sixteen x y).map (Value.int .u8)) ∧ Below w.heap.size w w' :=
  wordWrite_any b 2 [x, y] rfl (by omega) (by intro z hz; simp at hz; rcases hz with rfl | rfl <;> assumption) w hbw (by
    intro i hi
    match i, hi with
    | 0, _ => simpa using h0
    | 1, _ => simpa using h1) mk16

set_option maxHeartbeats 400000 in
theorem wideWrite_any (x : Int) (w : World) :
    Calls Try.prog 71 #[.agg #[.int .i64 (hi x), .int .u64 (lo x)]] w fun e w' => ∃ v, e = .returned v ∧ w'.ownsRow w.heap.size 5 1 v 16 ((sixteen (hi x % 18446744073709551616) (lo x)).map (Value.int .u8)) ∧ Below w.heap.size w w' := by
  have lx := lo_bd x; have hx := hi_bd x
  go_enter Try.func71, Try.ntmps71
  go_wp2_with fail
  simp only [IntKind.wrap_u64]
  refine (word2 _ (hi x % 18446744073709551616) (lo x) (by omega) lx _ (by simp) (by simp [go_sem]) (by simp [go_sem])).mono ?_
  rintro e w1 ⟨v, rfl, hown, hb⟩
  have HB : Hid (Below w.heap.size w w1) := (((Below.refl _ _).alloc (by simp) _).alloc (by simp) _).trans (hb.mono (by simp; omega))
  have HO : Hid _ := own_mono hown (base' := w.heap.size) (by simp; omega)
  clear hown hb
  go_wp2_with fail
  go_ret
  exact ⟨_, rfl, HO.out, HB.out⟩
end Go.Proofs.Ytopemhlkjicjpaa

/- The contract of agg.Write, of what is right: 41 bytes. -/
namespace Go.Proofs.Ytopemhlkjicjpaa
open Go.RowKit

theorem own_below {w1 w2 : World} {base : Nat} {e : TypeId} {size : Nat} {v : Value} {n : Nat} {xs : List Value} (h : w1.ownsRow base e size v n xs) (hb : Below w1.heap.size w1 w2) : w2.ownsRow base e size v n xs := by
  obtain ⟨h1, h2⟩ := h
  refine ⟨h1, ?_⟩
  rcases h2 with h2 | ⟨g, cap, cur, hv, hg, hh, r⟩
  · exact .inl h2
  · refine .inr ⟨g, cap, cur, hv, hg, ?_, r⟩
    have : g < w1.heap.size := by
      rcases Nat.lt_or_ge g w1.heap.size with h | h
      · exact h
      · rw [Array.getElem?_eq_none h] at hh; cases hh
    rw [hb.block g this]; exact hh
theorem own_form {w : World} {base : Nat} {e : TypeId} {v : Value} {n : Nat} {xs : List Value} (h : w.ownsRow base e 1 v n xs) (hn : n ≠ 0) :
    ∃ g cap, v = .slice (some ⟨g, 0, none⟩) n cap ∧ base ≤ g ∧ g < w.heap.size ∧ ∀ j u, xs[j]? = some u → w.cell? ((⟨g, 0, none⟩ : Addr).add j) = some u := by
  obtain ⟨h1, h2⟩ := h
  rcases h2 with ⟨_, h2⟩ | ⟨g, cap, cur, hv, hg, hh, hnc, _, hcs, ht⟩
  · exact absurd h2 hn
  · refine ⟨g, cap, hv, hg, ?_, ?_⟩
    · rcases Nat.lt_or_ge g w.heap.size with h | h
      · exact h
      · rw [Array.getElem?_eq_none h] at hh; cases hh
    · intro j u hj
      have hjl : j < n := by
        have := (List.getElem?_eq_some_iff.1 hj).1
        rw [h1] at this; omega
      have ea : (⟨g, 0, none⟩ : Addr).add j = ⟨g, j, none⟩ := by simp [Addr.add]; intro e; exact e.symm
      rw [ea]
      have hcur : cur[j]? = some u := by
        rw [← ht, Nat.mul_one, List.getElem?_take, if_pos hjl] at hj
        simpa using hj
      simp [World.cell?, hh, hcur]

def aggBytes (a : Ag) : List Int := [if a.o = true then 1 else 0] ++ eight a.c ++ sixteen (hi a.s % 18446744073709551616) (lo a.s) ++ sixteen (a.mn % 18446744073709551616) (a.mx % 18446744073709551616)
def zer41 : Array Value := Array.replicate 41 (.int .u8 0)
def one41 : Array Value := zer41.setIfInBounds 0 (.int .u8 1)
theorem zer41_0 : zer41[0]? = some (.int .u8 0) := rfl
theorem mk41 : ∀ w, (Instr.makeSlice 23 (.int .i64 1) (.int .i64 41)).run Try.prog w = .ok (.slice (some ⟨w.heap.size, 0, none⟩) 1 41) (w.alloc (.cells zer41 5)) := fun _ => by kernel_rfl
theorem cell_al {w1 : World} {x : Obj} {b o : Nat} {v : Option Value} (h : w1.cell? ⟨b, o, none⟩ = v) (hb : b < w1.heap.size) : (w1.alloc x).cell? ⟨b, o, none⟩ = v := by
  rw [World.cell?_alloc_lt w1 x ⟨b, o, none⟩ hb]; exact h
theorem bcellA {w1 w2 : World} {b o : Nat} {v : Option Value} (hb : Below w1.heap.size w1 w2) (h : b < w1.heap.size) (hc : w1.cell? ⟨b, o, none⟩ = v) : w2.cell? ⟨b, o, none⟩ = v := by
  rw [hb.cell (p := ⟨b, o, none⟩) h]; exact hc
theorem grown_cell {w1 w2 : World} {r : Option Nat} {b o : Nat} {v : Option Value} (hg : w1.grownBy w2 r) (h : b < w1.heap.size) (hr : ∀ k, r = some k → b ≠ k) (hc : w1.cell? ⟨b, o, none⟩ = v) : w2.cell? ⟨b, o, none⟩ = v := by
  have e : w2.cell? ⟨b, o, none⟩ = w1.cell? ⟨b, o, none⟩ := World.cell?_of_block (w := w1) (hg.block b h (fun e => hr b e.symm rfl))
  rw [e]; exact hc
/-- The box of what is known, in a world. -/
def BoxA (a : Ag) (b : Nat) (w : World) : Prop := b < w.heap.size ∧ w.cell? ⟨b, 0, none⟩ = some (.int .u64 a.c) ∧ w.cell? ⟨b, 2, none⟩ = some (.int .i64 (hi a.s)) ∧ w.cell? ⟨b, 3, none⟩ = some (.int .u64 (lo a.s)) ∧ w.cell? ⟨b, 4, none⟩ = some (.int .i64 a.mn) ∧ w.cell? ⟨b, 5, none⟩ = some (.int .i64 a.mx)
theorem BoxA.below {a : Ag} {b : Nat} {w1 w2 : World} (h : BoxA a b w1) (hb : Below w1.heap.size w1 w2) : BoxA a b w2 := by
  obtain ⟨h0, h1, h2, h3, h4, h5⟩ := h
  have := hb.size
  exact ⟨by omega, bcellA hb h0 h1, bcellA hb h0 h2, bcellA hb h0 h3, bcellA hb h0 h4, bcellA hb h0 h5⟩
theorem BoxA.al {a : Ag} {b : Nat} {w1 : World} {o : Obj} (h : BoxA a b w1) : BoxA a b (w1.alloc o) := by
  obtain ⟨h0, h1, h2, h3, h4, h5⟩ := h
  exact ⟨by simp; omega, cell_al h1 h0, cell_al h2 h0, cell_al h3 h0, cell_al h4 h0, cell_al h5 h0⟩
theorem BoxA.grown {a : Ag} {b : Nat} {w1 w2 : World} {r : Option Nat} (h : BoxA a b w1) (hg : w1.grownBy w2 r) (hr : ∀ k, r = some k → b ≠ k) : BoxA a b w2 := by
  obtain ⟨h0, h1, h2, h3, h4, h5⟩ := h
  have := hg.size
  exact ⟨by omega, grown_cell hg h0 hr h1, grown_cell hg h0 hr h2, grown_cell hg h0 hr h3, grown_cell hg h0 hr h4, grown_cell hg h0 hr h5⟩
theorem own_block1 {w : World} {base : Nat} {e : TypeId} {size : Nat} {v : Value} {n : Nat} {xs : List Value} (h : w.ownsRow base e size v n xs) (b : Nat) (hb : b < base) : ∀ k, v.ownBlock = some k → b ≠ k := by
  intro k hk e; have := own_block h k hk; omega

set_option maxRecDepth 100000 in
set_option maxHeartbeats 1000000 in
theorem aggWrite_plain (a : Ag) (ho : a.o = false) (hr : rightB a = true) (c1 : 0 ≤ a.c ∧ a.c < 18446744073709551616) (w : World) :
    Calls Try.prog 51 #[.agg #[.int .u64 a.c, .bool a.o, .int .i64 (hi a.s), .int .u64 (lo a.s), .int .i64 a.mn, .int .i64 a.mx]] w fun e w' => ∃ v, e = .returned (.tuple #[v, .int .i64 0]) ∧ w'.ownsRow (w.heap.size + 1) 5 1 v 41 ((aggBytes a).map (Value.int .u8)) ∧ Below w.heap.size w w' := by
  obtain ⟨i0, hif, hz0, hz1, hz2⟩ := info_parts info5
  have HO : Hid _ := ho
  have HR : Hid _ := hr
  clear ho hr
  have hmk := mk41
  have hz41 := zer41_0
  go_enter Try.func51, Try.ntmps51
  go_wp2_with fail
  refine (right_any a _).mono ?_
  rw [HR.out]
  rintro e w1 ⟨rfl, hb1⟩
  have hs1 : w.heap.size < w1.heap.size := by have := hb1.size; simp at this; omega
  have k0 := hb1.cell (p := ⟨w.heap.size, 0, none⟩) (by simp)
  have k1 := hb1.cell (p := ⟨w.heap.size, 1, none⟩) (by simp)
  have k2 := hb1.cell (p := ⟨w.heap.size, 2, none⟩) (by simp)
  have k3 := hb1.cell (p := ⟨w.heap.size, 3, none⟩) (by simp)
  have k4 := hb1.cell (p := ⟨w.heap.size, 4, none⟩) (by simp)
  have k5 := hb1.cell (p := ⟨w.heap.size, 5, none⟩) (by simp)
  simp [go_sem] at k0 k1 k2 k3 k4 k5
  rw [HO.out] at k1
  have HX : Hid (BoxA a w.heap.size w1) := ⟨hs1, k0, k2, k3, k4, k5⟩
  have HB1 : Hid (Below w.heap.size w w1) := ((Below.refl _ _).alloc (by simp) _).trans (hb1.mono (by simp))
  clear hb1
  go_wp2_with fail
  clear k0 k1 k2 k3 k4 k5 hmk
  have hown1 : (w1.alloc (.cells zer41 5)).ownsRow (w.heap.size + 1) 5 1 (.slice (some ⟨w1.heap.size, 0, none⟩) 1 41) 1 [.int .u8 0] := by
    refine ⟨rfl, Or.inr ⟨w1.heap.size, 41, zer41, rfl, by omega, ?_, by decide, by decide, rfl, rfl⟩⟩
    show (w1.heap.push _)[w1.heap.size]? = _
    simp
  refine (word1 (w1.heap.size + 1) a.c c1 _ (by simp) (by simp [go_sem])).mono ?_
  rintro e w2 ⟨v2, rfl, hown2, hb2⟩
  have hown3 := own_below (hown1.alloc (.cells #[.int .u64 a.c] 30)) hb2
  have hx2 : BoxA a w.heap.size w2 := (HX.out.al.al).below hb2
  have HB2 : Hid (Below w.heap.size w w2) := ((HB1.out.alloc HB1.out.size _).alloc (by simp; omega) _).trans (hb2.mono (by simp; omega))
  have hsz2 : w.heap.size + 1 < w2.heap.size := by have := hb2.size; simp at this; omega
  obtain ⟨g2, cap2, hv2, hg2, hg2', hnews2⟩ := own_form hown2 (by decide)
  rw [hv2]
  clear hown1 hb2 hown2 hv2
  go_wp2_with (at_builtin; refine wpList_append_own _ rfl (.tmp 13) (.tmp 17) 23 rfl (w.heap.size + 1) 5 i0 (.int .u8 0) 1 1 Try.underlying23 hif hz0 hz1 hz2 rfl (by decide) _ 1 _ rfl hown3 ⟨g2, 0, none⟩ 8 cap2 ((eight a.c).map (Value.int .u8)) rfl (by rw [List.length_map, eight_len]) hnews2 (by intro u hu; obtain ⟨z, _, rfl⟩ := List.mem_map.1 hu; rfl) (by unfold maxLen; omega) (by omega) ?c5 ?_)
  case c5 => omega
  intro v3 w3 hown4 hgrow3 _
  have hx3 : BoxA a w.heap.size w3 := hx2.grown hgrow3 (own_block1 hown3 _ (by omega))
  have HB3 : Hid (Below w.heap.size w w3) := HB2.out.grown hgrow3 HB2.out.size (fun k hk => by have := own_block hown3 k hk; omega)
  have hsz3 : w.heap.size + 1 < w3.heap.size := by have := hgrow3.size; omega
  obtain ⟨j0, j1, j2, j3, j4, j5⟩ := hx3
  have HX3 : Hid (BoxA a w.heap.size w3) := ⟨j0, j1, j2, j3, j4, j5⟩
  have HO4 : Hid _ := hown4
  clear hown3 hown4 hgrow3 hx2 hnews2
  go_wp2_with fail
  clear j1 j2 j3 j4 j5
  refine (wideWrite_any a.s _).mono ?_
  rintro e w4 ⟨v4, rfl, hown5, hb4⟩
  have hown6 := own_below HO4.out hb4
  have hx4 : BoxA a w.heap.size w4 := HX3.out.below hb4
  have HB4 : Hid (Below w.heap.size w w4) := HB3.out.trans (hb4.mono HB3.out.size)
  have hsz4 : w.heap.size + 1 < w4.heap.size := by have := hb4.size; omega
  obtain ⟨g4, cap4, hv4, hg4, hg4', hnews4⟩ := own_form hown5 (by decide)
  rw [hv4]
  clear hb4 hown5 hv4 HO4
  go_wp2_with (at_builtin; refine wpList_append_own _ rfl (.tmp 19) (.tmp 22) 23 rfl (w.heap.size + 1) 5 i0 (.int .u8 0) 1 1 Try.underlying23 hif hz0 hz1 hz2 rfl (by decide) _ 9 _ rfl hown6 ⟨g4, 0, none⟩ 16 cap4 ((sixteen (hi a.s % 18446744073709551616) (lo a.s)).map (Value.int .u8)) rfl (by rw [List.length_map, sixteen_len]) hnews4 (by intro u hu; obtain ⟨z, _, rfl⟩ := List.mem_map.1 hu; rfl) (by unfold maxLen; omega) (by omega) ?c5 ?_)
  case c5 => omega
  intro v5 w5 hown7 hgrow5 _
  have hx5 : BoxA a w.heap.size w5 := hx4.grown hgrow5 (own_block1 hown6 _ (by omega))
  have HB5 : Hid (Below w.heap.size w w5) := HB4.out.grown hgrow5 HB4.out.size (fun k hk => by have := own_block hown6 k hk; omega)
  have hsz5 : w.heap.size + 1 < w5.heap.size := by have := hgrow5.size; omega
  obtain ⟨j0, j1, j2, j3, j4, j5⟩ := hx5
  have HO7 : Hid _ := hown7
  clear hown6 hown7 hgrow5 hx4 hnews4
  go_wp2_with fail
  clear j1 j2 j3 j4 j5
  simp only [IntKind.wrap_u64]
  refine (word2 w5.heap.size (a.mn % 18446744073709551616) (a.mx % 18446744073709551616) (by omega) (by omega) _ (by simp) (by simp [go_sem]) (by simp [go_sem])).mono ?_
  rintro e w6 ⟨v6, rfl, hown8, hb6⟩
  have hown9 := own_below (World.ownsRow.alloc (Hid.out HO7) (.cells #[.int .u64 (a.mn % 18446744073709551616), .int .u64 (a.mx % 18446744073709551616)] 30)) hb6
  have HB6 : Hid (Below w.heap.size w w6) := (HB5.out.alloc HB5.out.size _).trans (hb6.mono (by simp; omega))
  have hsz6 : w.heap.size + 1 < w6.heap.size := by have := hb6.size; simp at this; omega
  obtain ⟨g6, cap6, hv6, hg6, hg6', hnews6⟩ := own_form hown8 (by decide)
  rw [hv6]
  clear hb6 hown8 hv6 HO7
  go_wp2_with (at_builtin; refine wpList_append_own _ rfl (.tmp 24) (.tmp 32) 23 rfl (w.heap.size + 1) 5 i0 (.int .u8 0) 1 1 Try.underlying23 hif hz0 hz1 hz2 rfl (by decide) _ 25 _ rfl hown9 ⟨g6, 0, none⟩ 16 cap6 ((sixteen (a.mn % 18446744073709551616) (a.mx % 18446744073709551616)).map (Value.int .u8)) rfl (by rw [List.length_map, sixteen_len]) hnews6 (by intro u hu; obtain ⟨z, _, rfl⟩ := List.mem_map.1 hu; rfl) (by unfold maxLen; omega) (by omega) ?c5 ?_)
  case c5 => omega
  intro v7 w7 hown10 hgrow7 _
  have HB7 : Hid (Below w.heap.size w w7) := HB6.out.grown hgrow7 HB6.out.size (fun k hk => by have := own_block hown9 k hk; omega)
  have HO10 : Hid (w7.ownsRow (w.heap.size + 1) 5 1 v7 41 ((aggBytes a).map (Value.int .u8))) := by
    have e : (aggBytes a).map (Value.int .u8) = [Value.int .u8 0] ++ (eight a.c).map (Value.int .u8) ++ (sixteen (hi a.s % 18446744073709551616) (lo a.s)).map (Value.int .u8) ++ (sixteen (a.mn % 18446744073709551616) (a.mx % 18446744073709551616)).map (Value.int .u8) := by
      unfold aggBytes; rw [HO.out]; simp
    rw [e]; exact hown10
  clear hown9 hown10 hgrow7 hnews6
  go_wp2_with fail
  go_ret2
  exact ⟨_, rfl, HO10.out, HB7.out⟩
end Go.Proofs.Ytopemhlkjicjpaa

/- The contract of agg.Write, of what is over. -/
namespace Go.Proofs.Ytopemhlkjicjpaa
open Go.RowKit

set_option maxRecDepth 100000 in
set_option maxHeartbeats 1000000 in
theorem aggWrite_over (a : Ag) (ho : a.o = true) (hr : rightB a = true) (c1 : 0 ≤ a.c ∧ a.c < 18446744073709551616) (w : World) :
    Calls Try.prog 51 #[.agg #[.int .u64 a.c, .bool a.o, .int .i64 (hi a.s), .int .u64 (lo a.s), .int .i64 a.mn, .int .i64 a.mx]] w fun e w' => ∃ v, e = .returned (.tuple #[v, .int .i64 0]) ∧ w'.ownsRow (w.heap.size + 1) 5 1 v 41 ((aggBytes a).map (Value.int .u8)) ∧ Below w.heap.size w w' := by
  obtain ⟨i0, hif, hz0, hz1, hz2⟩ := info_parts info5
  have HO : Hid _ := ho
  have HR : Hid _ := hr
  clear ho hr
  have hmk := mk41
  have hz41 := zer41_0
  go_enter Try.func51, Try.ntmps51
  go_wp2_with fail
  refine (right_any a _).mono ?_
  rw [HR.out]
  rintro e w1 ⟨rfl, hb1⟩
  have hs1 : w.heap.size < w1.heap.size := by have := hb1.size; simp at this; omega
  have k0 := hb1.cell (p := ⟨w.heap.size, 0, none⟩) (by simp)
  have k1 := hb1.cell (p := ⟨w.heap.size, 1, none⟩) (by simp)
  have k2 := hb1.cell (p := ⟨w.heap.size, 2, none⟩) (by simp)
  have k3 := hb1.cell (p := ⟨w.heap.size, 3, none⟩) (by simp)
  have k4 := hb1.cell (p := ⟨w.heap.size, 4, none⟩) (by simp)
  have k5 := hb1.cell (p := ⟨w.heap.size, 5, none⟩) (by simp)
  simp [go_sem] at k0 k1 k2 k3 k4 k5
  rw [HO.out] at k1
  have HX : Hid (BoxA a w.heap.size w1) := ⟨hs1, k0, k2, k3, k4, k5⟩
  have HB1 : Hid (Below w.heap.size w w1) := ((Below.refl _ _).alloc (by simp) _).trans (hb1.mono (by simp))
  clear hb1
  go_wp2_with fail
  clear k0 k1 k2 k3 k4 k5 hmk
  have hown1 : (w1.alloc (.cells one41 5)).ownsRow (w.heap.size + 1) 5 1 (.slice (some ⟨w1.heap.size, 0, none⟩) 1 41) 1 [.int .u8 1] := by
    refine ⟨rfl, Or.inr ⟨w1.heap.size, 41, one41, rfl, by omega, ?_, by decide, by decide, rfl, rfl⟩⟩
    show (w1.heap.push _)[w1.heap.size]? = _
    simp
  refine (word1 (w1.heap.size + 1) a.c c1 _ (by simp) (by simp [go_sem])).mono ?_
  rintro e w2 ⟨v2, rfl, hown2, hb2⟩
  have hown3 := own_below (hown1.alloc (.cells #[.int .u64 a.c] 30)) hb2
  have hx2 : BoxA a w.heap.size w2 := (HX.out.al.al).below hb2
  have HB2 : Hid (Below w.heap.size w w2) := ((HB1.out.alloc HB1.out.size _).alloc (by simp; omega) _).trans (hb2.mono (by simp; omega))
  have hsz2 : w.heap.size + 1 < w2.heap.size := by have := hb2.size; simp at this; omega
  obtain ⟨g2, cap2, hv2, hg2, hg2', hnews2⟩ := own_form hown2 (by decide)
  rw [hv2]
  clear hown1 hb2 hown2 hv2
  go_wp2_with (at_builtin; refine wpList_append_own _ rfl (.tmp 13) (.tmp 17) 23 rfl (w.heap.size + 1) 5 i0 (.int .u8 0) 1 1 Try.underlying23 hif hz0 hz1 hz2 rfl (by decide) _ 1 _ rfl hown3 ⟨g2, 0, none⟩ 8 cap2 ((eight a.c).map (Value.int .u8)) rfl (by rw [List.length_map, eight_len]) hnews2 (by intro u hu; obtain ⟨z, _, rfl⟩ := List.mem_map.1 hu; rfl) (by unfold maxLen; omega) (by omega) ?c5 ?_)
  case c5 => omega
  intro v3 w3 hown4 hgrow3 _
  have hx3 : BoxA a w.heap.size w3 := hx2.grown hgrow3 (own_block1 hown3 _ (by omega))
  have HB3 : Hid (Below w.heap.size w w3) := HB2.out.grown hgrow3 HB2.out.size (fun k hk => by have := own_block hown3 k hk; omega)
  have hsz3 : w.heap.size + 1 < w3.heap.size := by have := hgrow3.size; omega
  obtain ⟨j0, j1, j2, j3, j4, j5⟩ := hx3
  have HX3 : Hid (BoxA a w.heap.size w3) := ⟨j0, j1, j2, j3, j4, j5⟩
  have HO4 : Hid _ := hown4
  clear hown3 hown4 hgrow3 hx2 hnews2
  go_wp2_with fail
  clear j1 j2 j3 j4 j5
  refine (wideWrite_any a.s _).mono ?_
  rintro e w4 ⟨v4, rfl, hown5, hb4⟩
  have hown6 := own_below HO4.out hb4
  have hx4 : BoxA a w.heap.size w4 := HX3.out.below hb4
  have HB4 : Hid (Below w.heap.size w w4) := HB3.out.trans (hb4.mono HB3.out.size)
  have hsz4 : w.heap.size + 1 < w4.heap.size := by have := hb4.size; omega
  obtain ⟨g4, cap4, hv4, hg4, hg4', hnews4⟩ := own_form hown5 (by decide)
  rw [hv4]
  clear hb4 hown5 hv4 HO4
  go_wp2_with (at_builtin; refine wpList_append_own _ rfl (.tmp 19) (.tmp 22) 23 rfl (w.heap.size + 1) 5 i0 (.int .u8 0) 1 1 Try.underlying23 hif hz0 hz1 hz2 rfl (by decide) _ 9 _ rfl hown6 ⟨g4, 0, none⟩ 16 cap4 ((sixteen (hi a.s % 18446744073709551616) (lo a.s)).map (Value.int .u8)) rfl (by rw [List.length_map, sixteen_len]) hnews4 (by intro u hu; obtain ⟨z, _, rfl⟩ := List.mem_map.1 hu; rfl) (by unfold maxLen; omega) (by omega) ?c5 ?_)
  case c5 => omega
  intro v5 w5 hown7 hgrow5 _
  have hx5 : BoxA a w.heap.size w5 := hx4.grown hgrow5 (own_block1 hown6 _ (by omega))
  have HB5 : Hid (Below w.heap.size w w5) := HB4.out.grown hgrow5 HB4.out.size (fun k hk => by have := own_block hown6 k hk; omega)
  have hsz5 : w.heap.size + 1 < w5.heap.size := by have := hgrow5.size; omega
  obtain ⟨j0, j1, j2, j3, j4, j5⟩ := hx5
  have HO7 : Hid _ := hown7
  clear hown6 hown7 hgrow5 hx4 hnews4
  go_wp2_with fail
  clear j1 j2 j3 j4 j5
  simp only [IntKind.wrap_u64]
  refine (word2 w5.heap.size (a.mn % 18446744073709551616) (a.mx % 18446744073709551616) (by omega) (by omega) _ (by simp) (by simp [go_sem]) (by simp [go_sem])).mono ?_
  rintro e w6 ⟨v6, rfl, hown8, hb6⟩
  have hown9 := own_below (World.ownsRow.alloc (Hid.out HO7) (.cells #[.int .u64 (a.mn % 18446744073709551616), .int .u64 (a.mx % 18446744073709551616)] 30)) hb6
  have HB6 : Hid (Below w.heap.size w w6) := (HB5.out.alloc HB5.out.size _).trans (hb6.mono (by simp; omega))
  have hsz6 : w.heap.size + 1 < w6.heap.size := by have := hb6.size; simp at this; omega
  obtain ⟨g6, cap6, hv6, hg6, hg6', hnews6⟩ := own_form hown8 (by decide)
  rw [hv6]
  clear hb6 hown8 hv6 HO7
  go_wp2_with (at_builtin; refine wpList_append_own _ rfl (.tmp 24) (.tmp 32) 23 rfl (w.heap.size + 1) 5 i0 (.int .u8 0) 1 1 Try.underlying23 hif hz0 hz1 hz2 rfl (by decide) _ 25 _ rfl hown9 ⟨g6, 0, none⟩ 16 cap6 ((sixteen (a.mn % 18446744073709551616) (a.mx % 18446744073709551616)).map (Value.int .u8)) rfl (by rw [List.length_map, sixteen_len]) hnews6 (by intro u hu; obtain ⟨z, _, rfl⟩ := List.mem_map.1 hu; rfl) (by unfold maxLen; omega) (by omega) ?c5 ?_)
  case c5 => omega
  intro v7 w7 hown10 hgrow7 _
  have HB7 : Hid (Below w.heap.size w w7) := HB6.out.grown hgrow7 HB6.out.size (fun k hk => by have := own_block hown9 k hk; omega)
  have HO10 : Hid (w7.ownsRow (w.heap.size + 1) 5 1 v7 41 ((aggBytes a).map (Value.int .u8))) := by
    have e : (aggBytes a).map (Value.int .u8) = [Value.int .u8 1] ++ (eight a.c).map (Value.int .u8) ++ (sixteen (hi a.s % 18446744073709551616) (lo a.s)).map (Value.int .u8) ++ (sixteen (a.mn % 18446744073709551616) (a.mx % 18446744073709551616)).map (Value.int .u8) := by
      unfold aggBytes; rw [HO.out]; simp
    rw [e]; exact hown10
  clear hown9 hown10 hgrow7 hnews6
  go_wp2_with fail
  go_ret2
  exact ⟨_, rfl, HO10.out, HB7.out⟩
end Go.Proofs.Ytopemhlkjicjpaa

/- The contract of word.Read: the number that eight bytes tell. -/
namespace Go.Proofs.Ytopemhlkjicjpaa
open Go.RowKit

/-- The number that bytes tell, the greatest first. -/
def beval (l : List Int) : Int := l.foldl (fun n x => n * 256 + x) 0
theorem beval_snoc (l : List Int) (x : Int) : beval (l ++ [x]) = beval l * 256 + x := by simp [beval, List.foldl_append]
theorem beval_take (l : List Int) (k : Nat) (h : k < l.length) : beval (l.take (k + 1)) = beval (l.take k) * 256 + l.getD k 0 := by
  rw [take_snocI l k h, beval_snoc]
theorem beval_bd (l : List Int) (hl : ∀ x ∈ l, 0 ≤ x ∧ x ≤ 255) : ∀ k : Nat, 0 ≤ beval (l.take k) ∧ beval (l.take k) < 256 ^ k := by
  intro k
  induction k with
  | zero => simp [beval]
  | succ k ih =>
    by_cases h : k < l.length
    · rw [beval_take l k h]
      have hx := hl _ (getD_mem l k h)
      obtain ⟨i1, i2⟩ := ih
      have e : (256 : Int) ^ (k + 1) = 256 ^ k * 256 := Int.pow_succ ..
      rw [e]
      generalize (256 : Int) ^ k = q at *
      omega
    · have e : l.take (k + 1) = l.take k := by rw [List.take_of_length_le (by omega), List.take_of_length_le (by omega)]
      rw [e]
      have e2 : (256 : Int) ^ (k + 1) = 256 ^ k * 256 := Int.pow_succ ..
      rw [e2]
      generalize (256 : Int) ^ k = q at *
      omega
theorem or_byte (n x : Int) (n1 : 0 ≤ n) (n2 : n < 72057594037927936) (x1 : 0 ≤ x) (x2 : x ≤ 255) : bits .or .u64 (n * 256) x = n * 256 + x := by
  obtain ⟨a, rfl⟩ := Int.eq_ofNat_of_zero_le n1
  obtain ⟨b, rfl⟩ := Int.eq_ofNat_of_zero_le x1
  have e : (a : Int) * 256 = ((a * 256 : Nat) : Int) := by omega
  rw [e, bits_or_u64_nat _ _ (by omega) (by omega), nat_join 8 _ _ (by omega) (by omega)]
  omega

set_option maxRecDepth 100000 in
set_option maxHeartbeats 1000000 in
theorem wordRead_any (b off cap : Nat) (zs : List Int) (hl : zs.length = 8) (hz : ∀ x ∈ zs, 0 ≤ x ∧ x ≤ 255) (w : World)
    (hc : ∀ i, i < 8 → w.cell? ⟨b, off + i, none⟩ = some (.int .u8 (zs.getD i 0))) :
    Calls Try.prog 77 #[.slice (some ⟨b, off, none⟩) 8 cap] w fun e w' => e = .returned (.int .u64 (beval zs)) ∧ w' = w := by
  go_enter Try.func77, Try.ntmps77
  go_wp2_with fail
  go_loop [3, 8] (fun n i => ∃ k : Nat, k ≤ 8 ∧ i = .int .i64 k ∧ n = .int .u64 (beval (zs.take k))) (fun _ i => 8 - (intOf i).toNat)
  case atStart => exact ⟨0, by omega, rfl, rfl⟩
  case round =>
    obtain ⟨k, hk, rfl, rfl⟩ := hrel
    by_cases hlt : k < 8
    · have hcell := hc k hlt
      have hx := hz _ (getD_mem zs k (by omega))
      have HT : Hid _ := beval_take zs k (by omega)
      have hb := beval_bd zs hz k
      have hq : (256 : Int) ^ k ≤ 72057594037927936 := by
        have : (256 : Int) ^ k ≤ 256 ^ 7 := by
          have h7 : (256 : Nat) ^ k ≤ 256 ^ 7 := Nat.pow_le_pow_right (by omega) (by omega)
          exact_mod_cast h7
        simpa using this
      generalize zs.getD k 0 = x at *
      generalize beval (zs.take k) = n at *
      generalize (256 : Int) ^ k = q at *
      obtain ⟨n1, n2⟩ := hb
      obtain ⟨x1, x2⟩ := hx
      have n3 : n < 72057594037927936 := by omega
      have hor := or_byte n x n1 n3 x1 x2
      clear hc hq n2
      go_wp2_with fail
      go_round
      case rel => exact ⟨k + 1, by omega, by go_num, by rw [HT.out]⟩
      case measure => simp [intOf]; omega
    · have hke : k = 8 := by omega
      subst hke
      have e : zs.take 8 = zs := List.take_of_length_le (by omega)
      clear hc
      go_wp2_with fail
      go_ret
      exact ⟨rfl, rfl⟩
end Go.Proofs.Ytopemhlkjicjpaa
