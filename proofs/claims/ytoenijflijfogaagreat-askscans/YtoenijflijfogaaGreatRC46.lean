/- AR0 AR1 K14o, joined. -/
import Derived.Test.YtoenijflijfogaaGreatRC41
import Derived.Test.YtoenijflijfogaaGreatRC45
/- Layer 17: As; rows that are alike. -/
namespace Go.Proofs.YtoenijflijfogaaGreat
open Go.RowKit

theorem infoRf : (Tryz.prog.info? 42).map (fun i => (i.zero, i.size, i.bytes)) = some (some (.agg #[.slice none 0 0, .int .i64 0, .int .i64 0, .int .u64 0, .bool false, .int .i64 0, .int .u64 0, .int .i64 0, .int .i64 0]), 9, 88) := by kernel_rfl
/-- Nine cells in a row. -/
structure N9 (w : World) (b o : Nat) (v : Value) (f z c h l n x : Int) (p : Bool) : Prop where
  c0 : w.cell? ⟨b, o, none⟩ = some v
  c1 : w.cell? ⟨b, o + 1, none⟩ = some (.int .i64 f)
  c2 : w.cell? ⟨b, o + 2, none⟩ = some (.int .i64 z)
  c3 : w.cell? ⟨b, o + 3, none⟩ = some (.int .u64 c)
  c4 : w.cell? ⟨b, o + 4, none⟩ = some (.bool p)
  c5 : w.cell? ⟨b, o + 5, none⟩ = some (.int .i64 h)
  c6 : w.cell? ⟨b, o + 6, none⟩ = some (.int .u64 l)
  c7 : w.cell? ⟨b, o + 7, none⟩ = some (.int .i64 n)
  c8 : w.cell? ⟨b, o + 8, none⟩ = some (.int .i64 x)
  b : b < w.heap.size
theorem N9.below {w w' : World} {b o : Nat} {v : Value} {f z c h l n x : Int} {p : Bool} (k : N9 w b o v f z c h l n x p) (hb : Below w.heap.size w w') : N9 w' b o v f z c h l n x p :=
  ⟨(hb.cell (p := ⟨b, _, none⟩) k.b).trans k.c0, (hb.cell (p := ⟨b, _, none⟩) k.b).trans k.c1, (hb.cell (p := ⟨b, _, none⟩) k.b).trans k.c2, (hb.cell (p := ⟨b, _, none⟩) k.b).trans k.c3, (hb.cell (p := ⟨b, _, none⟩) k.b).trans k.c4, (hb.cell (p := ⟨b, _, none⟩) k.b).trans k.c5, (hb.cell (p := ⟨b, _, none⟩) k.b).trans k.c6, (hb.cell (p := ⟨b, _, none⟩) k.b).trans k.c7, (hb.cell (p := ⟨b, _, none⟩) k.b).trans k.c8, Nat.lt_of_lt_of_le k.b hb.size⟩
/-- A row's item, in memory. -/
theorem TReads.nine {w : World} {a : Option Addr} {n cap : Nat} {xs : List It} (h : TReads w (.slice a n cap) xs) {j : Nat} (hj : j < xs.length) {v : Value} {D : List ByteArray} {f : Int} {z : Nat} {g : Ag} (hx : xs[j] = ⟨v, D, f, z, g⟩) :
    ∃ b off, a = some ⟨b, off, none⟩ ∧ N9 w b (off + j * 9) v f z g.c (hi g.s) (lo g.s) g.mn g.mx g.o ∧ SReads w v D := by
  obtain ⟨b, off, ha, hb, hc, hs⟩ := h.at hj
  rw [hx] at hc hs
  exact ⟨b, off, ha, ⟨hc 0 (by decide), hc 1 (by decide), hc 2 (by decide), hc 3 (by decide), hc 4 (by decide), hc 5 (by decide), hc 6 (by decide), hc 7 (by decide), hc 8 (by decide), hb⟩, hs⟩
theorem TReads.form17 {w : World} {v : Value} {xs : List It} (h : TReads w v xs) : ∃ a cap, v = .slice a xs.length cap ∧ xs.length ≤ cap ∧ cap ≤ maxLen := by
  obtain ⟨a, cap, hv, h1, h2, _⟩ := h
  exact ⟨a, cap, hv, h1, h2⟩
theorem take_next {xs : List It} {j : Nat} (hj : j < xs.length) {x : It} (hx : xs[j] = x) : xs.take (j + 1) = xs.take j ++ [x] := by
  rw [List.take_succ_eq_append_getElem hj, hx]
set_option maxRecDepth 100000 in
set_option maxHeartbeats 4000000 in
theorem as17_any (v : Value) (xs : List It) (w : World) (h : TReads w v xs) (hl : xs.length ≤ 100000) :
    Calls Tryz.prog 13 #[v] w fun e w' => ∃ v', e = .returned v' ∧ TReads w' v' xs ∧ Below w.heap.size w w' := by
  obtain ⟨a, cap, rfl, hm1, hm2⟩ := h.form17
  have HR : Hid (TReads w (.slice a xs.length cap) xs) := h
  obtain ⟨n, Hn⟩ := hid_ex xs.length
  rw [← Hn.out] at HR hl hm1 ⊢
  clear h
  go_enter Tryz.func13, Tryz.ntmps13
  go_wp2_with fail
  go_loopw [3, 4] (fun o i wr => ∃ j : Nat, i = .int .i64 (j : Int) ∧ j ≤ n ∧ Hid (TG 42 w.heap.size w wr o (xs.take j)) ∧ w.heap.size ≤ wr.heap.size) (fun _ i _ => n - (intOf i).toNat)
  case atStart => exact ⟨0, rfl, by omega, by rw [List.take_zero]; exact TG.nil (Below.refl _ _), Nat.le_refl _⟩
  case round =>
    obtain ⟨j, rfl, hj, HU, hsz⟩ := hrel
    by_cases hlt : j < n
    · have hlt' : (j : Int) < (n : Int) := by omega
      have hjx : j < xs.length := by rw [← Hn.out]; exact hlt
      obtain ⟨r, Hr⟩ := hid_ex xs[j]
      have HTK : Hid (xs.take (j + 1) = xs.take j ++ [r]) := take_next hjx Hr.out.symm
      have hyl : (xs.take j).length < 1000000 := by rw [List.length_take]; omega
      obtain ⟨xv, xD, xf, xz, xg⟩ := r
      obtain ⟨b, off, rfl, hn9, hsr⟩ := HR.out.nine hjx Hr.out.symm
      obtain ⟨va, vc, hv, hxl⟩ := hsr.form
      subst hv
      have HUd : Hid (TG 42 w.heap.size w wr.drew u3 (xs.take j)) := HU.out.below (Below.refl _ _).drew hsz
      obtain ⟨v3, w3, hrun, hu3, hs3⟩ := HUd.out.app Tryz.underlying46 infoRf hsz ⟨.slice va xD.length vc, xD, xf, xz, xg⟩ hsr hyl
      rw [← HTK.out] at hu3
      simp only [c9] at hrun
      have HU3 : Hid (TG 42 w.heap.size w w3 v3 (xs.take (j + 1))) := hu3
      have HN : Hid (N9 w b (off + j * 9) (.slice va xD.length vc) xf xz xg.c (hi xg.s) (lo xg.s) xg.mn xg.mx xg.o) := hn9
      have HN3 : Hid (N9 w3 b (off + j * 9) (.slice va xD.length vc) xf xz xg.c (hi xg.s) (lo xg.s) xg.mn xg.mx xg.o) := hn9.below HU3.out.b
      have HNd : Hid (N9 wr.drew b (off + j * 9) (.slice va xD.length vc) xf xz xg.c (hi xg.s) (lo xg.s) xg.mn xg.mx xg.o) := hn9.below HUd.out.b
      have HNa : Hid (∀ o, N9 (wr.drew.alloc o) b (off + j * 9) (.slice va xD.length vc) xf xz xg.c (hi xg.s) (lo xg.s) xg.mn xg.mx xg.o) := fun o => HNd.out.below ((Below.refl _ _).alloc (Nat.le_refl _) o)
      obtain ⟨oa, oc, hov, -⟩ := GOwn.form HU.out.o
      obtain ⟨M, HM9⟩ : ∃ m, Hid ((xs.take j).length = m) := ⟨_, rfl⟩
      rw [HM9.out] at hov
      subst hov
      clear hu3 HU HUd hn9 hsr HTK hxl Hr
      go_wp2_with fail
      refine wp_region_noPanic ?_
      refine wp_region_held_drew (S := (fun w' => N9 w' b (off + j * 9) (.slice va xD.length vc) xf xz xg.c (hi xg.s) (lo xg.s) xg.mn xg.mx xg.o)) (by kernel_rfl) ?_ (fun hHeld => ?_)
      · exact HNd.out
      refine wpAnyH_take (i := 0) (v := .slice oa M oc) rfl (by kernel_rfl) (by kernel_rfl) (by kernel_rfl) (fun _ _ _ h => h) (Or.inl ⟨by rfl, ?_⟩) (by assumption) ?_
      · (intro w1 hSw; (try dsimp only at hSw); go_simp)
      simp only [List.getElem_toArray, List.getElem_cons_zero, Act.put, List.setIfInBounds_toArray, List.set_cons_zero, List.set_cons_succ]
      refine wpAnyH_take (i := 1) (v := .slice (some ⟨b, off, none⟩) n cap) rfl (by kernel_rfl) (by kernel_rfl) (by kernel_rfl) (fun _ _ _ h => h) (Or.inl ⟨by rfl, ?_⟩) (by assumption) ?_
      · (intro w1 hSw; (try dsimp only at hSw); go_simp)
      simp only [List.getElem_toArray, List.getElem_cons_succ, List.getElem_cons_zero, Act.put, List.setIfInBounds_toArray, List.set_cons_zero, List.set_cons_succ]
      refine wpAnyH_take (i := 2) (v := .int .i64 (j : Int)) rfl (by kernel_rfl) (by kernel_rfl) (by kernel_rfl) (fun _ _ _ h => h) (Or.inl ⟨by rfl, ?_⟩) (by assumption) ?_
      · (intro w1 hSw; (try dsimp only at hSw); go_simp)
      simp only [List.getElem_toArray, List.getElem_cons_succ, List.getElem_cons_zero, Act.put, List.setIfInBounds_toArray, List.set_cons_zero, List.set_cons_succ]
      refine wpAnyH_take (i := 3) (v := .pointer (some ⟨b, off + j * 9, none⟩)) rfl (by kernel_rfl) (by kernel_rfl) (by kernel_rfl) (fun _ _ _ h => h) (Or.inl ⟨by rfl, ?_⟩) (by assumption) ?_
      · (intro w1 hSw; (try dsimp only at hSw); go_simp)
      simp only [List.getElem_toArray, List.getElem_cons_succ, List.getElem_cons_zero, Act.put, List.setIfInBounds_toArray, List.set_cons_zero, List.set_cons_succ]
      refine wpAnyH_take (i := 4) (v := .pointer (some ⟨b, off + j * 9, none⟩)) rfl (by kernel_rfl) (by kernel_rfl) (by kernel_rfl) (fun _ _ _ h => h) (Or.inl ⟨by rfl, ?_⟩) (by assumption) ?_
      · (intro w1 hSw; (try dsimp only at hSw); go_simp)
      simp only [List.getElem_toArray, List.getElem_cons_succ, List.getElem_cons_zero, Act.put, List.setIfInBounds_toArray, List.set_cons_zero, List.set_cons_succ]
      refine wpAnyH_take (i := 5) (v := .slice va xD.length vc) rfl (by kernel_rfl) (by kernel_rfl) (by kernel_rfl) (fun _ _ _ h => h) (Or.inl ⟨by rfl, ?_⟩) (by assumption) ?_
      · (intro w1 hSw; (try dsimp only at hSw); have g0 := hSw.c0; go_simp)
      simp only [List.getElem_toArray, List.getElem_cons_succ, List.getElem_cons_zero, Act.put, List.setIfInBounds_toArray, List.set_cons_zero, List.set_cons_succ]
      refine wpAnyH_take (i := 6) (v := .slice (some ⟨b, off, none⟩) n cap) rfl (by kernel_rfl) (by kernel_rfl) (by kernel_rfl) (fun _ _ _ h => h) (Or.inl ⟨by rfl, ?_⟩) (by assumption) ?_
      · (intro w1 hSw; (try dsimp only at hSw); go_simp)
      simp only [List.getElem_toArray, List.getElem_cons_succ, List.getElem_cons_zero, Act.put, List.setIfInBounds_toArray, List.set_cons_zero, List.set_cons_succ]
      refine wpAnyH_take (i := 7) (v := .int .i64 (j : Int)) rfl (by kernel_rfl) (by kernel_rfl) (by kernel_rfl) (fun _ _ _ h => h) (Or.inl ⟨by rfl, ?_⟩) (by assumption) ?_
      · (intro w1 hSw; (try dsimp only at hSw); go_simp)
      simp only [List.getElem_toArray, List.getElem_cons_succ, List.getElem_cons_zero, Act.put, List.setIfInBounds_toArray, List.set_cons_zero, List.set_cons_succ]
      refine wpAnyH_take (i := 8) (v := .pointer (some ⟨b, off + j * 9, none⟩)) rfl (by kernel_rfl) (by kernel_rfl) (by kernel_rfl) (fun _ _ _ h => h) (Or.inl ⟨by rfl, ?_⟩) (by assumption) ?_
      · (intro w1 hSw; (try dsimp only at hSw); go_simp)
      simp only [List.getElem_toArray, List.getElem_cons_succ, List.getElem_cons_zero, Act.put, List.setIfInBounds_toArray, List.set_cons_zero, List.set_cons_succ]
      refine wpAnyH_take (i := 9) (v := .pointer (some ⟨b, off + j * 9 + 1, none⟩)) rfl (by kernel_rfl) (by kernel_rfl) (by kernel_rfl) (fun _ _ _ h => h) (Or.inl ⟨by rfl, ?_⟩) (by assumption) ?_
      · (intro w1 hSw; (try dsimp only at hSw); go_simp)
      simp only [List.getElem_toArray, List.getElem_cons_succ, List.getElem_cons_zero, Act.put, List.setIfInBounds_toArray, List.set_cons_zero, List.set_cons_succ]
      refine wpAnyH_take (i := 10) (v := .int .i64 xf) rfl (by kernel_rfl) (by kernel_rfl) (by kernel_rfl) (fun _ _ _ h => h) (Or.inl ⟨by rfl, ?_⟩) (by assumption) ?_
      · (intro w1 hSw; (try dsimp only at hSw); have g0 := hSw.c1; go_simp)
      simp only [List.getElem_toArray, List.getElem_cons_succ, List.getElem_cons_zero, Act.put, List.setIfInBounds_toArray, List.set_cons_zero, List.set_cons_succ]
      refine wpAnyH_take (i := 11) (v := .slice (some ⟨b, off, none⟩) n cap) rfl (by kernel_rfl) (by kernel_rfl) (by kernel_rfl) (fun _ _ _ h => h) (Or.inl ⟨by rfl, ?_⟩) (by assumption) ?_
      · (intro w1 hSw; (try dsimp only at hSw); go_simp)
      simp only [List.getElem_toArray, List.getElem_cons_succ, List.getElem_cons_zero, Act.put, List.setIfInBounds_toArray, List.set_cons_zero, List.set_cons_succ]
      refine wpAnyH_take (i := 12) (v := .int .i64 (j : Int)) rfl (by kernel_rfl) (by kernel_rfl) (by kernel_rfl) (fun _ _ _ h => h) (Or.inl ⟨by rfl, ?_⟩) (by assumption) ?_
      · (intro w1 hSw; (try dsimp only at hSw); go_simp)
      simp only [List.getElem_toArray, List.getElem_cons_succ, List.getElem_cons_zero, Act.put, List.setIfInBounds_toArray, List.set_cons_zero, List.set_cons_succ]
      refine wpAnyH_take (i := 13) (v := .pointer (some ⟨b, off + j * 9, none⟩)) rfl (by kernel_rfl) (by kernel_rfl) (by kernel_rfl) (fun _ _ _ h => h) (Or.inl ⟨by rfl, ?_⟩) (by assumption) ?_
      · (intro w1 hSw; (try dsimp only at hSw); go_simp)
      simp only [List.getElem_toArray, List.getElem_cons_succ, List.getElem_cons_zero, Act.put, List.setIfInBounds_toArray, List.set_cons_zero, List.set_cons_succ]
      refine wpAnyH_take (i := 14) (v := .pointer (some ⟨b, off + j * 9 + 2, none⟩)) rfl (by kernel_rfl) (by kernel_rfl) (by kernel_rfl) (fun _ _ _ h => h) (Or.inl ⟨by rfl, ?_⟩) (by assumption) ?_
      · (intro w1 hSw; (try dsimp only at hSw); go_simp)
      simp only [List.getElem_toArray, List.getElem_cons_succ, List.getElem_cons_zero, Act.put, List.setIfInBounds_toArray, List.set_cons_zero, List.set_cons_succ]
      refine wpAnyH_take (i := 15) (v := .int .i64 (xz : Int)) rfl (by kernel_rfl) (by kernel_rfl) (by kernel_rfl) (fun _ _ _ h => h) (Or.inl ⟨by rfl, ?_⟩) (by assumption) ?_
      · (intro w1 hSw; (try dsimp only at hSw); have g0 := hSw.c2; go_simp)
      simp only [List.getElem_toArray, List.getElem_cons_succ, List.getElem_cons_zero, Act.put, List.setIfInBounds_toArray, List.set_cons_zero, List.set_cons_succ]
      refine wpAnyH_take (i := 16) (v := .slice (some ⟨b, off, none⟩) n cap) rfl (by kernel_rfl) (by kernel_rfl) (by kernel_rfl) (fun _ _ _ h => h) (Or.inl ⟨by rfl, ?_⟩) (by assumption) ?_
      · (intro w1 hSw; (try dsimp only at hSw); go_simp)
      simp only [List.getElem_toArray, List.getElem_cons_succ, List.getElem_cons_zero, Act.put, List.setIfInBounds_toArray, List.set_cons_zero, List.set_cons_succ]
      refine wpAnyH_take (i := 17) (v := .int .i64 (j : Int)) rfl (by kernel_rfl) (by kernel_rfl) (by kernel_rfl) (fun _ _ _ h => h) (Or.inl ⟨by rfl, ?_⟩) (by assumption) ?_
      · (intro w1 hSw; (try dsimp only at hSw); go_simp)
      simp only [List.getElem_toArray, List.getElem_cons_succ, List.getElem_cons_zero, Act.put, List.setIfInBounds_toArray, List.set_cons_zero, List.set_cons_succ]
      refine wpAnyH_take (i := 18) (v := .pointer (some ⟨b, off + j * 9, none⟩)) rfl (by kernel_rfl) (by kernel_rfl) (by kernel_rfl) (fun _ _ _ h => h) (Or.inl ⟨by rfl, ?_⟩) (by assumption) ?_
      · (intro w1 hSw; (try dsimp only at hSw); go_simp)
      simp only [List.getElem_toArray, List.getElem_cons_succ, List.getElem_cons_zero, Act.put, List.setIfInBounds_toArray, List.set_cons_zero, List.set_cons_succ]
      refine wpAnyH_take (i := 19) (v := .pointer (some ⟨b, off + j * 9 + 3, none⟩)) rfl (by kernel_rfl) (by kernel_rfl) (by kernel_rfl) (fun _ _ _ h => h) (Or.inl ⟨by rfl, ?_⟩) (by assumption) ?_
      · (intro w1 hSw; (try dsimp only at hSw); go_simp)
      simp only [List.getElem_toArray, List.getElem_cons_succ, List.getElem_cons_zero, Act.put, List.setIfInBounds_toArray, List.set_cons_zero, List.set_cons_succ]
      refine wpAnyH_take (i := 20) (v := .agg #[.int .u64 xg.c, .bool xg.o, .int .i64 (hi xg.s), .int .u64 (lo xg.s), .int .i64 xg.mn, .int .i64 xg.mx]) rfl (by kernel_rfl) (by kernel_rfl) (by kernel_rfl) (fun _ _ _ h => h) (Or.inl ⟨by rfl, ?_⟩) (by assumption) ?_
      · (intro w1 hSw; (try dsimp only at hSw); have g3 := hSw.c3; have g4 := hSw.c4; have g5 := hSw.c5; have g6 := hSw.c6; have g7 := hSw.c7; have g8 := hSw.c8; go_simp)
      simp only [List.getElem_toArray, List.getElem_cons_succ, List.getElem_cons_zero, Act.put, List.setIfInBounds_toArray, List.set_cons_zero, List.set_cons_succ]
      refine wpAnyH_take (i := 21) (v := .agg #[.slice va xD.length vc, .int .i64 xf, .int .i64 (xz : Int), .int .u64 xg.c, .bool xg.o, .int .i64 (hi xg.s), .int .u64 (lo xg.s), .int .i64 xg.mn, .int .i64 xg.mx]) rfl (by kernel_rfl) (by kernel_rfl) (by kernel_rfl) (fun _ _ _ h => h) (Or.inl ⟨by rfl, ?_⟩) (by assumption) ?_
      · (intro w1 hSw; (try dsimp only at hSw); go_simp)
      simp only [List.getElem_toArray, List.getElem_cons_succ, List.getElem_cons_zero, Act.put, List.setIfInBounds_toArray, List.set_cons_zero, List.set_cons_succ]
      refine wpAnyH_ready (rs := [22]) (by kernel_rfl) (by simp) ?_
      refine AllReadyH.cons (o := _) rfl (fun K hK => ?_) AllReadyH.nil
      go_simp
      refine hK.out _ _ ?_ (fun hHeld => ?_)
      · exact HNa.out _
      clear hK K
      refine wpAnyH_ready (rs := [23]) (by kernel_rfl) (by simp) ?_
      refine AllReadyH.cons (o := _) rfl (fun K hK => ?_) AllReadyH.nil
      refine wp_app_runG (.tmp 11) (.tmp 33) 46 46 rfl rfl _ _ _ (by simp [Act.eval]) (by simp [Act.eval]) hrun ?_
      simp only [List.getElem_toArray, List.getElem_cons_succ, List.getElem_cons_zero, Act.put, List.setIfInBounds_toArray, List.set_cons_zero, List.set_cons_succ]
      refine hK.out _ _ ?_ (fun hHeld => ?_)
      · exact HN3.out
      clear hK K
      refine wpAnyH_ready (rs := [24]) (by kernel_rfl) (by simp) ?_
      refine AllReadyH.cons (o := _) rfl (fun K hK => ?_) AllReadyH.nil
      go_simp
      refine hK.out _ _ ?_ (fun hHeld => ?_)
      · exact HN3.out
      clear hK K
      refine wpAnyH_done (by kernel_rfl) ?_ _
      refine NoPanic.normal ?_
      go_wp2_with fail
      go_roundw
      case rel => exact ⟨j + 1, by go_num, by omega, HU3, hs3⟩
      case measure => simp [intOf]; omega
    · obtain rfl : j = n := by omega
      have hlt' : ¬ (j : Int) < (j : Int) := by omega
      have HT : Hid (TReads wr u3 xs) := by
        have := HU.out.reads
        rw [List.take_of_length_le (by rw [← Hn.out]; exact Nat.le_refl _)] at this
        exact this
      have HBE : Hid (Below w.heap.size w wr) := HU.out.b
      clear HU
      go_wp2_with fail
      go_ret
      exact ⟨_, rfl, HT.out, HBE.out⟩
end Go.Proofs.YtoenijflijfogaaGreat

/- Layer 17: the reference's Same, SameAll, of rows that are alike. -/
namespace Go.Proofs.YtoenijflijfogaaGreat
open Go.RowKit

set_option maxRecDepth 100000 in
set_option maxHeartbeats 2000000 in
theorem same17_true (va vb : Value) (D : List ByteArray) (f z c h l n x : Int) (p : Bool) (w : World) (hA : SReads w va D) (hB : SReads w vb D) :
    Calls Tryz.prog 30 #[.agg #[va, .int .i64 f, .int .i64 z, .int .u64 c, .bool p, .int .i64 h, .int .u64 l, .int .i64 n, .int .i64 x], .agg #[vb, .int .i64 f, .int .i64 z, .int .u64 c, .bool p, .int .i64 h, .int .u64 l, .int .i64 n, .int .i64 x]] w fun e w' => e = .returned (.bool true) ∧ Below w.heap.size w w' := by
  obtain ⟨aa, ca, rfl, hma⟩ := hA.form
  obtain ⟨ab, cb, rfl, hmb⟩ := hB.form
  obtain ⟨W, HW⟩ := hid_ex ((w.alloc (.cells #[.slice aa D.length ca, .int .i64 f, .int .i64 z, .int .u64 c, .bool p, .int .i64 h, .int .u64 l, .int .i64 n, .int .i64 x] 42)).alloc (.cells #[.slice ab D.length cb, .int .i64 f, .int .i64 z, .int .u64 c, .bool p, .int .i64 h, .int .u64 l, .int .i64 n, .int .i64 x] 42))
  have HB0 : Hid (Below w.heap.size w W) := by rw [HW.out]; exact ((Below.refl _ _).alloc (Nat.le_refl _) _).alloc (by simp) _
  have hX : W.heap[w.heap.size]? = some (.cells #[.slice aa D.length ca, .int .i64 f, .int .i64 z, .int .u64 c, .bool p, .int .i64 h, .int .u64 l, .int .i64 n, .int .i64 x] 42) := by
    rw [HW.out]; exact (Below.heap_alloc _ _ _ (by simp)).trans (heap_alloc_new _ _)
  have hY : W.heap[w.heap.size + 1]? = some (.cells #[.slice ab D.length cb, .int .i64 f, .int .i64 z, .int .u64 c, .bool p, .int .i64 h, .int .u64 l, .int .i64 n, .int .i64 x] 42) := by
    rw [HW.out]
    have := heap_alloc_new (w.alloc (.cells #[.slice aa D.length ca, .int .i64 f, .int .i64 z, .int .u64 c, .bool p, .int .i64 h, .int .u64 l, .int .i64 n, .int .i64 x] 42)) (.cells #[.slice ab D.length cb, .int .i64 f, .int .i64 z, .int .u64 c, .bool p, .int .i64 h, .int .u64 l, .int .i64 n, .int .i64 x] 42)
    rw [World.size_alloc] at this; exact this
  have HOC : Hid (Calls Tryz.prog 18 #[.slice aa D.length ca, .slice ab D.length cb] W fun e w' => e = .returned (.int .i64 0) ∧ Below W.heap.size W w') := by
    have h1 := order_anyK _ _ D D W (hA.below HB0.out) (hB.below HB0.out)
    rw [(cmpL_zero D D).2 rfl] at h1
    exact h1
  have HX : Hid (W.heap[w.heap.size]? = some (.cells #[.slice aa D.length ca, .int .i64 f, .int .i64 z, .int .u64 c, .bool p, .int .i64 h, .int .u64 l, .int .i64 n, .int .i64 x] 42)) := hX
  have HY : Hid (W.heap[w.heap.size + 1]? = some (.cells #[.slice ab D.length cb, .int .i64 f, .int .i64 z, .int .u64 c, .bool p, .int .i64 h, .int .u64 l, .int .i64 n, .int .i64 x] 42)) := hY
  have x0 := (cell_row hX 0 (by simp)).1
  have y0 := (cell_row hY 0 (by simp)).1
  simp only [List.getElem_toArray, List.getElem_cons_zero] at x0 y0
  rw [HW.out] at x0 y0
  clear hA hB hX hY
  go_enter Tryz.func30, Tryz.ntmps30
  go_wp2_with fail
  rw [← HW.out]
  clear HW x0 y0
  refine HOC.out.mono ?_
  clear HOC
  rintro e w1 ⟨rfl, hb1⟩
  have hX := (hb1.block _ (Array.getElem?_eq_some_iff.1 HX.out).1).trans HX.out
  have hY := (hb1.block _ (Array.getElem?_eq_some_iff.1 HY.out).1).trans HY.out
  have HB1 : Hid (Below w.heap.size w w1) := HB0.out.trans (hb1.mono HB0.out.size)
  have x1 := (cell_row hX 1 (by simp)).1
  have x2 := (cell_row hX 2 (by simp)).1
  have x3 := (cell_row hX 3 (by simp)).1
  have x4 := (cell_row hX 4 (by simp)).1
  have x5 := (cell_row hX 5 (by simp)).1
  have x6 := (cell_row hX 6 (by simp)).1
  have x7 := (cell_row hX 7 (by simp)).1
  have x8 := (cell_row hX 8 (by simp)).1
  have y1 := (cell_row hY 1 (by simp)).1
  have y2 := (cell_row hY 2 (by simp)).1
  have y3 := (cell_row hY 3 (by simp)).1
  have y4 := (cell_row hY 4 (by simp)).1
  have y5 := (cell_row hY 5 (by simp)).1
  have y6 := (cell_row hY 6 (by simp)).1
  have y7 := (cell_row hY 7 (by simp)).1
  have y8 := (cell_row hY 8 (by simp)).1
  simp only [List.getElem_toArray, List.getElem_cons_zero, List.getElem_cons_succ] at x1 x2 x3 x4 x5 x6 x7 x8 y1 y2 y3 y4 y5 y6 y7 y8
  clear hb1 hX hY HX HY HB0
  go_wp2_with fail
  go_ret
  exact ⟨rfl, HB1.out⟩
set_option maxRecDepth 100000 in
set_option maxHeartbeats 4000000 in
theorem sameAll17_true (va vb : Value) (xs ys : List It) (w : World) (hA : TReads w va xs) (hB : TReads w vb ys) (he : xs.map itR = ys.map itR) :
    Calls Tryz.prog 12 #[va, vb] w fun e w' => e = .returned (.bool true) ∧ Below w.heap.size w w' := by
  obtain ⟨a, ca, rfl, hm1, hm2⟩ := hA.form17
  obtain ⟨b, cb, rfl, hm3, hm4⟩ := hB.form17
  have hl : ys.length = xs.length := by have := congrArg List.length he; simpa using this.symm
  rw [hl] at hB hm3 ⊢
  unfold maxLen at hm2 hm4
  have HA : Hid (TReads w (.slice a xs.length ca) xs) := hA
  have HB : Hid (TReads w (.slice b xs.length cb) ys) := hB
  have HL : Hid (ys.length = xs.length) := hl
  have HE : Hid (xs.map itR = ys.map itR) := he
  obtain ⟨n, Hn⟩ := hid_ex xs.length
  rw [← Hn.out] at HA HB HL hm1 hm3 ⊢
  clear hA hB hl he
  go_enter Tryz.func12, Tryz.ntmps12
  go_wp2_with fail
  go_loopw [5] (fun i wr => ∃ j : Nat, i = .int .i64 (j : Int) ∧ j ≤ n ∧ Hid (Below w.heap.size w wr)) (fun i _ => n - (intOf i).toNat)
  case atStart => exact ⟨0, rfl, by omega, Below.refl _ _⟩
  case round =>
    obtain ⟨j, rfl, hj, HW⟩ := hrel
    by_cases hlt : j < n
    · have hlt' : (j : Int) < (n : Int) := by omega
      have hjx : j < xs.length := by rw [← Hn.out]; exact hlt
      have hjy : j < ys.length := by rw [HL.out]; exact hlt
      have hxy : itR xs[j] = itR ys[j] := by
        have h1 : (xs.map itR)[j]? = (ys.map itR)[j]? := by rw [HE.out]
        rw [List.getElem?_map, List.getElem?_map, List.getElem?_eq_getElem hjx, List.getElem?_eq_getElem hjy] at h1
        simpa using h1
      obtain ⟨r, Hr⟩ := hid_ex xs[j]
      obtain ⟨s, Hs⟩ := hid_ex ys[j]
      rw [← Hr.out, ← Hs.out] at hxy
      obtain ⟨xv, xD, xf, xz, xg⟩ := r
      obtain ⟨yv, yD, yf, yz, yg⟩ := s
      simp only [itR, Rw.mk.injEq] at hxy
      obtain ⟨rfl, rfl, rfl, rfl⟩ := hxy
      obtain ⟨b1, o1, rfl, hn1, hs1⟩ := HA.out.nine hjx Hr.out.symm
      obtain ⟨b2, o2, rfl, hn2, hs2⟩ := HB.out.nine hjy Hs.out.symm
      have HN1 : Hid (N9 wr b1 (o1 + j * 9) xv xf xz xg.c (hi xg.s) (lo xg.s) xg.mn xg.mx xg.o) := hn1.below HW.out
      have HN2 : Hid (N9 wr b2 (o2 + j * 9) yv xf xz xg.c (hi xg.s) (lo xg.s) xg.mn xg.mx xg.o) := hn2.below HW.out
      have HSC : Hid (∀ W, Below wr.heap.size wr W → Calls Tryz.prog 30 #[.agg #[xv, .int .i64 xf, .int .i64 (xz : Int), .int .u64 xg.c, .bool xg.o, .int .i64 (hi xg.s), .int .u64 (lo xg.s), .int .i64 xg.mn, .int .i64 xg.mx], .agg #[yv, .int .i64 xf, .int .i64 (xz : Int), .int .u64 xg.c, .bool xg.o, .int .i64 (hi xg.s), .int .u64 (lo xg.s), .int .i64 xg.mn, .int .i64 xg.mx]] W fun e w' => e = .returned (.bool true) ∧ Below W.heap.size W w') := fun W hW => same17_true _ _ xD _ _ _ _ _ _ _ _ W ((hs1.below HW.out).below hW) ((hs2.below HW.out).below hW)
      clear hn1 hn2 hs1 hs2 Hr Hs
      go_wp2_with fail
      refine wp_region_noPanic ?_
      refine wp_region_held_drew (S := (fun w' => Below wr.heap.size wr w')) (by kernel_rfl) ?_ (fun hHeld => ?_)
      · exact (Below.refl _ _).drew
      refine wpAnyH_take (i := 0) (v := .slice (some ⟨b1, o1, none⟩) n ca) rfl (by kernel_rfl) (by kernel_rfl) (by kernel_rfl) (fun _ _ _ h => h) (Or.inl ⟨by rfl, ?_⟩) (by assumption) ?_
      · (intro w1 hSw; (try dsimp only at hSw); go_simp)
      simp only [List.getElem_toArray, List.getElem_cons_zero, Act.put, List.setIfInBounds_toArray, List.set_cons_zero, List.set_cons_succ]
      refine wpAnyH_take (i := 1) (v := .int .i64 (j : Int)) rfl (by kernel_rfl) (by kernel_rfl) (by kernel_rfl) (fun _ _ _ h => h) (Or.inl ⟨by rfl, ?_⟩) (by assumption) ?_
      · (intro w1 hSw; (try dsimp only at hSw); go_simp)
      simp only [List.getElem_toArray, List.getElem_cons_succ, List.getElem_cons_zero, Act.put, List.setIfInBounds_toArray, List.set_cons_zero, List.set_cons_succ]
      refine wpAnyH_take (i := 2) (v := .pointer (some ⟨b1, o1 + j * 9, none⟩)) rfl (by kernel_rfl) (by kernel_rfl) (by kernel_rfl) (fun _ _ _ h => h) (Or.inl ⟨by rfl, ?_⟩) (by assumption) ?_
      · (intro w1 hSw; (try dsimp only at hSw); go_simp)
      simp only [List.getElem_toArray, List.getElem_cons_succ, List.getElem_cons_zero, Act.put, List.setIfInBounds_toArray, List.set_cons_zero, List.set_cons_succ]
      refine wpAnyH_take (i := 3) (v := .agg #[xv, .int .i64 xf, .int .i64 (xz : Int), .int .u64 xg.c, .bool xg.o, .int .i64 (hi xg.s), .int .u64 (lo xg.s), .int .i64 xg.mn, .int .i64 xg.mx]) rfl (by kernel_rfl) (by kernel_rfl) (by kernel_rfl) (fun _ _ _ h => h) (Or.inl ⟨by rfl, ?_⟩) (by assumption) ?_
      · (intro w1 hSw; (try dsimp only at hSw); have gg := HN1.out.below hSw; have g0 := gg.c0; have g1 := gg.c1; have g2 := gg.c2; have g3 := gg.c3; have g4 := gg.c4; have g5 := gg.c5; have g6 := gg.c6; have g7 := gg.c7; have g8 := gg.c8; go_simp)
      simp only [List.getElem_toArray, List.getElem_cons_succ, List.getElem_cons_zero, Act.put, List.setIfInBounds_toArray, List.set_cons_zero, List.set_cons_succ]
      refine wpAnyH_take (i := 4) (v := .slice (some ⟨b2, o2, none⟩) n cb) rfl (by kernel_rfl) (by kernel_rfl) (by kernel_rfl) (fun _ _ _ h => h) (Or.inl ⟨by rfl, ?_⟩) (by assumption) ?_
      · (intro w1 hSw; (try dsimp only at hSw); go_simp)
      simp only [List.getElem_toArray, List.getElem_cons_succ, List.getElem_cons_zero, Act.put, List.setIfInBounds_toArray, List.set_cons_zero, List.set_cons_succ]
      refine wpAnyH_take (i := 5) (v := .int .i64 (j : Int)) rfl (by kernel_rfl) (by kernel_rfl) (by kernel_rfl) (fun _ _ _ h => h) (Or.inl ⟨by rfl, ?_⟩) (by assumption) ?_
      · (intro w1 hSw; (try dsimp only at hSw); go_simp)
      simp only [List.getElem_toArray, List.getElem_cons_succ, List.getElem_cons_zero, Act.put, List.setIfInBounds_toArray, List.set_cons_zero, List.set_cons_succ]
      refine wpAnyH_take (i := 6) (v := .pointer (some ⟨b2, o2 + j * 9, none⟩)) rfl (by kernel_rfl) (by kernel_rfl) (by kernel_rfl) (fun _ _ _ h => h) (Or.inl ⟨by rfl, ?_⟩) (by assumption) ?_
      · (intro w1 hSw; (try dsimp only at hSw); go_simp)
      simp only [List.getElem_toArray, List.getElem_cons_succ, List.getElem_cons_zero, Act.put, List.setIfInBounds_toArray, List.set_cons_zero, List.set_cons_succ]
      refine wpAnyH_take (i := 7) (v := .agg #[yv, .int .i64 xf, .int .i64 (xz : Int), .int .u64 xg.c, .bool xg.o, .int .i64 (hi xg.s), .int .u64 (lo xg.s), .int .i64 xg.mn, .int .i64 xg.mx]) rfl (by kernel_rfl) (by kernel_rfl) (by kernel_rfl) (fun _ _ _ h => h) (Or.inl ⟨by rfl, ?_⟩) (by assumption) ?_
      · (intro w1 hSw; (try dsimp only at hSw); have gg := HN2.out.below hSw; have g0 := gg.c0; have g1 := gg.c1; have g2 := gg.c2; have g3 := gg.c3; have g4 := gg.c4; have g5 := gg.c5; have g6 := gg.c6; have g7 := gg.c7; have g8 := gg.c8; go_simp)
      simp only [List.getElem_toArray, List.getElem_cons_succ, List.getElem_cons_zero, Act.put, List.setIfInBounds_toArray, List.set_cons_zero, List.set_cons_succ]
      refine wpAnyH_ready (rs := [8]) (by kernel_rfl) (by simp) ?_
      refine AllReadyH.cons (o := _) rfl (fun K hK => ?_) AllReadyH.nil
      go_simp
      refine (HSC.out _ (Below.refl _ _).drew).mono ?_
      rintro e w3 ⟨rfl, hb3⟩
      have HW3 : Hid (Below wr.heap.size wr w3) := (Below.refl wr.heap.size wr).drew.trans hb3
      clear hb3
      refine hK.out _ _ ?_ (fun hHeld => ?_)
      · exact HW3.out
      clear hK K
      refine wpAnyH_take (i := 9) (v := .bool false) rfl (by kernel_rfl) (by kernel_rfl) (by kernel_rfl) (fun _ _ _ h => h) (Or.inl ⟨by rfl, ?_⟩) (by assumption) ?_
      · (intro w1 hSw; (try dsimp only at hSw); go_simp)
      simp only [List.getElem_toArray, List.getElem_cons_succ, List.getElem_cons_zero, Act.put, List.setIfInBounds_toArray, List.set_cons_zero, List.set_cons_succ]
      clear hHeld
      refine wpAnyH_done (by kernel_rfl) ?_ _
      refine NoPanic.normal ?_
      have HB3 : Hid (Below w.heap.size w w3) := HW.out.trans (HW3.out.mono HW.out.size)
      clear HSC
      go_wp2_with fail
      go_roundw
      case rel => exact ⟨j + 1, by go_num, by omega, HB3⟩
      case measure => simp [intOf]; omega
    · have hlt' : ¬ (j : Int) < (n : Int) := by omega
      go_wp2_with fail
      go_ret
      exact ⟨rfl, HW.out⟩
end Go.Proofs.YtoenijflijfogaaGreat

/- The reference's Read of a key, and where its dimensions lie. -/
namespace Go.Proofs.YtoenijflijfogaaGreat
open Go.RowKit

set_option maxRecDepth 100000 in
set_option maxHeartbeats 2000000 in
theorem refRead_own (v : Value) (l : List UInt8) (hl : l.length ≤ 1000) (w : World) (h : Reads w v l) :
    Calls Tryz.prog 54 #[v] w fun e w' => (∃ D f g vd, rdF l = some (D, f, g) ∧ e = .returned (.tuple #[.agg #[vd, .int .i64 f, .int .i64 g], .int .i64 0]) ∧ KLies ⟨vd, D, f, g⟩ w' ∧ (∀ k, vd.ownBlock = some k → w.heap.size < k) ∧ Below w.heap.size w w') ∨ (rdF l = none ∧ e = .returned (.tuple #[.agg #[.slice none 0 0, .int .i64 0, .int .i64 0], .int .i64 40]) ∧ Below w.heap.size w w') := by
  obtain ⟨a, cap, rfl, _⟩ := h.form
  have HRL : Hid (Reads w (.slice a l.length cap) l) := h
  clear h
  obtain ⟨W, HW⟩ := hid_ex ((w.alloc (.cells #[.slice none 0 0, .int .i64 0, .int .i64 0] 70)).alloc (.cells #[.slice none 0 0, .int .i64 0, .int .i64 0] 70))
  have HB0 : Hid (Below w.heap.size w W) := by rw [HW.out]; exact box2_below (Below.refl _ _)
  have HZ0 : Hid (w.heap.size + 2 ≤ W.heap.size) := by rw [HW.out]; unfold Hid; simp
  have HT0 : Hid (KBx w.heap.size W (.slice none 0 0) (.int .i64 0) (.int .i64 0)) := by
    rw [HW.out]; exact (KBx.new w _ _ _ _).below ((Below.refl _ _).alloc (Nat.le_refl _) _) (by simp)
  have HK0 : Hid (KBx (w.heap.size + 1) W (.slice none 0 0) (.int .i64 0) (.int .i64 0)) := by
    rw [HW.out]; have := KBx.new (w.alloc (.cells #[.slice none 0 0, .int .i64 0, .int .i64 0] 70)) (.slice none 0 0) (.int .i64 0) (.int .i64 0) 70; unfold Hid; simpa using this
  go_enter Tryz.func54, Tryz.ntmps54
  go_wp2_with fail
  rw [← HW.out]
  clear HW
  go_loopw [5] (fun i wr => ∃ (p n : Nat) (r : List UInt8) (A : List ByteArray) (va : Value), i = .int .i64 (p : Int) ∧ p + r.length = l.length ∧ r.length < n ∧ Hid (l.drop p = r) ∧ Hid (rpF (l.length + 1) l [] = rpF n r A) ∧ A.length ≤ p ∧ Hid (Below w.heap.size w wr) ∧ Hid (w.heap.size + 2 ≤ wr.heap.size) ∧ Hid (KBx w.heap.size wr (.slice none 0 0) (.int .i64 0) (.int .i64 0)) ∧ Hid (KBx (w.heap.size + 1) wr va (.int .i64 0) (.int .i64 0)) ∧ SOwn wr (w.heap.size + 2) va A) (fun i _ => l.length - (intOf i).toNat)
  case atStart => exact ⟨0, l.length + 1, l, [], _, rfl, by omega, by omega, rfl, rfl, by simp, HB0, HZ0, HT0, HK0, SOwn.nil _ _⟩
  case round =>
    obtain ⟨p, n, r, A, va, rfl, hpl, hrn, HD, HP, hAp, HB, HZ, HT, HKb, HO⟩ := hrel
    obtain ⟨m, rfl⟩ : ∃ m, n = m + 1 := ⟨n - 1, by omega⟩
    obtain ⟨⟨t0, t1, t2⟩, t3, t4, t5⟩ := HT.out
    obtain ⟨⟨k0, k1, k2⟩, k3, k4, k5⟩ := HKb.out
    obtain ⟨av, cv, rfl, _⟩ := HO.reads.form
    cases r with
    | nil =>
      have HPE : Hid (rpF (l.length + 1) l [] = some (A, [])) := HP.out
      have h10 : ([] : List UInt8).length ≠ 10 := by simp
      have j0 : ¬ (p : Int) < (l.length : Int) := by simp at hpl; omega
      simp at hpl
      have HN : Hid (rdF l = none) := rp_end10 HPE.out h10
      have j1 : ((l.length : Int) - (p : Int) != 10) = true := by simp; omega
      clear HP HPE h10
      go_wp2_with fail
      refine bodyPost_ret (v := .tuple #[.agg #[.slice none 0 0, .int .i64 0, .int .i64 0], .int .i64 40]) (by simp [results, Tryz.results54, go_sem, t0, t1, t2]) rfl (.inr ⟨HN.out, rfl, set3_below HB.out (Nat.le_refl _)⟩)
    | cons x t =>
      have hpl2 : p + (t.length + 1) = l.length := hpl
      have j0 : (p : Int) < (l.length : Int) := by omega
      obtain ⟨b, off, rfl, hbw, hcp⟩ := HRL.out.at p (by omega)
      have HCL : Hid (∀ j (hj : j < l.length), w.cell? ⟨b, off + j, none⟩ = some (bc l[j])) := by
        intro j hj
        obtain ⟨b', off', hv, _, hc⟩ := HRL.out.at j hj
        simp at hv
        obtain ⟨rfl, rfl⟩ := hv
        exact hc
      have hlx : l[p]'(by omega) = x := by
        have h1 := HD.out
        have h2 : (l.drop p)[0]? = (x :: t)[0]? := by rw [h1]
        rw [List.getElem?_drop, List.getElem?_eq_getElem (by omega)] at h2
        simpa using h2
      have hcell := (HB.out.cell (p := ⟨b, off + p, none⟩) hbw).trans hcp
      rw [hlx] at hcell
      unfold bc at hcell
      have hxb : x.toNat < 256 := x.toNat_lt
      have hcap := HRL.out.cap (by omega)
      clear hlx hcp
      by_cases hx1 : x.toNat = 1
      · have j6 : ((x.toNat : Int) == 1) = true := by simp; omega
        have HP3 : Hid (rpF (l.length + 1) l [] = if (rtF t [] 0).2.2 = 0 then rpF m (t.drop (rtF t [] 0).2.1) (A ++ [⟨(rtF t [] 0).1.toArray⟩]) else none) := by
          rw [HP.out, rpF, if_pos hx1]; rfl
        have j2 : (p : Int) + 1 ≤ (l.length : Int) := by omega
        have j3 : (p : Int) + 1 ≤ (cap : Int) := by omega
        have hdt : l.drop (p + 1) = t := by
          have := congrArg (List.drop 1) HD.out
          rw [List.drop_drop] at this
          simpa using this
        have HDT : Hid (l.drop (p + 1) = t) := hdt
        clear hdt hx1 HP
        by_cases hc1 : (cap : Int) = (p : Int) + 1
        · have HZt : Hid (t = []) := by unfold Hid; exact List.length_eq_zero_iff.1 (by omega)
          have HN : Hid (rdF l = none) := rp_none (by rw [HP3.out, HZt.out]; rfl)
          have hl0 : l.length - (p + 1) = 0 := by omega
          go_wp2_with fail
          refine (refReadText_any _ t (by omega) _ (by rw [HZt.out]; (try rw [hl0]); exact reads_nil (fun h => by cases h))).mono ?_
          rw [HZt.out, show rtF [] [] 0 = ([], 0, 10) from rfl]
          rintro e w1 ⟨rfl, hb1⟩
          have HB1 : Hid (Below w.heap.size w w1) := HB.out.trans (hb1.mono HB.out.size)
          have HT1 : Hid (KBx w.heap.size w1 (.slice none 0 0) (.int .i64 0) (.int .i64 0)) := HT.out.below hb1 (by have := HZ.out; omega)
          clear hb1 hcell HT HKb t0 t1 t2 t3 t4 t5 k0 k1 k2 k3 k4 k5
          obtain ⟨⟨t0, t1, t2⟩, t3, t4, t5⟩ := HT1.out
          go_wp2_with fail
          refine bodyPost_ret (v := .tuple #[.agg #[.slice none 0 0, .int .i64 0, .int .i64 0], .int .i64 40]) (by simp [results, Tryz.results54, go_sem, t0, t1, t2]) rfl (.inr ⟨HN.out, rfl, set3_below HB1.out (Nat.le_refl _)⟩)
        · have HRT : Hid (Reads w (.slice (some ⟨b, off + (p + 1), none⟩) (l.length - (p + 1)) (cap - (p + 1))) t) := by
            have h1 := (HRL.out.drop (c := p + 1) (by omega) b off rfl).1 (by omega)
            rw [HDT.out] at h1
            exact h1
          go_wp2_with fail
          refine (refReadText_any _ t (by omega) _ (HRT.out.below HB.out)).mono ?_
          obtain ⟨q, hq⟩ := hid_ex (rtF t [] 0)
          rw [← hq.out] at HP3 ⊢
          have HF : Hid (q.2.2 = 0 → 2 ≤ q.2.1 ∧ q.2.1 ≤ t.length ∧ q.1.length ≤ q.2.1) := by
            intro h
            have := rt_facts (l := t) (S := q.1) (N := q.2.1) (by rw [← hq.out, ← h])
            exact ⟨this.1, this.2.1, this.2.2.1⟩
          obtain ⟨S, N, E⟩ := q
          simp only at HP3 HF ⊢
          rintro e w1 ⟨rfl, hb1⟩
          have HB1 : Hid (Below w.heap.size w w1) := HB.out.trans (hb1.mono HB.out.size)
          have HZ1 : Hid (w.heap.size + 2 ≤ w1.heap.size) := Nat.le_trans HZ.out hb1.size
          have HT1 : Hid (KBx w.heap.size w1 (.slice none 0 0) (.int .i64 0) (.int .i64 0)) := HT.out.below hb1 (by have := HZ.out; omega)
          have HK1 : Hid (KBx (w.heap.size + 1) w1 (.slice av A.length cv) (.int .i64 0) (.int .i64 0)) := HKb.out.below hb1 (by have := HZ.out; omega)
          have HO1 : SOwn w1 (w.heap.size + 2) (.slice av A.length cv) A := HO.below hb1
          clear hb1 hcell HT HKb HO t0 t1 t2 t3 t4 t5 k0 k1 k2 k3 k4 k5 hq HRT
          obtain ⟨⟨t0, t1, t2⟩, t3, t4, t5⟩ := HT1.out
          obtain ⟨⟨k0, k1, k2⟩, k3, k4, k5⟩ := HK1.out
          by_cases hE : E = 0
          · subst hE
            obtain ⟨f1, f2, f3⟩ := HF.out rfl
            have HP4 : Hid (rpF (l.length + 1) l [] = rpF m (t.drop N) (A ++ [⟨S.toArray⟩])) := by rw [HP3.out, if_pos rfl]; rfl
            obtain ⟨A1, HA1⟩ := hid_ex (A ++ [(⟨S.toArray⟩ : ByteArray)])
            have hys : (⟨S.toArray⟩ : ByteArray).size ≤ maxLen := by unfold maxLen; show S.toArray.size ≤ _; simp; omega
            have hs1 := HZ1.out
            rw [← HA1.out] at HP4
            have HA1l : Hid (A1.length = A.length + 1) := by rw [HA1.out]; simp [Hid]
            clear HP3 HF t0 t1 t2 t3 t4 t5
            go_wp2_with (at_builtin; refine wpList_sapp1 rfl _ _ rfl (w.heap.size + 2) _ A A1 HA1.out hys rfl rfl HO1 (by omega) hs1 ?_)
            intro v2 w2 HO2 hb2
            obtain ⟨a2, c2, rfl, _⟩ := HO2.reads.form
            have HB2 : Hid (Below w.heap.size w w2) := HB1.out.trans (hb2.out.mono (by omega))
            have HZ2 : Hid (w.heap.size + 2 ≤ w2.heap.size) := Nat.le_trans HZ1.out hb2.out.size
            have HT2 : Hid (KBx w.heap.size w2 (.slice none 0 0) (.int .i64 0) (.int .i64 0)) := HT1.out.below hb2.out (by omega)
            have HK2 : Hid (KBx (w.heap.size + 1) w2 (.slice av A.length cv) (.int .i64 0) (.int .i64 0)) := HK1.out.below hb2.out (by omega)
            clear hb2 HO1 HT1 HK1 k0 k1 k2 k3 k4 k5 hs1
            obtain ⟨⟨k0, k1, k2⟩, k3, k4, k5⟩ := HK2.out
            have HB3 : Hid (Below w.heap.size w (w2.setCell ⟨w.heap.size + 1, 0, none⟩ (.slice a2 A1.length c2))) := HB2.out.setCell (Nat.le_succ _) _
            have HZ3 : Hid (w.heap.size + 2 ≤ (w2.setCell ⟨w.heap.size + 1, 0, none⟩ (.slice a2 A1.length c2)).heap.size) := by have := HZ2.out; unfold Hid; simpa using this
            have HT3 : Hid (KBx w.heap.size (w2.setCell ⟨w.heap.size + 1, 0, none⟩ (.slice a2 A1.length c2)) (.slice none 0 0) (.int .i64 0) (.int .i64 0)) := HT2.out.below ((Below.refl (w.heap.size + 1) w2).setCell (p := ⟨w.heap.size + 1, 0, none⟩) (Nat.le_refl _) _) (by omega)
            have HK3 : Hid (KBx (w.heap.size + 1) (w2.setCell ⟨w.heap.size + 1, 0, none⟩ (.slice a2 A1.length c2)) (.slice a2 A1.length c2) (.int .i64 0) (.int .i64 0)) := HK2.out.set0
            have HO3 : SOwn (w2.setCell ⟨w.heap.size + 1, 0, none⟩ (.slice a2 A1.length c2)) (w.heap.size + 2) (.slice a2 A1.length c2) A1 := HO2.set (by omega)
            have HDN : Hid (l.drop (p + 1 + N) = t.drop N) := by rw [← HDT.out, List.drop_drop]; rfl
            have hA1 : A1.length ≤ p + 1 + N := by rw [HA1l.out]; omega
            have htn : (t.drop N).length = t.length - N := by simp
            clear HO2 HA1
            go_wp2_with fail
            go_roundw
            case rel => exact ⟨p + 1 + N, m, t.drop N, A1, _, by go_num, by rw [htn]; omega, by rw [htn]; simp at hrn; omega, HDN, HP4, hA1, HB3, HZ3, HT3, HK3, HO3⟩
            case measure => simp [intOf]; omega
          · have HN : Hid (rdF l = none) := rp_none (by rw [HP3.out, if_neg hE])
            have jE : (E == 0) = false := by simpa using hE
            clear HP3 HF hE
            go_wp2_with fail
            refine bodyPost_ret (v := .tuple #[.agg #[.slice none 0 0, .int .i64 0, .int .i64 0], .int .i64 40]) (by simp [results, Tryz.results54, go_sem, t0, t1, t2]) rfl (.inr ⟨HN.out, rfl, set3_below HB1.out (Nat.le_refl _)⟩)
      · have j6 : ((x.toNat : Int) == 1) = false := by simp; omega
        have HPE : Hid (rpF (l.length + 1) l [] = some (A, x :: t)) := by rw [HP.out, rpF, if_neg hx1]; rfl
        clear hx1
        by_cases h10 : (x :: t).length = 10
        · have hr9 : t.length = 9 := by simp at h10; omega
          obtain ⟨q1, q2, q3, q4⟩ := rnF9 hr9
          have HE : Hid _ := rp_end HPE.out
          have HG : Hid ((t.getD 8 0).toNat = (t[8]'(by omega)).toNat) := by simp [Hid, List.getD, hr9]
          obtain ⟨y, HY⟩ := hid_ex (t[8]'(by omega))
          rw [HG.out, ← HY.out] at HE
          have hyb : y.toNat < 256 := y.toNat_lt
          have hc9 := (HB.out.cell (p := ⟨b, off + (p + 9), none⟩) hbw).trans (HCL.out (p + 9) (by omega))
          have hg9 : l[p + 9]'(by omega) = y := by
            rw [HY.out]
            have h1 := HD.out
            have h2 : (l.drop p)[9]? = (x :: t)[9]? := by rw [h1]
            rw [List.getElem?_drop, List.getElem?_eq_getElem (by omega)] at h2
            simp at h2
            rw [List.getElem?_eq_getElem (by omega)] at h2
            exact Option.some.inj h2
          rw [hg9] at hc9
          unfold bc at hc9
          have HRT : Hid (Reads w (.slice (some ⟨b, off + (p + 1), none⟩) (l.length - (p + 1)) (cap - (p + 1))) t) := by
            have h1 := (HRL.out.drop (c := p + 1) (by omega) b off rfl).1 (by omega)
            have h2 : l.drop (p + 1) = t := by
              have := congrArg (List.drop 1) HD.out
              rw [List.drop_drop] at this
              simpa using this
            rw [h2] at h1
            exact h1
          have j1 : ((l.length : Int) - (p : Int) != 10) = false := by simp; omega
          have j2 : (p : Int) + 1 ≤ (l.length : Int) := by omega
          have j3 : (p : Int) + 1 ≤ (cap : Int) := by omega
          have j4 : ¬ (cap : Int) = (p : Int) + 1 := by omega
          have j5 : (p : Int) + 9 < (l.length : Int) := by omega
          clear HG HY hg9 HP HPE h10 hr9
          go_wp2_with fail
          refine (refReadNumber_any _ t _ (HRT.out.below HB.out)).mono ?_
          rw [q1, q2]
          generalize (rnF t).1 = F at *
          rintro e w2 ⟨rfl, hb2⟩
          have HB2 : Hid (Below w.heap.size w w2) := HB.out.trans (hb2.mono HB.out.size)
          have HT2 : Hid (KBx w.heap.size w2 (.slice none 0 0) (.int .i64 0) (.int .i64 0)) := HT.out.below hb2 (by have := HZ.out; omega)
          have HK2 : Hid (KBx (w.heap.size + 1) w2 (.slice av A.length cv) (.int .i64 0) (.int .i64 0)) := HKb.out.below hb2 (by have := HZ.out; omega)
          have hc92 := (hb2.cell (p := ⟨b, off + (p + 9), none⟩) (show b < wr.heap.size by have := HZ.out; omega)).trans hc9
          have HO2 := HO.below hb2
          have HZS : Hid (wr.heap.size ≤ w2.heap.size) := hb2.size
          clear hb2 HO HT HKb hc9 t0 t1 t2 t3 t4 t5 k0 k1 k2 k3 k4 k5 HRT
          obtain ⟨⟨t0, t1, t2⟩, t3, t4, t5⟩ := HT2.out
          obtain ⟨⟨k0, k1, k2⟩, k3, k4, k5⟩ := HK2.out
          have hbn : ¬ w.heap.size + 1 = b := by omega
          have HKF : Hid (KLies ⟨.slice av A.length cv, A, F, (y.toNat : Int)⟩ w2) := ⟨HO2.reads, q3, q4, by show (-9223372036854775808 : Int) ≤ (y.toNat : Int); omega, by show (y.toNat : Int) ≤ 9223372036854775807; omega⟩
          have HGB : Hid (∀ k, (Value.slice av A.length cv).ownBlock = some k → w.heap.size + 1 < k) := fun k hk => by have := own_block HO2.1 k hk; omega
          have HZ2 : Hid (w.heap.size + 2 ≤ w2.heap.size) := Nat.le_trans HZ.out HZS.out
          obtain ⟨W3, HW3⟩ := hid_ex ((w2.setCell ⟨w.heap.size + 1, 1, none⟩ (.int .i64 F)).setCell ⟨w.heap.size + 1, 2, none⟩ (.int .i64 (y.toNat : Int)))
          have HB3 : Hid (Below w.heap.size w W3) := by rw [HW3.out]; exact (HB2.out.setCell (Nat.le_succ _) _).setCell (Nat.le_succ _) _
          have HZ3 : Hid (w.heap.size + 2 ≤ W3.heap.size) := by rw [HW3.out]; have := HZ2.out; unfold Hid; simpa using this
          have HT3 : Hid (KBx w.heap.size W3 (.slice none 0 0) (.int .i64 0) (.int .i64 0)) := by
            rw [HW3.out]
            exact (HT2.out.below ((Below.refl (w.heap.size + 1) w2).setCell (p := ⟨w.heap.size + 1, 1, none⟩) (Nat.le_refl _) _) (by omega)).below ((Below.refl (w.heap.size + 1) _).setCell (p := ⟨w.heap.size + 1, 2, none⟩) (Nat.le_refl _) _) (by omega)
          have HK3 : Hid (KBx (w.heap.size + 1) W3 (.slice av A.length cv) (.int .i64 F) (.int .i64 (y.toNat : Int))) := by
            rw [HW3.out]; exact HK2.out.set1.set2
          have HL3 : KLies ⟨.slice av A.length cv, A, F, (y.toNat : Int)⟩ W3 := by
            rw [HW3.out]; exact ⟨(HKF.out.r.set HGB.out).set HGB.out, HKF.out.f1, HKF.out.f2, HKF.out.g1, HKF.out.g2⟩
          go_wp2_with fail
          rw [← HW3.out]
          clear HW3 HKF HO2 hc92 HT2 HK2 t0 t1 t2 t3 t4 t5 k0 k1 k2 k3 k4 k5
          cases hrt : rightBK A F (y.toNat : Int) with
          | true =>
            refine (refWrite_yes ⟨.slice av A.length cv, A, F, (y.toNat : Int)⟩ hrt _ HL3).mono ?_
            simp only
            rintro e w4 ⟨z, rfl, HO4, hb4⟩
            have HB4 : Hid (Below w.heap.size w w4) := HB3.out.trans (hb4.mono HB3.out.size)
            have HT4 : Hid (KBx w.heap.size w4 (.slice none 0 0) (.int .i64 0) (.int .i64 0)) := HT3.out.below hb4 (by have := HZ3.out; omega)
            have HK4 : Hid (KBx (w.heap.size + 1) w4 (.slice av A.length cv) (.int .i64 F) (.int .i64 (y.toNat : Int))) := HK3.out.below hb4 (by have := HZ3.out; omega)
            have HL4 : Hid (KLies ⟨.slice av A.length cv, A, F, (y.toNat : Int)⟩ w4) := HL3.below hb4
            have hcz := reads_text HO4.reads
            have hcb := reads_text (HRL.out.below HB4.out)
            obtain ⟨⟨t0, t1, t2⟩, t3, t4, t5⟩ := HT4.out
            obtain ⟨⟨k0, k1, k2⟩, k3, k4, k5⟩ := HK4.out
            have hne : ¬ w.heap.size + 1 = w.heap.size := by omega
            by_cases hkl : kb A F (y.toNat : Int) = l
            · have HN : Hid (rdF l = some (A, F, (y.toNat : Int))) := by rw [HE.out, if_pos ⟨hrt, hkl⟩]; rfl
              rw [hkl] at hcz
              clear HE hrt hb4 HO4 hkl HL3
              go_wp2_with fail
              refine bodyPost_ret (v := .tuple #[.agg #[.slice av A.length cv, .int .i64 F, .int .i64 (y.toNat : Int)], .int .i64 0]) (by simp [results, Tryz.results54, go_sem, t0, t1, t2]) rfl (.inl ⟨A, F, (y.toNat : Int), _, HN.out, rfl, ?_, fun k hk => (by have := HGB.out k hk; omega), set3_below HB4.out (Nat.le_refl _)⟩)
              have hgb : ∀ k, (Value.slice av A.length cv).ownBlock = some k → w.heap.size < k := fun k hk => by have := HGB.out k hk; omega
              exact ⟨((HL4.out.r.set hgb).set hgb).set hgb, HL4.out.f1, HL4.out.f2, HL4.out.g1, HL4.out.g2⟩
            · have HN : Hid (rdF l = none) := by rw [HE.out, if_neg (fun h => hkl h.2)]; rfl
              have hkb : (kb A F (y.toNat : Int) == l) = false := by simpa using hkl
              clear HE hrt hb4 HO4 hkl HL3
              go_wp2_with fail
              refine bodyPost_ret (v := .tuple #[.agg #[.slice none 0 0, .int .i64 0, .int .i64 0], .int .i64 40]) (by simp [results, Tryz.results54, go_sem, t0, t1, t2]) rfl (.inr ⟨HN.out, rfl, set3_below HB4.out (Nat.le_refl _)⟩)
          | false =>
            refine (refWrite_no ⟨.slice av A.length cv, A, F, (y.toNat : Int)⟩ hrt _ HL3).mono ?_
            rintro e w4 ⟨rfl, hb4⟩
            have HB4 : Hid (Below w.heap.size w w4) := HB3.out.trans (hb4.mono HB3.out.size)
            have HT4 : Hid (KBx w.heap.size w4 (.slice none 0 0) (.int .i64 0) (.int .i64 0)) := HT3.out.below hb4 (by have := HZ3.out; omega)
            obtain ⟨⟨t0, t1, t2⟩, t3, t4, t5⟩ := HT4.out
            have HN : Hid (rdF l = none) := by rw [HE.out, if_neg (fun h => by rw [hrt] at h; simp at h)]; rfl
            clear HE hrt hb4 HL3
            go_wp2_with fail
            refine bodyPost_ret (v := .tuple #[.agg #[.slice none 0 0, .int .i64 0, .int .i64 0], .int .i64 40]) (by simp [results, Tryz.results54, go_sem, t0, t1, t2]) rfl (.inr ⟨HN.out, rfl, set3_below HB4.out (Nat.le_refl _)⟩)
        · have HN : Hid (rdF l = none) := rp_end10 HPE.out h10
          have j1 : ((l.length : Int) - (p : Int) != 10) = true := by simp; omega
          clear HP HPE h10
          go_wp2_with fail
          refine bodyPost_ret (v := .tuple #[.agg #[.slice none 0 0, .int .i64 0, .int .i64 0], .int .i64 40]) (by simp [results, Tryz.results54, go_sem, t0, t1, t2]) rfl (.inr ⟨HN.out, rfl, set3_below HB.out (Nat.le_refl _)⟩)
end Go.Proofs.YtoenijflijfogaaGreat
