/- AR0 AR1 AR2 AR3, joined. -/
import Derived.Test.YtoenijflijfogaaGreatRA28
import Derived.Test.YtoenijflijfogaaGreatRA42
/- Layer 17: As; rows that are alike. -/
namespace Go.Proofs.YtoenijflijfogaaGreat
open Go.RowKit

theorem infoRf : (Tryz.prog.info? 42).map (fun i => (i.zero, i.size, i.bytes)) = some (some (.agg #[.slice none 0 0, .int .i64 0, .int .i64 0, .int .u64 0, .bool false, .int .i64 0, .int .u64 0, .int .i64 0, .int .i64 0]), 9, 88) := by kernel_rfl
/-- Nine cells in a row. -/
structure N9 (w : World) (b o : Nat) (v : Value) (f z c h l n x : Int) (p : Bool) : Prop where
  c0 : w.cell? ⟨b, o, none⟩ = some v
  c1 : w.cell? ⟨b, o + 1, none⟩ = some (.int .i64 f)
  c2 : w.cell? ⟨b, o + 2, none⟩ = some (.int .i64 z)
  c3 : w.cell? ⟨b, o + 3, none⟩ = some (.int .u64 c)
  c4 : w.cell? ⟨b, o + 4, none⟩ = some (.bool p)
  c5 : w.cell? ⟨b, o + 5, none⟩ = some (.int .i64 h)
  c6 : w.cell? ⟨b, o + 6, none⟩ = some (.int .u64 l)
  c7 : w.cell? ⟨b, o + 7, none⟩ = some (.int .i64 n)
  c8 : w.cell? ⟨b, o + 8, none⟩ = some (.int .i64 x)
  b : b < w.heap.size
theorem N9.below {w w' : World} {b o : Nat} {v : Value} {f z c h l n x : Int} {p : Bool} (k : N9 w b o v f z c h l n x p) (hb : Below w.heap.size w w') : N9 w' b o v f z c h l n x p :=
  ⟨(hb.cell (p := ⟨b, _, none⟩) k.b).trans k.c0, (hb.cell (p := ⟨b, _, none⟩) k.b).trans k.c1, (hb.cell (p := ⟨b, _, none⟩) k.b).trans k.c2, (hb.cell (p := ⟨b, _, none⟩) k.b).trans k.c3, (hb.cell (p := ⟨b, _, none⟩) k.b).trans k.c4, (hb.cell (p := ⟨b, _, none⟩) k.b).trans k.c5, (hb.cell (p := ⟨b, _, none⟩) k.b).trans k.c6, (hb.cell (p := ⟨b, _, none⟩) k.b).trans k.c7, (hb.cell (p := ⟨b, _, none⟩) k.b).trans k.c8, Nat.lt_of_lt_of_le k.b hb.size⟩
/-- A row's item, in memory. -/
theorem TReads.nine {w : World} {a : Option Addr} {n cap : Nat} {xs : List It} (h : TReads w (.slice a n cap) xs) {j : Nat} (hj : j < xs.length) {v : Value} {D : List ByteArray} {f : Int} {z : Nat} {g : Ag} (hx : xs[j] = ⟨v, D, f, z, g⟩) :
    ∃ b off, a = some ⟨b, off, none⟩ ∧ N9 w b (off + j * 9) v f z g.c (hi g.s) (lo g.s) g.mn g.mx g.o ∧ SReads w v D := by
  obtain ⟨b, off, ha, hb, hc, hs⟩ := h.at hj
  rw [hx] at hc hs
  exact ⟨b, off, ha, ⟨hc 0 (by decide), hc 1 (by decide), hc 2 (by decide), hc 3 (by decide), hc 4 (by decide), hc 5 (by decide), hc 6 (by decide), hc 7 (by decide), hc 8 (by decide), hb⟩, hs⟩
theorem TReads.form17 {w : World} {v : Value} {xs : List It} (h : TReads w v xs) : ∃ a cap, v = .slice a xs.length cap ∧ xs.length ≤ cap ∧ cap ≤ maxLen := by
  obtain ⟨a, cap, hv, h1, h2, _⟩ := h
  exact ⟨a, cap, hv, h1, h2⟩
theorem take_next {xs : List It} {j : Nat} (hj : j < xs.length) {x : It} (hx : xs[j] = x) : xs.take (j + 1) = xs.take j ++ [x] := by
  rw [List.take_succ_eq_append_getElem hj, hx]
set_option maxRecDepth 100000 in
set_option maxHeartbeats 4000000 in
theorem as17_any (v : Value) (xs : List It) (w : World) (h : TReads w v xs) (hl : xs.length ≤ 100000) :
    Calls Tryz.prog 13 #[v] w fun e w' => ∃ v', e = .returned v' ∧ TReads w' v' xs ∧ Below w.heap.size w w' := by
  obtain ⟨a, cap, rfl, hm1, hm2⟩ := h.form17
  have HR : Hid (TReads w (.slice a xs.length cap) xs) := h
  obtain ⟨n, Hn⟩ := hid_ex xs.length
  rw [← Hn.out] at HR hl hm1 ⊢
  clear h
  go_enter Tryz.func13, Tryz.ntmps13
  go_wp2_with fail
  go_loopw [3, 4] (fun o i wr => ∃ j : Nat, i = .int .i64 (j : Int) ∧ j ≤ n ∧ Hid (TG 42 w.heap.size w wr o (xs.take j)) ∧ w.heap.size ≤ wr.heap.size) (fun _ i _ => n - (intOf i).toNat)
  case atStart => exact ⟨0, rfl, by omega, by rw [List.take_zero]; exact TG.nil (Below.refl _ _), Nat.le_refl _⟩
  case round =>
    obtain ⟨j, rfl, hj, HU, hsz⟩ := hrel
    by_cases hlt : j < n
    · have hlt' : (j : Int) < (n : Int) := by omega
      have hjx : j < xs.length := by rw [← Hn.out]; exact hlt
      obtain ⟨r, Hr⟩ := hid_ex xs[j]
      have HTK : Hid (xs.take (j + 1) = xs.take j ++ [r]) := take_next hjx Hr.out.symm
      have hyl : (xs.take j).length < 1000000 := by rw [List.length_take]; omega
      obtain ⟨xv, xD, xf, xz, xg⟩ := r
      obtain ⟨b, off, rfl, hn9, hsr⟩ := HR.out.nine hjx Hr.out.symm
      obtain ⟨va, vc, hv, hxl⟩ := hsr.form
      subst hv
      have HUd : Hid (TG 42 w.heap.size w wr.drew u3 (xs.take j)) := HU.out.below (Below.refl _ _).drew hsz
      obtain ⟨v3, w3, hrun, hu3, hs3⟩ := HUd.out.app Tryz.underlying46 infoRf hsz ⟨.slice va xD.length vc, xD, xf, xz, xg⟩ hsr hyl
      rw [← HTK.out] at hu3
      simp only [c9] at hrun
      have HU3 : Hid (TG 42 w.heap.size w w3 v3 (xs.take (j + 1))) := hu3
      have HN : Hid (N9 w b (off + j * 9) (.slice va xD.length vc) xf xz xg.c (hi xg.s) (lo xg.s) xg.mn xg.mx xg.o) := hn9
      have HN3 : Hid (N9 w3 b (off + j * 9) (.slice va xD.length vc) xf xz xg.c (hi xg.s) (lo xg.s) xg.mn xg.mx xg.o) := hn9.below HU3.out.b
      have HNd : Hid (N9 wr.drew b (off + j * 9) (.slice va xD.length vc) xf xz xg.c (hi xg.s) (lo xg.s) xg.mn xg.mx xg.o) := hn9.below HUd.out.b
      have HNa : Hid (∀ o, N9 (wr.drew.alloc o) b (off + j * 9) (.slice va xD.length vc) xf xz xg.c (hi xg.s) (lo xg.s) xg.mn xg.mx xg.o) := fun o => HNd.out.below ((Below.refl _ _).alloc (Nat.le_refl _) o)
      obtain ⟨oa, oc, hov, -⟩ := GOwn.form HU.out.o
      obtain ⟨M, HM9⟩ : ∃ m, Hid ((xs.take j).length = m) := ⟨_, rfl⟩
      rw [HM9.out] at hov
      subst hov
      clear hu3 HU HUd hn9 hsr HTK hxl Hr
      go_wp2_with fail
      refine wp_region_noPanic ?_
      refine wp_region_held_drew (S := (fun w' => N9 w' b (off + j * 9) (.slice va xD.length vc) xf xz xg.c (hi xg.s) (lo xg.s) xg.mn xg.mx xg.o)) (by kernel_rfl) ?_ (fun hHeld => ?_)
      · exact HNd.out
      refine wpAnyH_take (i := 0) (v := .slice oa M oc) rfl (by kernel_rfl) (by kernel_rfl) (by kernel_rfl) (fun _ _ _ h => h) (Or.inl ⟨by rfl, ?_⟩) (by assumption) ?_
      · (intro w1 hSw; (try dsimp only at hSw); go_simp)
      simp only [List.getElem_toArray, List.getElem_cons_zero, Act.put, List.setIfInBounds_toArray, List.set_cons_zero, List.set_cons_succ]
      refine wpAnyH_take (i := 1) (v := .slice (some ⟨b, off, none⟩) n cap) rfl (by kernel_rfl) (by kernel_rfl) (by kernel_rfl) (fun _ _ _ h => h) (Or.inl ⟨by rfl, ?_⟩) (by assumption) ?_
      · (intro w1 hSw; (try dsimp only at hSw); go_simp)
      simp only [List.getElem_toArray, List.getElem_cons_succ, List.getElem_cons_zero, Act.put, List.setIfInBounds_toArray, List.set_cons_zero, List.set_cons_succ]
      refine wpAnyH_take (i := 2) (v := .int .i64 (j : Int)) rfl (by kernel_rfl) (by kernel_rfl) (by kernel_rfl) (fun _ _ _ h => h) (Or.inl ⟨by rfl, ?_⟩) (by assumption) ?_
      · (intro w1 hSw; (try dsimp only at hSw); go_simp)
      simp only [List.getElem_toArray, List.getElem_cons_succ, List.getElem_cons_zero, Act.put, List.setIfInBounds_toArray, List.set_cons_zero, List.set_cons_succ]
      refine wpAnyH_take (i := 3) (v := .pointer (some ⟨b, off + j * 9, none⟩)) rfl (by kernel_rfl) (by kernel_rfl) (by kernel_rfl) (fun _ _ _ h => h) (Or.inl ⟨by rfl, ?_⟩) (by assumption) ?_
      · (intro w1 hSw; (try dsimp only at hSw); go_simp)
      simp only [List.getElem_toArray, List.getElem_cons_succ, List.getElem_cons_zero, Act.put, List.setIfInBounds_toArray, List.set_cons_zero, List.set_cons_succ]
      refine wpAnyH_take (i := 4) (v := .pointer (some ⟨b, off + j * 9, none⟩)) rfl (by kernel_rfl) (by kernel_rfl) (by kernel_rfl) (fun _ _ _ h => h) (Or.inl ⟨by rfl, ?_⟩) (by assumption) ?_
      · (intro w1 hSw; (try dsimp only at hSw); go_simp)
      simp only [List.getElem_toArray, List.getElem_cons_succ, List.getElem_cons_zero, Act.put, List.setIfInBounds_toArray, List.set_cons_zero, List.set_cons_succ]
      refine wpAnyH_take (i := 5) (v := .slice va xD.length vc) rfl (by kernel_rfl) (by kernel_rfl) (by kernel_rfl) (fun _ _ _ h => h) (Or.inl ⟨by rfl, ?_⟩) (by assumption) ?_
      · (intro w1 hSw; (try dsimp only at hSw); have g0 := hSw.c0; go_simp)
      simp only [List.getElem_toArray, List.getElem_cons_succ, List.getElem_cons_zero, Act.put, List.setIfInBounds_toArray, List.set_cons_zero, List.set_cons_succ]
      refine wpAnyH_take (i := 6) (v := .slice (some ⟨b, off, none⟩) n cap) rfl (by kernel_rfl) (by kernel_rfl) (by kernel_rfl) (fun _ _ _ h => h) (Or.inl ⟨by rfl, ?_⟩) (by assumption) ?_
      · (intro w1 hSw; (try dsimp only at hSw); go_simp)
      simp only [List.getElem_toArray, List.getElem_cons_succ, List.getElem_cons_zero, Act.put, List.setIfInBounds_toArray, List.set_cons_zero, List.set_cons_succ]
      refine wpAnyH_take (i := 7) (v := .int .i64 (j : Int)) rfl (by kernel_rfl) (by kernel_rfl) (by kernel_rfl) (fun _ _ _ h => h) (Or.inl ⟨by rfl, ?_⟩) (by assumption) ?_
      · (intro w1 hSw; (try dsimp only at hSw); go_simp)
      simp only [List.getElem_toArray, List.getElem_cons_succ, List.getElem_cons_zero, Act.put, List.setIfInBounds_toArray, List.set_cons_zero, List.set_cons_succ]
      refine wpAnyH_take (i := 8) (v := .pointer (some ⟨b, off + j * 9, none⟩)) rfl (by kernel_rfl) (by kernel_rfl) (by kernel_rfl) (fun _ _ _ h => h) (Or.inl ⟨by rfl, ?_⟩) (by assumption) ?_
      · (intro w1 hSw; (try dsimp only at hSw); go_simp)
      simp only [List.getElem_toArray, List.getElem_cons_succ, List.getElem_cons_zero, Act.put, List.setIfInBounds_toArray, List.set_cons_zero, List.set_cons_succ]
      refine wpAnyH_take (i := 9) (v := .pointer (some ⟨b, off + j * 9 + 1, none⟩)) rfl (by kernel_rfl) (by kernel_rfl) (by kernel_rfl) (fun _ _ _ h => h) (Or.inl ⟨by rfl, ?_⟩) (by assumption) ?_
      · (intro w1 hSw; (try dsimp only at hSw); go_simp)
      simp only [List.getElem_toArray, List.getElem_cons_succ, List.getElem_cons_zero, Act.put, List.setIfInBounds_toArray, List.set_cons_zero, List.set_cons_succ]
      refine wpAnyH_take (i := 10) (v := .int .i64 xf) rfl (by kernel_rfl) (by kernel_rfl) (by kernel_rfl) (fun _ _ _ h => h) (Or.inl ⟨by rfl, ?_⟩) (by assumption) ?_
      · (intro w1 hSw; (try dsimp only at hSw); have g0 := hSw.c1; go_simp)
      simp only [List.getElem_toArray, List.getElem_cons_succ, List.getElem_cons_zero, Act.put, List.setIfInBounds_toArray, List.set_cons_zero, List.set_cons_succ]
      refine wpAnyH_take (i := 11) (v := .slice (some ⟨b, off, none⟩) n cap) rfl (by kernel_rfl) (by kernel_rfl) (by kernel_rfl) (fun _ _ _ h => h) (Or.inl ⟨by rfl, ?_⟩) (by assumption) ?_
      · (intro w1 hSw; (try dsimp only at hSw); go_simp)
      simp only [List.getElem_toArray, List.getElem_cons_succ, List.getElem_cons_zero, Act.put, List.setIfInBounds_toArray, List.set_cons_zero, List.set_cons_succ]
      refine wpAnyH_take (i := 12) (v := .int .i64 (j : Int)) rfl (by kernel_rfl) (by kernel_rfl) (by kernel_rfl) (fun _ _ _ h => h) (Or.inl ⟨by rfl, ?_⟩) (by assumption) ?_
      · (intro w1 hSw; (try dsimp only at hSw); go_simp)
      simp only [List.getElem_toArray, List.getElem_cons_succ, List.getElem_cons_zero, Act.put, List.setIfInBounds_toArray, List.set_cons_zero, List.set_cons_succ]
      refine wpAnyH_take (i := 13) (v := .pointer (some ⟨b, off + j * 9, none⟩)) rfl (by kernel_rfl) (by kernel_rfl) (by kernel_rfl) (fun _ _ _ h => h) (Or.inl ⟨by rfl, ?_⟩) (by assumption) ?_
      · (intro w1 hSw; (try dsimp only at hSw); go_simp)
      simp only [List.getElem_toArray, List.getElem_cons_succ, List.getElem_cons_zero, Act.put, List.setIfInBounds_toArray, List.set_cons_zero, List.set_cons_succ]
      refine wpAnyH_take (i := 14) (v := .pointer (some ⟨b, off + j * 9 + 2, none⟩)) rfl (by kernel_rfl) (by kernel_rfl) (by kernel_rfl) (fun _ _ _ h => h) (Or.inl ⟨by rfl, ?_⟩) (by assumption) ?_
      · (intro w1 hSw; (try dsimp only at hSw); go_simp)
      simp only [List.getElem_toArray, List.getElem_cons_succ, List.getElem_cons_zero, Act.put, List.setIfInBounds_toArray, List.set_cons_zero, List.set_cons_succ]
      refine wpAnyH_take (i := 15) (v := .int .i64 (xz : Int)) rfl (by kernel_rfl) (by kernel_rfl) (by kernel_rfl) (fun _ _ _ h => h) (Or.inl ⟨by rfl, ?_⟩) (by assumption) ?_
      · (intro w1 hSw; (try dsimp only at hSw); have g0 := hSw.c2; go_simp)
      simp only [List.getElem_toArray, List.getElem_cons_succ, List.getElem_cons_zero, Act.put, List.setIfInBounds_toArray, List.set_cons_zero, List.set_cons_succ]
      refine wpAnyH_take (i := 16) (v := .slice (some ⟨b, off, none⟩) n cap) rfl (by kernel_rfl) (by kernel_rfl) (by kernel_rfl) (fun _ _ _ h => h) (Or.inl ⟨by rfl, ?_⟩) (by assumption) ?_
      · (intro w1 hSw; (try dsimp only at hSw); go_simp)
      simp only [List.getElem_toArray, List.getElem_cons_succ, List.getElem_cons_zero, Act.put, List.setIfInBounds_toArray, List.set_cons_zero, List.set_cons_succ]
      refine wpAnyH_take (i := 17) (v := .int .i64 (j : Int)) rfl (by kernel_rfl) (by kernel_rfl) (by kernel_rfl) (fun _ _ _ h => h) (Or.inl ⟨by rfl, ?_⟩) (by assumption) ?_
      · (intro w1 hSw; (try dsimp only at hSw); go_simp)
      simp only [List.getElem_toArray, List.getElem_cons_succ, List.getElem_cons_zero, Act.put, List.setIfInBounds_toArray, List.set_cons_zero, List.set_cons_succ]
      refine wpAnyH_take (i := 18) (v := .pointer (some ⟨b, off + j * 9, none⟩)) rfl (by kernel_rfl) (by kernel_rfl) (by kernel_rfl) (fun _ _ _ h => h) (Or.inl ⟨by rfl, ?_⟩) (by assumption) ?_
      · (intro w1 hSw; (try dsimp only at hSw); go_simp)
      simp only [List.getElem_toArray, List.getElem_cons_succ, List.getElem_cons_zero, Act.put, List.setIfInBounds_toArray, List.set_cons_zero, List.set_cons_succ]
      refine wpAnyH_take (i := 19) (v := .pointer (some ⟨b, off + j * 9 + 3, none⟩)) rfl (by kernel_rfl) (by kernel_rfl) (by kernel_rfl) (fun _ _ _ h => h) (Or.inl ⟨by rfl, ?_⟩) (by assumption) ?_
      · (intro w1 hSw; (try dsimp only at hSw); go_simp)
      simp only [List.getElem_toArray, List.getElem_cons_succ, List.getElem_cons_zero, Act.put, List.setIfInBounds_toArray, List.set_cons_zero, List.set_cons_succ]
      refine wpAnyH_take (i := 20) (v := .agg #[.int .u64 xg.c, .bool xg.o, .int .i64 (hi xg.s), .int .u64 (lo xg.s), .int .i64 xg.mn, .int .i64 xg.mx]) rfl (by kernel_rfl) (by kernel_rfl) (by kernel_rfl) (fun _ _ _ h => h) (Or.inl ⟨by rfl, ?_⟩) (by assumption) ?_
      · (intro w1 hSw; (try dsimp only at hSw); have g3 := hSw.c3; have g4 := hSw.c4; have g5 := hSw.c5; have g6 := hSw.c6; have g7 := hSw.c7; have g8 := hSw.c8; go_simp)
      simp only [List.getElem_toArray, List.getElem_cons_succ, List.getElem_cons_zero, Act.put, List.setIfInBounds_toArray, List.set_cons_zero, List.set_cons_succ]
      refine wpAnyH_take (i := 21) (v := .agg #[.slice va xD.length vc, .int .i64 xf, .int .i64 (xz : Int), .int .u64 xg.c, .bool xg.o, .int .i64 (hi xg.s), .int .u64 (lo xg.s), .int .i64 xg.mn, .int .i64 xg.mx]) rfl (by kernel_rfl) (by kernel_rfl) (by kernel_rfl) (fun _ _ _ h => h) (Or.inl ⟨by rfl, ?_⟩) (by assumption) ?_
      · (intro w1 hSw; (try dsimp only at hSw); go_simp)
      simp only [List.getElem_toArray, List.getElem_cons_succ, List.getElem_cons_zero, Act.put, List.setIfInBounds_toArray, List.set_cons_zero, List.set_cons_succ]
      refine wpAnyH_ready (rs := [22]) (by kernel_rfl) (by simp) ?_
      refine AllReadyH.cons (o := _) rfl (fun K hK => ?_) AllReadyH.nil
      go_simp
      refine hK.out _ _ ?_ (fun hHeld => ?_)
      · exact HNa.out _
      clear hK K
      refine wpAnyH_ready (rs := [23]) (by kernel_rfl) (by simp) ?_
      refine AllReadyH.cons (o := _) rfl (fun K hK => ?_) AllReadyH.nil
      refine wp_app_runG (.tmp 11) (.tmp 33) 46 46 rfl rfl _ _ _ (by simp [Act.eval]) (by simp [Act.eval]) hrun ?_
      simp only [List.getElem_toArray, List.getElem_cons_succ, List.getElem_cons_zero, Act.put, List.setIfInBounds_toArray, List.set_cons_zero, List.set_cons_succ]
      refine hK.out _ _ ?_ (fun hHeld => ?_)
      · exact HN3.out
      clear hK K
      refine wpAnyH_ready (rs := [24]) (by kernel_rfl) (by simp) ?_
      refine AllReadyH.cons (o := _) rfl (fun K hK => ?_) AllReadyH.nil
      go_simp
      refine hK.out _ _ ?_ (fun hHeld => ?_)
      · exact HN3.out
      clear hK K
      refine wpAnyH_done (by kernel_rfl) ?_ _
      refine NoPanic.normal ?_
      go_wp2_with fail
      go_roundw
      case rel => exact ⟨j + 1, by go_num, by omega, HU3, hs3⟩
      case measure => simp [intOf]; omega
    · obtain rfl : j = n := by omega
      have hlt' : ¬ (j : Int) < (j : Int) := by omega
      have HT : Hid (TReads wr u3 xs) := by
        have := HU.out.reads
        rw [List.take_of_length_le (by rw [← Hn.out]; exact Nat.le_refl _)] at this
        exact this
      have HBE : Hid (Below w.heap.size w wr) := HU.out.b
      clear HU
      go_wp2_with fail
      go_ret
      exact ⟨_, rfl, HT.out, HBE.out⟩
end Go.Proofs.YtoenijflijfogaaGreat

/- Layer 17: the reference's Same, SameAll, of rows that are alike. -/
namespace Go.Proofs.YtoenijflijfogaaGreat
open Go.RowKit

set_option maxRecDepth 100000 in
set_option maxHeartbeats 2000000 in
theorem same17_true (va vb : Value) (D : List ByteArray) (f z c h l n x : Int) (p : Bool) (w : World) (hA : SReads w va D) (hB : SReads w vb D) :
    Calls Tryz.prog 30 #[.agg #[va, .int .i64 f, .int .i64 z, .int .u64 c, .bool p, .int .i64 h, .int .u64 l, .int .i64 n, .int .i64 x], .agg #[vb, .int .i64 f, .int .i64 z, .int .u64 c, .bool p, .int .i64 h, .int .u64 l, .int .i64 n, .int .i64 x]] w fun e w' => e = .returned (.bool true) ∧ Below w.heap.size w w' := by
  obtain ⟨aa, ca, rfl, hma⟩ := hA.form
  obtain ⟨ab, cb, rfl, hmb⟩ := hB.form
  obtain ⟨W, HW⟩ := hid_ex ((w.alloc (.cells #[.slice aa D.length ca, .int .i64 f, .int .i64 z, .int .u64 c, .bool p, .int .i64 h, .int .u64 l, .int .i64 n, .int .i64 x] 42)).alloc (.cells #[.slice ab D.length cb, .int .i64 f, .int .i64 z, .int .u64 c, .bool p, .int .i64 h, .int .u64 l, .int .i64 n, .int .i64 x] 42))
  have HB0 : Hid (Below w.heap.size w W) := by rw [HW.out]; exact ((Below.refl _ _).alloc (Nat.le_refl _) _).alloc (by simp) _
  have hX : W.heap[w.heap.size]? = some (.cells #[.slice aa D.length ca, .int .i64 f, .int .i64 z, .int .u64 c, .bool p, .int .i64 h, .int .u64 l, .int .i64 n, .int .i64 x] 42) := by
    rw [HW.out]; exact (Below.heap_alloc _ _ _ (by simp)).trans (heap_alloc_new _ _)
  have hY : W.heap[w.heap.size + 1]? = some (.cells #[.slice ab D.length cb, .int .i64 f, .int .i64 z, .int .u64 c, .bool p, .int .i64 h, .int .u64 l, .int .i64 n, .int .i64 x] 42) := by
    rw [HW.out]
    have := heap_alloc_new (w.alloc (.cells #[.slice aa D.length ca, .int .i64 f, .int .i64 z, .int .u64 c, .bool p, .int .i64 h, .int .u64 l, .int .i64 n, .int .i64 x] 42)) (.cells #[.slice ab D.length cb, .int .i64 f, .int .i64 z, .int .u64 c, .bool p, .int .i64 h, .int .u64 l, .int .i64 n, .int .i64 x] 42)
    rw [World.size_alloc] at this; exact this
  have HOC : Hid (Calls Tryz.prog 18 #[.slice aa D.length ca, .slice ab D.length cb] W fun e w' => e = .returned (.int .i64 0) ∧ Below W.heap.size W w') := by
    have h1 := order_anyK _ _ D D W (hA.below HB0.out) (hB.below HB0.out)
    rw [(cmpL_zero D D).2 rfl] at h1
    exact h1
  have HX : Hid (W.heap[w.heap.size]? = some (.cells #[.slice aa D.length ca, .int .i64 f, .int .i64 z, .int .u64 c, .bool p, .int .i64 h, .int .u64 l, .int .i64 n, .int .i64 x] 42)) := hX
  have HY : Hid (W.heap[w.heap.size + 1]? = some (.cells #[.slice ab D.length cb, .int .i64 f, .int .i64 z, .int .u64 c, .bool p, .int .i64 h, .int .u64 l, .int .i64 n, .int .i64 x] 42)) := hY
  have x0 := (cell_row hX 0 (by simp)).1
  have y0 := (cell_row hY 0 (by simp)).1
  simp only [List.getElem_toArray, List.getElem_cons_zero] at x0 y0
  rw [HW.out] at x0 y0
  clear hA hB hX hY
  go_enter Tryz.func30, Tryz.ntmps30
  go_wp2_with fail
  rw [← HW.out]
  clear HW x0 y0
  refine HOC.out.mono ?_
  clear HOC
  rintro e w1 ⟨rfl, hb1⟩
  have hX := (hb1.block _ (Array.getElem?_eq_some_iff.1 HX.out).1).trans HX.out
  have hY := (hb1.block _ (Array.getElem?_eq_some_iff.1 HY.out).1).trans HY.out
  have HB1 : Hid (Below w.heap.size w w1) := HB0.out.trans (hb1.mono HB0.out.size)
  have x1 := (cell_row hX 1 (by simp)).1
  have x2 := (cell_row hX 2 (by simp)).1
  have x3 := (cell_row hX 3 (by simp)).1
  have x4 := (cell_row hX 4 (by simp)).1
  have x5 := (cell_row hX 5 (by simp)).1
  have x6 := (cell_row hX 6 (by simp)).1
  have x7 := (cell_row hX 7 (by simp)).1
  have x8 := (cell_row hX 8 (by simp)).1
  have y1 := (cell_row hY 1 (by simp)).1
  have y2 := (cell_row hY 2 (by simp)).1
  have y3 := (cell_row hY 3 (by simp)).1
  have y4 := (cell_row hY 4 (by simp)).1
  have y5 := (cell_row hY 5 (by simp)).1
  have y6 := (cell_row hY 6 (by simp)).1
  have y7 := (cell_row hY 7 (by simp)).1
  have y8 := (cell_row hY 8 (by simp)).1
  simp only [List.getElem_toArray, List.getElem_cons_zero, List.getElem_cons_succ] at x1 x2 x3 x4 x5 x6 x7 x8 y1 y2 y3 y4 y5 y6 y7 y8
  clear hb1 hX hY HX HY HB0
  go_wp2_with fail
  go_ret
  exact ⟨rfl, HB1.out⟩
set_option maxRecDepth 100000 in
set_option maxHeartbeats 4000000 in
theorem sameAll17_true (va vb : Value) (xs ys : List It) (w : World) (hA : TReads w va xs) (hB : TReads w vb ys) (he : xs.map itR = ys.map itR) :
    Calls Tryz.prog 12 #[va, vb] w fun e w' => e = .returned (.bool true) ∧ Below w.heap.size w w' := by
  obtain ⟨a, ca, rfl, hm1, hm2⟩ := hA.form17
  obtain ⟨b, cb, rfl, hm3, hm4⟩ := hB.form17
  have hl : ys.length = xs.length := by have := congrArg List.length he; simpa using this.symm
  rw [hl] at hB hm3 ⊢
  unfold maxLen at hm2 hm4
  have HA : Hid (TReads w (.slice a xs.length ca) xs) := hA
  have HB : Hid (TReads w (.slice b xs.length cb) ys) := hB
  have HL : Hid (ys.length = xs.length) := hl
  have HE : Hid (xs.map itR = ys.map itR) := he
  obtain ⟨n, Hn⟩ := hid_ex xs.length
  rw [← Hn.out] at HA HB HL hm1 hm3 ⊢
  clear hA hB hl he
  go_enter Tryz.func12, Tryz.ntmps12
  go_wp2_with fail
  go_loopw [5] (fun i wr => ∃ j : Nat, i = .int .i64 (j : Int) ∧ j ≤ n ∧ Hid (Below w.heap.size w wr)) (fun i _ => n - (intOf i).toNat)
  case atStart => exact ⟨0, rfl, by omega, Below.refl _ _⟩
  case round =>
    obtain ⟨j, rfl, hj, HW⟩ := hrel
    by_cases hlt : j < n
    · have hlt' : (j : Int) < (n : Int) := by omega
      have hjx : j < xs.length := by rw [← Hn.out]; exact hlt
      have hjy : j < ys.length := by rw [HL.out]; exact hlt
      have hxy : itR xs[j] = itR ys[j] := by
        have h1 : (xs.map itR)[j]? = (ys.map itR)[j]? := by rw [HE.out]
        rw [List.getElem?_map, List.getElem?_map, List.getElem?_eq_getElem hjx, List.getElem?_eq_getElem hjy] at h1
        simpa using h1
      obtain ⟨r, Hr⟩ := hid_ex xs[j]
      obtain ⟨s, Hs⟩ := hid_ex ys[j]
      rw [← Hr.out, ← Hs.out] at hxy
      obtain ⟨xv, xD, xf, xz, xg⟩ := r
      obtain ⟨yv, yD, yf, yz, yg⟩ := s
      simp only [itR, Rw.mk.injEq] at hxy
      obtain ⟨rfl, rfl, rfl, rfl⟩ := hxy
      obtain ⟨b1, o1, rfl, hn1, hs1⟩ := HA.out.nine hjx Hr.out.symm
      obtain ⟨b2, o2, rfl, hn2, hs2⟩ := HB.out.nine hjy Hs.out.symm
      have HN1 : Hid (N9 wr b1 (o1 + j * 9) xv xf xz xg.c (hi xg.s) (lo xg.s) xg.mn xg.mx xg.o) := hn1.below HW.out
      have HN2 : Hid (N9 wr b2 (o2 + j * 9) yv xf xz xg.c (hi xg.s) (lo xg.s) xg.mn xg.mx xg.o) := hn2.below HW.out
      have HSC : Hid (∀ W, Below wr.heap.size wr W → Calls Tryz.prog 30 #[.agg #[xv, .int .i64 xf, .int .i64 (xz : Int), .int .u64 xg.c, .bool xg.o, .int .i64 (hi xg.s), .int .u64 (lo xg.s), .int .i64 xg.mn, .int .i64 xg.mx], .agg #[yv, .int .i64 xf, .int .i64 (xz : Int), .int .u64 xg.c, .bool xg.o, .int .i64 (hi xg.s), .int .u64 (lo xg.s), .int .i64 xg.mn, .int .i64 xg.mx]] W fun e w' => e = .returned (.bool true) ∧ Below W.heap.size W w') := fun W hW => same17_true _ _ xD _ _ _ _ _ _ _ _ W ((hs1.below HW.out).below hW) ((hs2.below HW.out).below hW)
      clear hn1 hn2 hs1 hs2 Hr Hs
      go_wp2_with fail
      refine wp_region_noPanic ?_
      refine wp_region_held_drew (S := (fun w' => Below wr.heap.size wr w')) (by kernel_rfl) ?_ (fun hHeld => ?_)
      · exact (Below.refl _ _).drew
      refine wpAnyH_take (i := 0) (v := .slice (some ⟨b1, o1, none⟩) n ca) rfl (by kernel_rfl) (by kernel_rfl) (by kernel_rfl) (fun _ _ _ h => h) (Or.inl ⟨by rfl, ?_⟩) (by assumption) ?_
      · (intro w1 hSw; (try dsimp only at hSw); go_simp)
      simp only [List.getElem_toArray, List.getElem_cons_zero, Act.put, List.setIfInBounds_toArray, List.set_cons_zero, List.set_cons_succ]
      refine wpAnyH_take (i := 1) (v := .int .i64 (j : Int)) rfl (by kernel_rfl) (by kernel_rfl) (by kernel_rfl) (fun _ _ _ h => h) (Or.inl ⟨by rfl, ?_⟩) (by assumption) ?_
      · (intro w1 hSw; (try dsimp only at hSw); go_simp)
      simp only [List.getElem_toArray, List.getElem_cons_succ, List.getElem_cons_zero, Act.put, List.setIfInBounds_toArray, List.set_cons_zero, List.set_cons_succ]
      refine wpAnyH_take (i := 2) (v := .pointer (some ⟨b1, o1 + j * 9, none⟩)) rfl (by kernel_rfl) (by kernel_rfl) (by kernel_rfl) (fun _ _ _ h => h) (Or.inl ⟨by rfl, ?_⟩) (by assumption) ?_
      · (intro w1 hSw; (try dsimp only at hSw); go_simp)
      simp only [List.getElem_toArray, List.getElem_cons_succ, List.getElem_cons_zero, Act.put, List.setIfInBounds_toArray, List.set_cons_zero, List.set_cons_succ]
      refine wpAnyH_take (i := 3) (v := .agg #[xv, .int .i64 xf, .int .i64 (xz : Int), .int .u64 xg.c, .bool xg.o, .int .i64 (hi xg.s), .int .u64 (lo xg.s), .int .i64 xg.mn, .int .i64 xg.mx]) rfl (by kernel_rfl) (by kernel_rfl) (by kernel_rfl) (fun _ _ _ h => h) (Or.inl ⟨by rfl, ?_⟩) (by assumption) ?_
      · (intro w1 hSw; (try dsimp only at hSw); have gg := HN1.out.below hSw; have g0 := gg.c0; have g1 := gg.c1; have g2 := gg.c2; have g3 := gg.c3; have g4 := gg.c4; have g5 := gg.c5; have g6 := gg.c6; have g7 := gg.c7; have g8 := gg.c8; go_simp)
      simp only [List.getElem_toArray, List.getElem_cons_succ, List.getElem_cons_zero, Act.put, List.setIfInBounds_toArray, List.set_cons_zero, List.set_cons_succ]
      refine wpAnyH_take (i := 4) (v := .slice (some ⟨b2, o2, none⟩) n cb) rfl (by kernel_rfl) (by kernel_rfl) (by kernel_rfl) (fun _ _ _ h => h) (Or.inl ⟨by rfl, ?_⟩) (by assumption) ?_
      · (intro w1 hSw; (try dsimp only at hSw); go_simp)
      simp only [List.getElem_toArray, List.getElem_cons_succ, List.getElem_cons_zero, Act.put, List.setIfInBounds_toArray, List.set_cons_zero, List.set_cons_succ]
      refine wpAnyH_take (i := 5) (v := .int .i64 (j : Int)) rfl (by kernel_rfl) (by kernel_rfl) (by kernel_rfl) (fun _ _ _ h => h) (Or.inl ⟨by rfl, ?_⟩) (by assumption) ?_
      · (intro w1 hSw; (try dsimp only at hSw); go_simp)
      simp only [List.getElem_toArray, List.getElem_cons_succ, List.getElem_cons_zero, Act.put, List.setIfInBounds_toArray, List.set_cons_zero, List.set_cons_succ]
      refine wpAnyH_take (i := 6) (v := .pointer (some ⟨b2, o2 + j * 9, none⟩)) rfl (by kernel_rfl) (by kernel_rfl) (by kernel_rfl) (fun _ _ _ h => h) (Or.inl ⟨by rfl, ?_⟩) (by assumption) ?_
      · (intro w1 hSw; (try dsimp only at hSw); go_simp)
      simp only [List.getElem_toArray, List.getElem_cons_succ, List.getElem_cons_zero, Act.put, List.setIfInBounds_toArray, List.set_cons_zero, List.set_cons_succ]
      refine wpAnyH_take (i := 7) (v := .agg #[yv, .int .i64 xf, .int .i64 (xz : Int), .int .u64 xg.c, .bool xg.o, .int .i64 (hi xg.s), .int .u64 (lo xg.s), .int .i64 xg.mn, .int .i64 xg.mx]) rfl (by kernel_rfl) (by kernel_rfl) (by kernel_rfl) (fun _ _ _ h => h) (Or.inl ⟨by rfl, ?_⟩) (by assumption) ?_
      · (intro w1 hSw; (try dsimp only at hSw); have gg := HN2.out.below hSw; have g0 := gg.c0; have g1 := gg.c1; have g2 := gg.c2; have g3 := gg.c3; have g4 := gg.c4; have g5 := gg.c5; have g6 := gg.c6; have g7 := gg.c7; have g8 := gg.c8; go_simp)
      simp only [List.getElem_toArray, List.getElem_cons_succ, List.getElem_cons_zero, Act.put, List.setIfInBounds_toArray, List.set_cons_zero, List.set_cons_succ]
      refine wpAnyH_ready (rs := [8]) (by kernel_rfl) (by simp) ?_
      refine AllReadyH.cons (o := _) rfl (fun K hK => ?_) AllReadyH.nil
      go_simp
      refine (HSC.out _ (Below.refl _ _).drew).mono ?_
      rintro e w3 ⟨rfl, hb3⟩
      have HW3 : Hid (Below wr.heap.size wr w3) := (Below.refl wr.heap.size wr).drew.trans hb3
      clear hb3
      refine hK.out _ _ ?_ (fun hHeld => ?_)
      · exact HW3.out
      clear hK K
      refine wpAnyH_take (i := 9) (v := .bool false) rfl (by kernel_rfl) (by kernel_rfl) (by kernel_rfl) (fun _ _ _ h => h) (Or.inl ⟨by rfl, ?_⟩) (by assumption) ?_
      · (intro w1 hSw; (try dsimp only at hSw); go_simp)
      simp only [List.getElem_toArray, List.getElem_cons_succ, List.getElem_cons_zero, Act.put, List.setIfInBounds_toArray, List.set_cons_zero, List.set_cons_succ]
      clear hHeld
      refine wpAnyH_done (by kernel_rfl) ?_ _
      refine NoPanic.normal ?_
      have HB3 : Hid (Below w.heap.size w w3) := HW.out.trans (HW3.out.mono HW.out.size)
      clear HSC
      go_wp2_with fail
      go_roundw
      case rel => exact ⟨j + 1, by go_num, by omega, HB3⟩
      case measure => simp [intOf]; omega
    · have hlt' : ¬ (j : Int) < (n : Int) := by omega
      go_wp2_with fail
      go_ret
      exact ⟨rfl, HW.out⟩
end Go.Proofs.YtoenijflijfogaaGreat

/- Layer 17: queries. -/
namespace Go.Proofs.YtoenijflijfogaaGreat
open Go.RowKit Go.Joins Go.ChangeShapes Go.WideShapes Go.ChangeAt

/-- A query. -/
structure Qy where
  v : Value
  D : List ByteArray
  t : Int
  f : Int
  u : Int
  m : Int
def Qy.val (q : Qy) : Value := .agg #[q.v, .int .i64 q.t, .int .i64 q.f, .int .i64 q.u, .int .i64 q.m]
def In64 (x : Int) : Prop := -9223372036854775808 ≤ x ∧ x ≤ 9223372036854775807
structure QLies (q : Qy) (w : World) : Prop where
  r : SReads w q.v q.D
  t : In64 q.t
  f : In64 q.f
  u : In64 q.u
  m : In64 q.m
theorem QLies.below {q : Qy} {w w' : World} (h : QLies q w) (hb : Below w.heap.size w w') : QLies q w' := ⟨h.r.below hb, h.t, h.f, h.u, h.m⟩
theorem arr5 {cs : Array Value} (h : cs.size = 5) : ∃ c0 c1 c2 c3 c4, cs = #[c0, c1, c2, c3, c4] := by
  obtain ⟨l⟩ := cs
  match l, h with
  | [a, b, c, d, e], _ => exact ⟨a, b, c, d, e, rfl⟩
theorem celS17 : Tryz.prog.cellsOf 26 = 1 := by kernel_rfl
theorem celI17 : Tryz.prog.cellsOf 3 = 1 := by kernel_rfl
theorem cel617 : Tryz.prog.cellsOf 2 = 1 := by kernel_rfl
set_option maxRecDepth 100000 in
theorem openQy {H : Type} {enc : TypeId × Value → H} {W : World} {r : Reach} {b0 base : Nat} {spare : Nat → Bool} {held : Bool} {v : Value} {d : DataW H} {p : List MemPlace}
    (hv : Value.okWide Tryz.prog W r b0 28 v) (h : DataW.Trod enc Tryz.prog W base spare held 28 v d p) : ∃ q : Qy, v = q.val ∧ QLies q W := by
  obtain ⟨cs, rfl, hsz⟩ := okWide_struct Tryz.underlying28 hv
  obtain ⟨c0, c1, c2, c3, c4, rfl⟩ := arr5 (hsz.trans (by kernel_rfl))
  obtain ⟨fuel, hf⟩ := h
  obtain ⟨xs, n, _, _, _, hlen, hfs⟩ := DataW.trod_struct Tryz.underlying28 hf
  obtain ⟨y0, g0⟩ := some_of_len (i := 0) hlen (by decide)
  obtain ⟨y1, g1⟩ := some_of_len (i := 1) hlen (by decide)
  obtain ⟨y2, g2⟩ := some_of_len (i := 2) hlen (by decide)
  obtain ⟨y3, g3⟩ := some_of_len (i := 3) hlen (by decide)
  obtain ⟨y4, g4⟩ := some_of_len (i := 4) hlen (by decide)
  have e0 := (hfs 0 _ rfl).trans g0
  have e1 := (hfs 1 _ rfl).trans g1
  have e2 := (hfs 2 _ rfl).trans g2
  have e3 := (hfs 3 _ rfl).trans g3
  have e4 := (hfs 4 _ rfl).trans g4
  simp [celS17, Value.cells] at e0
  simp [cel617, Value.cells] at e1
  simp [cel617, Value.cells] at e2
  simp [cel617, Value.cells] at e3
  simp [celI17, Value.cells] at e4
  obtain ⟨D, hD⟩ := openS' e0
  obtain ⟨t, q1, _, w1⟩ := DataW.trod_int Tryz.underlying2 e1
  obtain ⟨f, q2, _, w2⟩ := DataW.trod_int Tryz.underlying2 e2
  obtain ⟨u, q3, _, w3⟩ := DataW.trod_int Tryz.underlying2 e3
  obtain ⟨m, q4, _, w4⟩ := DataW.trod_int Tryz.underlying3 e4
  simp at q1 q2 q3 q4
  subst q1 q2 q3 q4
  exact ⟨⟨c0, D, t, f, u, m⟩, rfl, hD, bounds_i64 w1, bounds_i64 w2, bounds_i64 w3, bounds_i64 w4⟩
theorem fa1_reads {W : World} {b : Nat} {v : Value} {D : List ByteArray} {T : TypeId} (hv : SReads W v D) (hW : W.heap[b]? = some (.cells #[v, .int .i64 0, .int .i64 0] T)) : FReads W (.slice (some ⟨b, 0, none⟩) 1 1) [⟨v, D, 0, 0⟩] := by
  refine ⟨_, 1, rfl, Nat.le_refl _, (show 1 ≤ maxLen by decide), .inr ⟨b, 0, rfl, (Array.getElem?_eq_some_iff.1 hW).1, fun j hj => ?_⟩⟩
  have hj2 : j < 1 := hj
  match j, hj2 with
  | 0, _ =>
    refine ⟨fun i hi => ?_, hv, (show FaB ⟨v, D, 0, 0⟩ from ⟨show (-9223372036854775808 : Int) ≤ 0 by decide, show (0 : Int) ≤ 9223372036854775807 by decide, show (-9223372036854775808 : Int) ≤ 0 by decide, show (0 : Int) ≤ 9223372036854775807 by decide⟩)⟩
    rw [Go.Joins.cell_of_block hW]
    match i, hi with
    | 0, _ => rfl
    | 1, _ => rfl
    | 2, _ => rfl
set_option maxRecDepth 100000 in
set_option maxHeartbeats 2000000 in
theorem long17_any (v : Value) (D : List ByteArray) (t f u m : Int) (w : World) (hD : SReads w v D) :
    Calls Tryz.prog 8 #[.agg #[v, .int .i64 t, .int .i64 f, .int .i64 u, .int .i64 m]] w fun e w' => ∃ g : Bool, e = .returned (.bool g) ∧ Below w.heap.size w w' := by
  obtain ⟨a, c, rfl, -⟩ := hD.form
  obtain ⟨w1, HW1⟩ := hid_ex ((w.alloc (.cells #[.slice a D.length c, .int .i64 t, .int .i64 f, .int .i64 u, .int .i64 m] 28)).alloc (.cells #[.slice a D.length c, .int .i64 0, .int .i64 0] 63))
  have hb1 : Below w.heap.size w w1 := by rw [HW1.out]; exact ((Below.refl _ _).alloc (Nat.le_refl _) _).alloc (by simp) _
  have hY : w1.heap[w.heap.size + 1]? = some (.cells #[.slice a D.length c, .int .i64 0, .int .i64 0] 63) := by
    rw [HW1.out]
    have := heap_alloc_new (w.alloc (.cells #[.slice a D.length c, .int .i64 t, .int .i64 f, .int .i64 u, .int .i64 m] 28)) (.cells #[.slice a D.length c, .int .i64 0, .int .i64 0] 63)
    rw [World.size_alloc] at this; exact this
  have HF : Hid (FReads w1 (.slice (some ⟨w.heap.size + 1, 0, none⟩) 1 1) [⟨.slice a D.length c, D, 0, 0⟩]) := fa1_reads (hD.below hb1) hY
  have HB1 : Hid (Below w.heap.size w w1) := hb1
  clear hD hb1 hY
  go_enter Tryz.func8, Tryz.ntmps8
  go_wp2_with fail
  rw [← HW1.out]
  refine (many15_any _ _ w1 HF.out).mono ?_
  rintro e w2 ⟨g, rfl, -, hw2⟩
  have HB2 : Hid (Below w.heap.size w w2) := by rw [hw2]; exact HB1.out
  clear hw2 HW1
  go_wp2_with fail
  go_ret
  exact ⟨g, rfl, HB2.out⟩
end Go.Proofs.YtoenijflijfogaaGreat

/- Layer 17: one row of a slice of rows; AskRanges, plainly. -/
namespace Go.Proofs.YtoenijflijfogaaGreat
open Go.RowKit

theorem sizeR17 (w : World) : (sizeOf 38).run Tryz.prog w = .ok 9 w := by
  simp [sizeOf]
  rfl
theorem elemR17 : Tryz.prog.elem 48 = 38 := by kernel_rfl
theorem undR17 : Tryz.prog.underlying 48 = some (.slice (Tryz.prog.elem 48)) := by rw [elemR17]; exact Tryz.underlying48
theorem tsl_one {w : World} {a : Option Addr} {n cap : Nat} {xs : List It} (h : TReads w (.slice a n cap) xs) (hn : xs.length = n) {k : Nat} (hk : k < n) {x : It} (hx : xs[k]'(by omega) = x) :
    ∃ a' cap', (∀ w', (Instr.slice 48 (.slice a n cap) (some (.int .i64 (k : Int))) (some (.int .i64 ((k : Int) + 1))) none).run Tryz.prog w' = .ok (.slice a' 1 cap') w') ∧ TReads w (.slice a' 1 cap') [x] := by
  have h0 := h
  obtain ⟨a', cap', hv, h1, h2, _⟩ := h
  simp only [Value.slice.injEq] at hv
  obtain ⟨rfl, hnn, rfl⟩ := hv
  unfold maxLen at h2
  obtain ⟨b, off, rfl, hb, hc, hs⟩ := TReads.at h0 (show k < xs.length by omega)
  rw [hx] at hc hs
  have hcl : (⟨b, off, none⟩ : Addr).add (k * 9) = ⟨b, off + k * 9, none⟩ := by
    unfold Addr.add
    by_cases hz : k * 9 = 0
    · rw [if_pos hz]; exact congrArg (fun x => (⟨b, x, none⟩ : Addr)) (show off = off + k * 9 by omega)
    · rw [if_neg hz]
  refine ⟨some ⟨b, off + k * 9, none⟩, cap - k, fun w' => ?_, ⟨_, cap - k, rfl, by simp; omega, by unfold maxLen; omega, .inr ⟨b, off + k * 9, rfl, hb, fun j hj => ?_⟩⟩⟩
  · have e := run_slice_lh (P := Tryz.prog) w' 48 (some ⟨b, off, none⟩) n cap undR17 .i64 .i64 (k : Int) ((k : Int) + 1) (by omega) (by omega) (by omega)
    rw [e, elemR17, sizeR17]
    show Result.ok (Go.sliced (some ⟨b, off, none⟩) (k : Int).toNat ((k : Int) + 1).toNat cap 9) w' = _
    have e2 : ((k : Int) + 1).toNat = k + 1 := by omega
    rw [e2, Int.toNat_natCast]
    unfold Go.sliced
    rw [if_neg (by omega), show k + 1 - k = 1 by omega]
    show Result.ok (Value.slice (some ((⟨b, off, none⟩ : Addr).add (k * 9))) 1 (cap - k)) w' = _
    rw [hcl]
  · have hj0 : j = 0 := by simpa using hj
    subst hj0
    refine ⟨fun i hi => ?_, hs⟩
    have := hc i hi
    rw [show off + k * 9 + 0 * 9 + i = off + k * 9 + i by omega]
    exact this
/-! plainly -/
def bfr (m : Int) (x : Rw) : Bool := decide (x.f < m)
def aft (m : Int) (x : Rw) : Bool := !bfr m x
theorem scan_bfr {D : List ByteArray} {f m u : Int} (h : m ≤ u) (rs : List Rw) : scanF D f m rs = (scanF D f u rs).filter (bfr m) := by
  unfold scanF
  rw [List.filter_filter]
  refine List.filter_congr fun x _ => ?_
  unfold bfr
  by_cases h1 : x.D.take D.length = D
  · by_cases h2 : f ≤ x.f
    · by_cases h3 : x.f < m
      · have h4 : x.f < u := by omega
        simp [h1, h2, h3, h4]
      · simp [h3]
    · simp [h2]
  · simp [h1]
theorem scan_aft {D : List ByteArray} {f m u : Int} (h : f ≤ m) (rs : List Rw) : scanF D m u rs = (scanF D f u rs).filter (aft m) := by
  unfold scanF
  rw [List.filter_filter]
  refine List.filter_congr fun x _ => ?_
  unfold aft bfr
  by_cases h1 : x.D.take D.length = D
  · by_cases h2 : m ≤ x.f
    · have h4 : f ≤ x.f := by omega
      have h5 : ¬ x.f < m := by omega
      simp [h1, h2, h4, h5]
    · have h5 : x.f < m := by omega
      simp [h2, h5]
  · simp [h1]
theorem filt_yes {p : Rw → Bool} {l : List Rw} {n : Nat} (hn : n < l.length) (hp : p l[n] = true) : ∃ hi : ((l.take n).filter p).length < (l.filter p).length, (l.filter p)[((l.take n).filter p).length] = l[n] ∧ ((l.take (n + 1)).filter p).length = ((l.take n).filter p).length + 1 := by
  have e1 : l.filter p = (l.take n).filter p ++ l[n] :: (l.drop (n + 1)).filter p := by
    conv => lhs; rw [← List.take_append_drop n l, List.filter_append]
    rw [List.drop_eq_getElem_cons hn, List.filter_cons, if_pos hp]
  have e2 : (l.take (n + 1)).filter p = (l.take n).filter p ++ [l[n]] := by
    rw [List.take_succ_eq_append_getElem hn, List.filter_append, List.filter_cons, if_pos hp, List.filter_nil]
  have hlen : ((l.take n).filter p).length < (l.filter p).length := by rw [e1, List.length_append, List.length_cons]; omega
  refine ⟨hlen, ?_, by rw [e2, List.length_append]; rfl⟩
  have : (l.filter p)[((l.take n).filter p).length]? = some l[n] := by
    rw [e1, List.getElem?_append_right (Nat.le_refl _), Nat.sub_self]; rfl
  rw [List.getElem?_eq_getElem hlen] at this
  exact Option.some.inj this
theorem filt_no {p : Rw → Bool} {l : List Rw} {n : Nat} (hn : n < l.length) (hp : p l[n] = false) : ((l.take (n + 1)).filter p).length = ((l.take n).filter p).length := by
  rw [List.take_succ_eq_append_getElem hn, List.filter_append, List.filter_cons, if_neg (by rw [hp]; simp), List.filter_nil, List.append_nil]
/-- What AskRanges' loop counts. -/
def cntR (p : Rw → Bool) (xs : List It) (n : Nat) : Nat := (((xs.map itR).take n).filter p).length
theorem cntR_zero (p : Rw → Bool) (xs : List It) : cntR p xs 0 = 0 := by unfold cntR; rw [List.take_zero]; rfl
theorem cntR_le (p : Rw → Bool) (xs : List It) (n : Nat) : cntR p xs n ≤ n := by
  unfold cntR
  have h1 := List.length_filter_le p ((xs.map itR).take n)
  rw [List.length_take] at h1
  omega
theorem cntR_end {p : Rw → Bool} {xs ys : List It} (h : ys.map itR = (xs.map itR).filter p) : cntR p xs xs.length = ys.length := by
  have h1 := congrArg List.length h
  rw [List.length_map] at h1
  unfold cntR
  rw [h1, List.take_of_length_le (by rw [List.length_map]; exact Nat.le_refl _)]
theorem cntR_yes {p : Rw → Bool} {xs ys : List It} (h : ys.map itR = (xs.map itR).filter p) {n : Nat} (hn : n < xs.length) (hp : p (itR xs[n]) = true) : ∃ hi : cntR p xs n < ys.length, itR ys[cntR p xs n] = itR xs[n] ∧ cntR p xs (n + 1) = cntR p xs n + 1 := by
  have hn' : n < (xs.map itR).length := by rw [List.length_map]; exact hn
  obtain ⟨h1, h2, h3⟩ := filt_yes (p := p) hn' (by rw [List.getElem_map]; exact hp)
  have hl : ys.length = ((xs.map itR).filter p).length := by have := congrArg List.length h; rwa [List.length_map] at this
  refine ⟨by rw [hl]; exact h1, ?_, h3⟩
  have h4 : (ys.map itR)[cntR p xs n]? = some (itR xs[n]) := by
    rw [h]
    unfold cntR
    rw [List.getElem?_eq_getElem h1, h2, List.getElem_map]
  rw [List.getElem?_map, List.getElem?_eq_getElem (by rw [hl]; exact h1)] at h4
  exact Option.some.inj h4
theorem cntR_no {p : Rw → Bool} {xs : List It} {n : Nat} (hn : n < xs.length) (hp : p (itR xs[n]) = false) : cntR p xs (n + 1) = cntR p xs n :=
  filt_no (p := p) (l := xs.map itR) (by rw [List.length_map]; exact hn) (by rw [List.getElem_map]; exact hp)
theorem sc_mid {R : Rl} {wm : Int} {L : List En} {D : List ByteArray} {f m u : Int} (h1 : f ≤ m) (h2 : m ≤ u) (h : scE R wm L D f u = 0) : scE R wm L D f m = 0 ∧ scE R wm L D m u = 0 ∧ scQ R wm L D f m = (scQ R wm L D f u).filter (bfr m) ∧ scQ R wm L D m u = (scQ R wm L D f u).filter (aft m) := by
  have hc : chkF R wm L = 0 := Classical.byContradiction fun hn => hn (by rw [← (scE_chk (D := D) (f := f) (t := u) hn).1]; exact h)
  have hd : rightBK D 0 0 = true := by
    cases hb : rightBK D 0 0 with
    | true => rfl
    | false => rw [(scE_dims (f := f) (t := u) hc hb).1] at h; exact absurd h (by decide)
  have hr : 0 ≤ f ∧ f ≤ u ∧ u ≤ 1099511627776 := Classical.byContradiction fun hn => by
    rw [(scE_rng (f := f) (t := u) hc hd hn).1] at h; exact absurd h (by decide)
  obtain ⟨a1, a2⟩ := scE_ok (f := f) (t := u) hc hd hr
  obtain ⟨b1, b2⟩ := scE_ok (f := f) (t := m) hc hd (by omega)
  obtain ⟨c1, c2⟩ := scE_ok (f := m) (t := u) hc hd (by omega)
  exact ⟨b1, c1, by rw [b2, a2]; exact scan_bfr h2 _, by rw [c2, a2]; exact scan_aft h1 _⟩
theorem sc_none {R : Rl} {wm : Int} {L : List En} {D : List ByteArray} {f u : Int} (h : scE R wm L D f u ≠ 0) : scQ R wm L D f u = [] := by
  unfold scQ; rw [if_neg h]
end Go.Proofs.YtoenijflijfogaaGreat
