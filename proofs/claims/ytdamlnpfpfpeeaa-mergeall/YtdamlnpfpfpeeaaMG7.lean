/- The contract of Next: the entries of the rows, one behind the other. -/
import Derived.Test.YtdamlnpfpfpeeaaMG6
namespace Go.Proofs.Ytdamlnpfpfpeeaa
open Go.RowKit

theorem HM.under {A B : World} {lo hh h : Nat} {P : List Pt} (H : HM A lo hh h P) (hk : ∀ k, k < hh → B.heap[k]? = A.heap[k]?) (hu : ∀ (k : Nat) (cs : Array Value) (fr : Nat × Nat), A.heap[k]? = some (Obj.cells cs 5 fr) → B.heap[k]? = some (Obj.cells cs 5 fr)) : HM B lo hh h P := by
  obtain ⟨v, h1, h2, h3⟩ := H.hd
  refine ⟨H.h1, H.h2, ⟨v, (hk _ H.h2).trans h1, ?_, h3⟩, fun p hp => (H.pt p hp).heap (hk _ (H.pt p hp).g2) hu, H.nd, H.le⟩
  obtain ⟨q1, q2⟩ := h2
  refine ⟨q1, ?_⟩
  rcases q2 with q2 | ⟨g, cap, cur, rfl, hg, hw, r⟩
  · exact .inl q2
  · exact .inr ⟨g, cap, cur, rfl, hg, (hk g (h3 g rfl)).trans hw, r⟩
/-- A heap that tells these entries. -/
structure HS (w : World) (lo hh h : Nat) (T : List Tg) : Prop where
  m : ∃ P, HM w lo hh h P ∧ HQ lePt ptZ P 0 ∧ GoodP (P.map paP) ∧ T.Perm (tags (P.map paP))
  s : T.Pairwise ltG
  z : hh ≤ w.heap.size
theorem HS.below {A B : World} {lo hh h : Nat} {T : List Tg} (H : HS A lo hh h T) (hb : Below A.heap.size A B) : HS B lo hh h T := by
  obtain ⟨P, h1, h2, h3, h4⟩ := H.m
  exact ⟨⟨P, h1.below hb, h2, h3, h4⟩, H.s, Nat.le_trans H.z hb.size⟩
theorem rest_perm (p : Pt) (P : List Pt) : (tags ((restP p P).map paP)).Perm (tags ((p.xs.tail.map evE, p.r) :: P.map paP)) := by
  unfold restP
  by_cases h : p.xs.length ≤ 1
  · rw [if_pos h]
    have e : p.xs.tail = [] := by
      cases hx : p.xs with
      | nil => rfl
      | cons x xs => rw [hx] at h; simp at h; simpa using h
    rw [e]
    have h1 : (tags ((lastF P).map paP)).Perm (tags (P.map paP)) := tags_perm ((lastF_perm P).map paP)
    exact h1
  · rw [if_neg h]
    exact List.Perm.refl _
theorem rest_good (p : Pt) (P : List Pt) (hg : GoodP ((p :: P).map paP)) : GoodP ((restP p P).map paP) := by
  unfold restP
  by_cases h : p.xs.length ≤ 1
  · rw [if_pos h]
    have : GoodP (P.map paP) := ⟨fun q hq => hg.ne q (List.mem_cons_of_mem _ hq), fun q hq => hg.so q (List.mem_cons_of_mem _ hq), by
      have := hg.nd
      rw [List.map_cons, List.map_cons, List.nodup_cons] at this
      exact this.2⟩
    exact this.perm ((lastF_perm P).map paP)
  · rw [if_neg h]
    refine ⟨fun q hq => ?_, fun q hq => ?_, ?_⟩
    · rcases List.mem_cons.1 hq with rfl | hq
      · show p.xs.tail.map evE ≠ []
        intro e
        have := congrArg List.length e
        simp at this
        omega
      · exact hg.ne q (List.mem_cons_of_mem _ hq)
    · rcases List.mem_cons.1 hq with rfl | hq
      · have h1 := hg.so (paP p) (List.mem_cons_self ..)
        show (keysE (p.xs.tail.map evE)).Pairwise ltK
        cases hx : p.xs with
        | nil => exact List.Pairwise.nil
        | cons x xs =>
          have h2 : (keysE ((x :: xs).map evE)).Pairwise ltK := by rw [← hx]; exact h1
          unfold keysE at h2 ⊢
          rw [List.map_cons, List.map_cons, List.pairwise_cons] at h2
          exact h2.2
      · exact hg.so q (List.mem_cons_of_mem _ hq)
    · exact hg.nd
theorem getD_lastF (P : List Pt) (i : Nat) (h0 : 0 < i) (hi : i < P.length) : (lastF P).getD i ptZ = P.getD (i - 1) ptZ := by
  rcases List.eq_nil_or_concat P with rfl | ⟨L, b, rfl⟩
  · simp at hi
  · simp only [List.concat_eq_append] at hi ⊢
    have e : lastF (L ++ [b]) = b :: L := by simp [lastF]
    rw [e]
    obtain ⟨j, rfl⟩ : ∃ j, i = j + 1 := ⟨i - 1, by omega⟩
    simp at hi
    simp [List.getD, hi, List.getElem?_append_left hi]
theorem rest_heap (p : Pt) (P : List Pt) (h : HQ lePt ptZ (p :: P) 0) : HQ lePt ptZ (restP p P) 1 := by
  unfold restP
  by_cases hc : p.xs.length ≤ 1
  · rw [if_pos hc]
    intro i h1 h2 h3
    have hl : (lastF P).length = P.length := (lastF_perm P).length_eq
    rw [hl] at h1
    rw [getD_lastF P i h2 h1, getD_lastF P ((i - 1) / 2) (by omega) (by omega)]
    have := h i (by simp; omega) h2 (Nat.zero_le _)
    obtain ⟨j, rfl⟩ : ∃ j, i = j + 1 := ⟨i - 1, by omega⟩
    obtain ⟨k, hk⟩ : ∃ k, (j + 1 - 1) / 2 = k + 1 := ⟨(j + 1 - 1) / 2 - 1, by omega⟩
    rw [hk] at this ⊢
    simpa [List.getD] using this
  · rw [if_neg hc]
    intro i h1 h2 h3
    have := h i (by simpa using h1) h2 (Nat.zero_le _)
    obtain ⟨j, rfl⟩ : ∃ j, i = j + 1 := ⟨i - 1, by omega⟩
    obtain ⟨k, hk⟩ : ∃ k, (j + 1 - 1) / 2 = k + 1 := ⟨(j + 1 - 1) / 2 - 1, by omega⟩
    rw [hk] at this ⊢
    simpa [List.getD] using this
theorem lePt_irrefl (x : Pt) : ¬ lePt x x := ltT_irrefl _
theorem nlePt_trans (x y c : Pt) (h1 : ¬ lePt y x) (h2 : ¬ lePt c y) : ¬ lePt c x := nltT_trans h1 h2
/-- The first part is the least one. -/
theorem HQ.first {p : Pt} {P : List Pt} (h : HQ lePt ptZ (p :: P) 0) : ∀ q ∈ P.map paP, ¬ ltP q (paP p) := by
  intro q hq
  obtain ⟨r, hr, rfl⟩ := List.mem_map.1 hq
  obtain ⟨i, hi, rfl⟩ := List.getElem_of_mem hr
  have := HQ.least h lePt_irrefl nlePt_trans (i + 1) (by simpa using hi)
  have h2 : ¬ lePt P[i] p := by simpa [List.getD, hi] using this
  exact h2
def NxPost (lo hh h : Nat) (T : List Tg) (w : World) (e : Ending) (w' : World) : Prop :=
  Fr lo hh w w' ∧ match T with
  | [] => e = .returned (.tuple #[env (.slice none 0 0) agZ, .int .i64 0, .bool false]) ∧ HS w' lo hh h []
  | t :: T' => ∃ kv, e = .returned (.tuple #[env kv t.2, .int .i64 (t.1.2 : Int), .bool true]) ∧ Own w' lo kv t.1.1 ∧ HS w' lo hh h T'
set_option maxRecDepth 100000 in
set_option maxHeartbeats 2000000 in
theorem next_nil (w : World) : Calls Try.prog 10 #[.pointer none] w fun e w' => e = .returned (.tuple #[env (.slice none 0 0) agZ, .int .i64 0, .bool false]) ∧ Below w.heap.size w w' := by
  go_enter Try.func10, Try.ntmps10
  go_wp2_with fail
  refine bodyPost_ret (v := .tuple #[env (.slice none 0 0) agZ, .int .i64 0, .bool false]) (by simp [results, Try.results10, go_sem, env, agZ]; decide) rfl ⟨rfl, ?_⟩
  exact (Below.refl _ _).alloc (Nat.le_refl _) _
set_option maxRecDepth 100000 in
set_option maxHeartbeats 2000000 in
theorem next_none (h : Nat) (w : World) (v : Value) (cap : Nat) (a : Option Addr) (hv : v = .slice a 0 cap) (hc : w.cell? ⟨h, 0, none⟩ = some v) : Calls Try.prog 10 #[.pointer (some ⟨h, 0, none⟩)] w fun e w' => e = .returned (.tuple #[env (.slice none 0 0) agZ, .int .i64 0, .bool false]) ∧ Below w.heap.size w w' := by
  subst hv
  have hbl := (cell_block hc).1
  simp only at hbl
  go_enter Try.func10, Try.ntmps10
  go_wp2_with fail
  refine bodyPost_ret (v := .tuple #[env (.slice none 0 0) agZ, .int .i64 0, .bool false]) (by simp [results, Try.results10, go_sem, env, agZ]; decide) rfl ⟨rfl, ?_⟩
  exact (Below.refl _ _).alloc (Nat.le_refl _) _
set_option maxRecDepth 100000 in
set_option maxHeartbeats 4000000 in
theorem next_some (lo hh h : Nat) (p : Pt) (P : List Pt) (w : World) (H : HM w lo hh h (p :: P)) (hsz : hh ≤ w.heap.size) (hq : HQ lePt ptZ (p :: P) 0) :
    Calls Try.prog 10 #[.pointer (some ⟨h, 0, none⟩)] w fun e w' => ∃ x xs, p.xs = x :: xs ∧ e = .returned (.tuple #[env x.kv x.a, .int .i64 (p.r : Int), .bool true]) ∧ Own w' lo x.kv x.k ∧ Fr lo hh w w' ∧ ∃ P', HM w' lo hh h P' ∧ P'.Perm (restP p P) ∧ HQ lePt ptZ P' 0 := by
  have hlo : lo ≤ w.heap.size := by have := H.h1; have := H.h2; omega
  obtain ⟨a, cap, e1, e2, e3, e4, e5⟩ := H.arr
  obtain ⟨gp, rfl, g1, g2, g3, g4⟩ := e5 (by simp)
  have hp := H.pt p (List.mem_cons_self ..)
  obtain ⟨x, xs, hx, hgs, hcx, hox⟩ := hp.first
  obtain ⟨y0, y1, _, _⟩ := g4 0 (by simp)
  have x1 := (cell_row e1 0 (by simp)).1
  have hbh := (Array.getElem?_eq_some_iff.1 e1).1
  have hn1 := hp.n1
  simp only [List.getElem_toArray, List.getElem_cons_zero, Nat.zero_mul, Nat.zero_add] at x1 y0 y1
  unfold lv at y0
  have HX : Hid (p.xs = x :: xs) := hx
  have HM0 : Hid _ := H
  have HO : Hid _ := hox
  have HQ0 : Hid _ := hq
  have c0 := (hcx 0 (by decide)).1
  have c1 := (hcx 1 (by decide)).1
  have c2 := (hcx 2 (by decide)).1
  have c3 := (hcx 3 (by decide)).1
  have c4 := (hcx 4 (by decide)).1
  have c5 := (hcx 5 (by decide)).1
  have c6 := (hcx 6 (by decide)).1
  simp only [c7, List.getElem_cons_zero, List.getElem_cons_succ, Nat.add_zero] at c0 c1 c2 c3 c4 c5 c6
  obtain ⟨ak, ck, hkv, _⟩ := hox.form
  obtain ⟨xkv, xk, xa⟩ := x
  simp only at hkv c0 c1 c2 c3 c4 c5 c6
  subst hkv
  clear hcx g4 e1 e2 e5 H hp hx hox hq
  have HPG : Hid (p = p) := rfl
  obtain ⟨pg, hpg⟩ := hid_ex p.g
  obtain ⟨po, hpo⟩ := hid_ex p.o
  obtain ⟨pc, hpc⟩ := hid_ex p.cap
  obtain ⟨pn, hpn⟩ := hid_ex p.xs.length
  obtain ⟨pr, hpr⟩ := hid_ex p.r
  rw [← hpg.out, ← hpo.out, ← hpn.out, ← hpc.out] at y0
  rw [← hpr.out] at y1 ⊢
  rw [← hpn.out] at hn1
  rw [← hpg.out, ← hpo.out] at c0 c1 c2 c3 c4 c5 c6
  rw [← hpg.out] at hgs
  obtain ⟨n, hnn⟩ := hid_ex (P.length + 1)
  have hn0 : 0 < n := by rw [hnn.out]; omega
  have hnb : ((n : Int) == 0) = false := by simp; omega
  rw [show (p :: P).length = n by rw [hnn.out]; rfl] at x1
  clear HPG
  go_enter Try.func10, Try.ntmps10
  go_wp2_with fail
  refine wp_region_noPanic ?_
  refine wp_region_held_drew (S := (fun w' => Below w.heap.size w w')) (by kernel_rfl) ?_ (fun hHeld => ?_)
  · exact ((Below.refl _ _).alloc (Nat.le_refl _) _).drew
  refine wpAnyH_take (i := 0) (v := .pointer (some ⟨h, 0, none⟩)) rfl (by kernel_rfl) (by kernel_rfl) (by kernel_rfl) (fun _ _ _ h => h) (Or.inl ⟨by rfl, ?_⟩) (by assumption) ?_
  · (intro w1 hSw; (try dsimp only at hSw); go_simp)
  simp only [List.getElem_toArray, List.getElem_cons_zero, Act.put, List.setIfInBounds_toArray, List.set_cons_zero, List.set_cons_succ]
  refine wpAnyH_take (i := 1) (v := .pointer (some ⟨h, 0, none⟩)) rfl (by kernel_rfl) (by kernel_rfl) (by kernel_rfl) (fun _ _ _ h => h) (Or.inl ⟨by rfl, ?_⟩) (by assumption) ?_
  · (intro w1 hSw; (try dsimp only at hSw); go_simp)
  simp only [List.getElem_toArray, List.getElem_cons_succ, List.getElem_cons_zero, Act.put, List.setIfInBounds_toArray, List.set_cons_zero, List.set_cons_succ]
  refine wpAnyH_take (i := 2) (v := .pointer (some ⟨h, 0, none⟩)) rfl (by kernel_rfl) (by kernel_rfl) (by kernel_rfl) (fun _ _ _ h => h) (Or.inl ⟨by rfl, ?_⟩) (by assumption) ?_
  · (intro w1 hSw; (try dsimp only at hSw); go_simp)
  simp only [List.getElem_toArray, List.getElem_cons_succ, List.getElem_cons_zero, Act.put, List.setIfInBounds_toArray, List.set_cons_zero, List.set_cons_succ]
  refine wpAnyH_take (i := 3) (v := .slice (some ⟨gp, 0, none⟩) n cap) rfl (by kernel_rfl) (by kernel_rfl) (by kernel_rfl) (fun _ _ _ h => h) (Or.inl ⟨by rfl, ?_⟩) (by assumption) ?_
  · (intro w1 hSw; (try dsimp only at hSw); have r0 := (hSw.cell (p := ⟨h, 0, none⟩) hbh).trans x1; go_simp)
  simp only [List.getElem_toArray, List.getElem_cons_succ, List.getElem_cons_zero, Act.put, List.setIfInBounds_toArray, List.set_cons_zero, List.set_cons_succ]
  refine wpAnyH_take (i := 4) (v := .pointer (some ⟨gp, 0, none⟩)) rfl (by kernel_rfl) (by kernel_rfl) (by kernel_rfl) (fun _ _ _ h => h) (Or.inl ⟨by rfl, ?_⟩) (by assumption) ?_
  · (intro w1 hSw; (try dsimp only at hSw); go_simp)
  simp only [List.getElem_toArray, List.getElem_cons_succ, List.getElem_cons_zero, Act.put, List.setIfInBounds_toArray, List.set_cons_zero, List.set_cons_succ]
  refine wpAnyH_take (i := 5) (v := .pointer (some ⟨gp, 0, none⟩)) rfl (by kernel_rfl) (by kernel_rfl) (by kernel_rfl) (fun _ _ _ h => h) (Or.inl ⟨by rfl, ?_⟩) (by assumption) ?_
  · (intro w1 hSw; (try dsimp only at hSw); go_simp)
  simp only [List.getElem_toArray, List.getElem_cons_succ, List.getElem_cons_zero, Act.put, List.setIfInBounds_toArray, List.set_cons_zero, List.set_cons_succ]
  refine wpAnyH_take (i := 6) (v := .slice (some ⟨pg, po, none⟩) pn pc) rfl (by kernel_rfl) (by kernel_rfl) (by kernel_rfl) (fun _ _ _ h => h) (Or.inl ⟨by rfl, ?_⟩) (by assumption) ?_
  · (intro w1 hSw; (try dsimp only at hSw); have r0 := (hSw.cell (p := ⟨gp, 0, none⟩) g3).trans y0; go_simp)
  simp only [List.getElem_toArray, List.getElem_cons_succ, List.getElem_cons_zero, Act.put, List.setIfInBounds_toArray, List.set_cons_zero, List.set_cons_succ]
  refine wpAnyH_take (i := 7) (v := .pointer (some ⟨pg, po, none⟩)) rfl (by kernel_rfl) (by kernel_rfl) (by kernel_rfl) (fun _ _ _ h => h) (Or.inl ⟨by rfl, ?_⟩) (by assumption) ?_
  · (intro w1 hSw; (try dsimp only at hSw); go_simp)
  simp only [List.getElem_toArray, List.getElem_cons_succ, List.getElem_cons_zero, Act.put, List.setIfInBounds_toArray, List.set_cons_zero, List.set_cons_succ]
  refine wpAnyH_take (i := 8) (v := .agg #[.slice ak xk.length ck, .int .u64 xa.c, .bool xa.o, .int .i64 (Go.Proofs.Ytdamlnpfpfpeeaa.hi xa.s), .int .u64 (Go.Proofs.Ytdamlnpfpfpeeaa.lo xa.s), .int .i64 xa.mn, .int .i64 xa.mx]) rfl (by kernel_rfl) (by kernel_rfl) (by kernel_rfl) (fun _ _ _ h => h) (Or.inl ⟨by rfl, ?_⟩) (by assumption) ?_
  · (intro w1 hSw; (try dsimp only at hSw); have r0 := (hSw.cell (p := ⟨pg, po, none⟩) hgs).trans c0; have r1 := (hSw.cell (p := ⟨pg, po + 1, none⟩) hgs).trans c1; have r2 := (hSw.cell (p := ⟨pg, po + 2, none⟩) hgs).trans c2; have r3 := (hSw.cell (p := ⟨pg, po + 3, none⟩) hgs).trans c3; have r4 := (hSw.cell (p := ⟨pg, po + 4, none⟩) hgs).trans c4; have r5 := (hSw.cell (p := ⟨pg, po + 5, none⟩) hgs).trans c5; have r6 := (hSw.cell (p := ⟨pg, po + 6, none⟩) hgs).trans c6; go_simp)
  simp only [List.getElem_toArray, List.getElem_cons_succ, List.getElem_cons_zero, Act.put, List.setIfInBounds_toArray, List.set_cons_zero, List.set_cons_succ]
  refine wpAnyH_take (i := 9) (v := .pointer (some ⟨h, 0, none⟩)) rfl (by kernel_rfl) (by kernel_rfl) (by kernel_rfl) (fun _ _ _ h => h) (Or.inl ⟨by rfl, ?_⟩) (by assumption) ?_
  · (intro w1 hSw; (try dsimp only at hSw); go_simp)
  simp only [List.getElem_toArray, List.getElem_cons_succ, List.getElem_cons_zero, Act.put, List.setIfInBounds_toArray, List.set_cons_zero, List.set_cons_succ]
  refine wpAnyH_take (i := 10) (v := .pointer (some ⟨h, 0, none⟩)) rfl (by kernel_rfl) (by kernel_rfl) (by kernel_rfl) (fun _ _ _ h => h) (Or.inl ⟨by rfl, ?_⟩) (by assumption) ?_
  · (intro w1 hSw; (try dsimp only at hSw); go_simp)
  simp only [List.getElem_toArray, List.getElem_cons_succ, List.getElem_cons_zero, Act.put, List.setIfInBounds_toArray, List.set_cons_zero, List.set_cons_succ]
  refine wpAnyH_take (i := 11) (v := .pointer (some ⟨h, 0, none⟩)) rfl (by kernel_rfl) (by kernel_rfl) (by kernel_rfl) (fun _ _ _ h => h) (Or.inl ⟨by rfl, ?_⟩) (by assumption) ?_
  · (intro w1 hSw; (try dsimp only at hSw); go_simp)
  simp only [List.getElem_toArray, List.getElem_cons_succ, List.getElem_cons_zero, Act.put, List.setIfInBounds_toArray, List.set_cons_zero, List.set_cons_succ]
  refine wpAnyH_take (i := 12) (v := .slice (some ⟨gp, 0, none⟩) n cap) rfl (by kernel_rfl) (by kernel_rfl) (by kernel_rfl) (fun _ _ _ h => h) (Or.inl ⟨by rfl, ?_⟩) (by assumption) ?_
  · (intro w1 hSw; (try dsimp only at hSw); have r0 := (hSw.cell (p := ⟨h, 0, none⟩) hbh).trans x1; go_simp)
  simp only [List.getElem_toArray, List.getElem_cons_succ, List.getElem_cons_zero, Act.put, List.setIfInBounds_toArray, List.set_cons_zero, List.set_cons_succ]
  refine wpAnyH_take (i := 13) (v := .pointer (some ⟨gp, 0, none⟩)) rfl (by kernel_rfl) (by kernel_rfl) (by kernel_rfl) (fun _ _ _ h => h) (Or.inl ⟨by rfl, ?_⟩) (by assumption) ?_
  · (intro w1 hSw; (try dsimp only at hSw); go_simp)
  simp only [List.getElem_toArray, List.getElem_cons_succ, List.getElem_cons_zero, Act.put, List.setIfInBounds_toArray, List.set_cons_zero, List.set_cons_succ]
  refine wpAnyH_take (i := 14) (v := .pointer (some ⟨gp, 1, none⟩)) rfl (by kernel_rfl) (by kernel_rfl) (by kernel_rfl) (fun _ _ _ h => h) (Or.inl ⟨by rfl, ?_⟩) (by assumption) ?_
  · (intro w1 hSw; (try dsimp only at hSw); go_simp)
  simp only [List.getElem_toArray, List.getElem_cons_succ, List.getElem_cons_zero, Act.put, List.setIfInBounds_toArray, List.set_cons_zero, List.set_cons_succ]
  refine wpAnyH_take (i := 15) (v := .int .i64 (pr : Int)) rfl (by kernel_rfl) (by kernel_rfl) (by kernel_rfl) (fun _ _ _ h => h) (Or.inl ⟨by rfl, ?_⟩) (by assumption) ?_
  · (intro w1 hSw; (try dsimp only at hSw); have r0 := (hSw.cell (p := ⟨gp, 1, none⟩) g3).trans y1; go_simp)
  simp only [List.getElem_toArray, List.getElem_cons_succ, List.getElem_cons_zero, Act.put, List.setIfInBounds_toArray, List.set_cons_zero, List.set_cons_succ]
  refine wpAnyH_ready (rs := [16]) (by kernel_rfl) (by simp) ?_
  refine AllReadyH.cons (o := _) rfl (fun K hK => ?_) AllReadyH.nil
  go_simp
  refine hK.out _ _ ?_ (fun hHeld => ?_)
  · exact (((Below.refl _ _).alloc (Nat.le_refl _) _).alloc (by simp) _).drew
  clear hK K
  refine wpAnyH_ready (rs := [17]) (by kernel_rfl) (by simp) ?_
  refine AllReadyH.cons (o := _) rfl (fun K hK => ?_) AllReadyH.nil
  go_simp
  refine hK.out _ _ ?_ (fun hHeld => ?_)
  · exact (((Below.refl _ _).alloc (Nat.le_refl _) _).alloc (by simp) _).drew
  clear hK K
  refine wpAnyH_take (i := 18) (v := .int .i64 (pr : Int)) rfl (by kernel_rfl) (by kernel_rfl) (by kernel_rfl) (fun _ _ _ h => h) (Or.inl ⟨by rfl, ?_⟩) (by assumption) ?_
  · (intro w1 hSw; (try dsimp only at hSw); go_simp)
  simp only [List.getElem_toArray, List.getElem_cons_succ, List.getElem_cons_zero, Act.put, List.setIfInBounds_toArray, List.set_cons_zero, List.set_cons_succ]
  refine wpAnyH_done (by kernel_rfl) ?_ _
  refine NoPanic.normal ?_
  obtain ⟨w2, HW2⟩ := hid_ex ((w.alloc (.cells #[.slice none 0 0, .int .u64 0, .bool false, .int .i64 0, .int .u64 0, .int .i64 0, .int .i64 0] 36)).alloc (.cells #[.slice ak xk.length ck, .int .u64 xa.c, .bool xa.o, .int .i64 (Go.Proofs.Ytdamlnpfpfpeeaa.hi xa.s), .int .u64 (Go.Proofs.Ytdamlnpfpfpeeaa.lo xa.s), .int .i64 xa.mn, .int .i64 xa.mx] 36)).drew
  have hb2 : Below w.heap.size w w2 := by rw [HW2.out]; exact (((Below.refl _ _).alloc (Nat.le_refl _) _).alloc (by simp) _).drew
  have HB2 : Hid (Below w.heap.size w w2) := hb2
  have HBa : Hid (w2.heap[w.heap.size]? = some (.cells #[.slice none 0 0, .int .u64 0, .bool false, .int .i64 0, .int .u64 0, .int .i64 0, .int .i64 0] 36)) := by rw [HW2.out]; exact (Below.heap_alloc _ _ _ (by simp)).trans (heap_alloc_new _ _)
  have HBb : Hid (w2.heap[w.heap.size + 1]? = some (.cells #[.slice ak xk.length ck, .int .u64 xa.c, .bool xa.o, .int .i64 (Go.Proofs.Ytdamlnpfpfpeeaa.hi xa.s), .int .u64 (Go.Proofs.Ytdamlnpfpfpeeaa.lo xa.s), .int .i64 xa.mn, .int .i64 xa.mx] 36)) := by
    rw [HW2.out]
    have := heap_alloc_new (w.alloc (.cells #[.slice none 0 0, .int .u64 0, .bool false, .int .i64 0, .int .u64 0, .int .i64 0, .int .i64 0] 36)) (.cells #[.slice ak xk.length ck, .int .u64 xa.c, .bool xa.o, .int .i64 (Go.Proofs.Ytdamlnpfpfpeeaa.hi xa.s), .int .u64 (Go.Proofs.Ytdamlnpfpfpeeaa.lo xa.s), .int .i64 xa.mn, .int .i64 xa.mx] 36)
    rw [World.size_alloc] at this
    exact this
  have HM2 : Hid (HM w2 lo hh h (p :: P)) := HM0.out.below hb2
  clear hb2
  rw [← HW2.out]
  go_wp2_with fail
  refine (forget_any lo hh h p P _ HM2.out).mono ?_
  rintro e w3 ⟨⟨v3, rfl⟩, hm3, hf3⟩
  have HM3 : Hid _ := hm3
  have HF3 : Hid (Fr lo hh w w3) := (Fr.of_below HB2.out hlo).trans hf3
  have HBa3 : Hid (w3.heap[w.heap.size]? = some (.cells #[.slice none 0 0, .int .u64 0, .bool false, .int .i64 0, .int .u64 0, .int .i64 0, .int .i64 0] 36)) := (hf3.h _ hsz (Array.getElem?_eq_some_iff.1 HBa.out).1).trans HBa.out
  have HBb3 : Hid (w3.heap[w.heap.size + 1]? = some (.cells #[.slice ak xk.length ck, .int .u64 xa.c, .bool xa.o, .int .i64 (Go.Proofs.Ytdamlnpfpfpeeaa.hi xa.s), .int .u64 (Go.Proofs.Ytdamlnpfpfpeeaa.lo xa.s), .int .i64 xa.mn, .int .i64 xa.mx] 36)) := (hf3.h _ (by omega) (Array.getElem?_eq_some_iff.1 HBb.out).1).trans HBb.out
  clear hm3 hf3 HM2
  go_wp2_with fail
  refine (sink_any lo hh h (restP p P) 0 (by omega) _ HM3.out (Nat.le_trans hsz HF3.out.b.size) (rest_heap p P HQ0.out)).mono ?_
  rintro e w4 ⟨⟨v4, rfl⟩, P', hm4, hpm4, hq4, hf4⟩
  have HM4 : Hid _ := hm4
  have HP4 : Hid _ := hpm4
  have HQ4 : Hid _ := hq4
  have HF4 : Hid (Fr lo hh w w4) := HF3.out.trans hf4
  have HBa4 : Hid (w4.heap[w.heap.size]? = some (.cells #[.slice none 0 0, .int .u64 0, .bool false, .int .i64 0, .int .u64 0, .int .i64 0, .int .i64 0] 36)) := (hf4.h _ hsz (Array.getElem?_eq_some_iff.1 HBa3.out).1).trans HBa3.out
  have HBb4 : Hid (w4.heap[w.heap.size + 1]? = some (.cells #[.slice ak xk.length ck, .int .u64 xa.c, .bool xa.o, .int .i64 (Go.Proofs.Ytdamlnpfpfpeeaa.hi xa.s), .int .u64 (Go.Proofs.Ytdamlnpfpfpeeaa.lo xa.s), .int .i64 xa.mn, .int .i64 xa.mx] 36)) := (hf4.h _ (by omega) (Array.getElem?_eq_some_iff.1 HBb3.out).1).trans HBb3.out
  clear hm4 hpm4 hq4 hf4 HM3 HF3 HBa3 HBb3 HBa HBb HB2 HW2 c0 c1 c2 c3 c4 c5 c6 x1 y0 y1
  have d0 := (cell_row HBb4.out 0 (by simp)).1
  have d1 := (cell_row HBb4.out 1 (by simp)).1
  have d2 := (cell_row HBb4.out 2 (by simp)).1
  have d3 := (cell_row HBb4.out 3 (by simp)).1
  have d4 := (cell_row HBb4.out 4 (by simp)).1
  have d5 := (cell_row HBb4.out 5 (by simp)).1
  have d6 := (cell_row HBb4.out 6 (by simp)).1
  simp only [List.getElem_toArray, List.getElem_cons_zero, List.getElem_cons_succ] at d0 d1 d2 d3 d4 d5 d6
  go_wp2_with (refine stop_store 36 _ _ rfl ?_)
  refine Stop.of ?_
  refine wpList_storeN rfl _ _ _ rfl w.heap.size 0 [.slice ak xk.length ck, .int .u64 xa.c, .bool xa.o, .int .i64 (Go.Proofs.Ytdamlnpfpfpeeaa.hi xa.s), .int .u64 (Go.Proofs.Ytdamlnpfpfpeeaa.lo xa.s), .int .i64 xa.mn, .int .i64 xa.mx] rfl rfl _ _ HBa4.out (by simp) (by kernel_rfl) (by kernel_rfl) ?_
  intro W hW
  obtain ⟨cur', k1, k2, k3, k4⟩ := hW.c
  have f0 := (Go.Joins.cell_of_block k1 0).trans (k4 0 (by simp))
  have f1 := (Go.Joins.cell_of_block k1 1).trans (k4 1 (by simp))
  have f2 := (Go.Joins.cell_of_block k1 2).trans (k4 2 (by simp))
  have f3 := (Go.Joins.cell_of_block k1 3).trans (k4 3 (by simp))
  have f4 := (Go.Joins.cell_of_block k1 4).trans (k4 4 (by simp))
  have f5 := (Go.Joins.cell_of_block k1 5).trans (k4 5 (by simp))
  have f6 := (Go.Joins.cell_of_block k1 6).trans (k4 6 (by simp))
  simp only [List.getElem_cons_zero, List.getElem_cons_succ] at f0 f1 f2 f3 f4 f5 f6
  have hu : ∀ (k : Nat) (cs : Array Value) (fr : Nat × Nat), w4.heap[k]? = some (Obj.cells cs 5 fr) → W.heap[k]? = some (Obj.cells cs 5 fr) := fun k cs fr q => (hW.o k (typ_ne q HBa4.out (by decide))).trans q
  have HFW : Hid (Fr lo hh w W) := ⟨HF4.out.b.trans (hW.b lo hlo), fun k hk hk2 => (hW.o k (by omega)).trans (HF4.out.h k hk hk2), fun k cs fr q => hu k cs fr (HF4.out.u k cs fr q)⟩
  have HMW : Hid (HM W lo hh h P') := HM4.out.under (fun k hk => hW.o k (by omega)) hu
  have HOW : Hid (Own W lo (.slice ak xk.length ck) xk) := HFW.out.own HO.out
  clear hW k1 k2 k3 k4 hu d0 d1 d2 d3 d4 d5 d6 HBa4 HBb4
  go_wp2_with fail
  refine bodyPost_ret (v := .tuple #[env (.slice ak xk.length ck) xa, .int .i64 (pr : Int), .bool true]) (by simp [results, Try.results10, go_sem, env, f0, f1, f2, f3, f4, f5, f6]) rfl ?_
  exact ⟨⟨_, xk, xa⟩, xs, HX.out, rfl, HOW.out, HFW.out, P', HMW.out, HP4.out, HQ4.out⟩
theorem next_any (lo hh h : Nat) (T : List Tg) (w : World) (H : HS w lo hh h T) : Calls Try.prog 10 #[.pointer (some ⟨h, 0, none⟩)] w (NxPost lo hh h T w) := by
  obtain ⟨P, h1, h2, h3, h4⟩ := H.m
  have hlo : lo ≤ w.heap.size := by have := h1.h1; have := h1.h2; have := H.z; omega
  cases P with
  | nil =>
    obtain ⟨a, cap, e1, _⟩ := h1.arr
    have ht : T = [] := List.Perm.eq_nil h4
    subst ht
    refine (next_none h w _ cap a rfl (cell_row e1 0 (by simp)).1).mono ?_
    rintro e w' ⟨rfl, hb⟩
    exact ⟨Fr.of_below hb hlo, rfl, H.below hb⟩
  | cons p P =>
    refine (next_some lo hh h p P w h1 H.z h2).mono ?_
    rintro e w' ⟨x, xs, hx, rfl, ho, hf, P', hm, hp, hq⟩
    obtain ⟨T', rfl, hT1, hT2⟩ := next_tag (p := paP p) (P := P.map paP) (e := evE x) (es := xs.map evE) h3 (by unfold paP; rw [hx]; rfl) h2.first H.s h4
    refine ⟨hf, x.kv, rfl, ho, ⟨P', hm, hq, ?_, ?_⟩, hT1, Nat.le_trans H.z hf.b.size⟩
    · exact (rest_good p P h3).perm (hp.map paP)
    · refine hT2.trans ?_
      have h5 := (rest_perm p P)
      rw [hx] at h5
      exact (h5.symm).trans (tags_perm (hp.map paP)).symm
end Go.Proofs.Ytdamlnpfpfpeeaa
