/- MFf MFg MFh MFi MFj, joined. -/
import Derived.Test.YtilbffgpniomcaaGreatDoorQQ8
import Derived.Sort.Grow
/- law13: runs, as the reference's. -/
namespace Go.Proofs.YtilbffgpniomcaaGreatDoor
open Go.RowKit

theorem infoV13 : (Tryz.prog.info? 101).map (fun i => (i.zero, i.size, i.bytes)) = some (some (.agg #[.int .i64 0, .int .i64 0, .int .i64 0]), 3, 24) := by kernel_rfl
/-- A row of runs that grows, above a base. -/
structure UG (T : TypeId) (base : Nat) (w W : World) (v : Value) (L : List Ru) : Prop where
  o : GOwn W T 3 v L.length (L.flatMap r3L)
  k : ∀ k, v.ownBlock = some k → base ≤ k ∧ k < W.heap.size
  b : Below base w W
theorem UG.below {T : TypeId} {base : Nat} {w W W' : World} {v : Value} {L : List Ru} (h : UG T base w W v L) (hb : Below W.heap.size W W') (hs : base ≤ W.heap.size) : UG T base w W' v L :=
  ⟨GOwn.keep h.o fun k q => hb.block k (h.k k q).2, fun k q => ⟨(h.k k q).1, Nat.lt_of_lt_of_le (h.k k q).2 hb.size⟩, h.b.trans (hb.mono hs)⟩
theorem UG.app {base : Nat} {w W : World} {v : Value} {L : List Ru} (h : UG 101 base w W v L) (hs : base ≤ W.heap.size) (r : Ru) (hl : L.length < 1000000) :
    ∃ v' w', (Builtin.append_ #[36, 36] 36 #[v, .slice (some ⟨W.heap.size, 0, none⟩) 1 1]).run Tryz.prog (W.alloc (.cells #[.int .i64 r.f, .int .i64 r.l, .int .i64 r.c] 101)) = .ok v' w' ∧ UG 101 base w w' v' (L ++ [r]) ∧ base ≤ w'.heap.size := by
  obtain ⟨i0, hi, hz0, hz1, hz2⟩ := info_parts infoV13
  obtain ⟨v', W', h1, h2, h3, h4⟩ := run_one 36 36 101 i0 _ 3 24 Tryz.underlying36 hi hz0 hz1 hz2 rfl v L.length _ h.o (fun k e => (h.k k e).2) (r3L r) rfl (by intro u hu; simp [r3L] at hu; rcases hu with rfl | rfl | rfl <;> rfl) hl (by decide)
  have hsz := h3.size
  simp only [World.size_alloc] at hsz
  refine ⟨v', W', h1, ⟨?_, fun k q => ?_, (h.b.alloc hs _).grown h3 (by simp; omega) (fun k q => (h.k k q).1)⟩, by omega⟩
  · rw [List.length_append, List.flatMap_append]; simpa using h2
  · rcases h4 k q with z | z
    · have := h.k k z; omega
    · omega
/-- A slice whose block stands above a base. -/
def AboveV (base : Nat) (v : Value) : Prop := ∀ b off n c, v = .slice (some ⟨b, off, none⟩) n c → base ≤ b
theorem RuR.keepB {W W' : World} {v : Value} {L : List Ru} (h : RuR W v L) (hk : ∀ b off n c, v = .slice (some ⟨b, off, none⟩) n c → W'.heap[b]? = W.heap[b]?) : RuR W' v L := by
  obtain ⟨a, cap, rfl, h2, h3⟩ := h
  refine ⟨a, cap, rfl, h2, fun j hj => ?_⟩
  obtain ⟨b, off, rfl, q2, q3, q4, q5⟩ := h3 j hj
  have e := hk b off _ _ rfl
  have hc : ∀ o, W'.cell? ⟨b, o, none⟩ = W.cell? ⟨b, o, none⟩ := fun o => by simp only [World.cell?, e]
  refine ⟨b, off, rfl, ?_, (hc _).trans q3, (hc _).trans q4, (hc _).trans q5⟩
  have : (W'.heap[b]?).isSome = true := by rw [e]; simp [q2]
  simpa using this
theorem JR.keepB {W W' : World} {v : Value} {l : List Int} (h : JR W v l) (hk : ∀ b off n c, v = .slice (some ⟨b, off, none⟩) n c → W'.heap[b]? = W.heap[b]?) : JR W' v l := by
  obtain ⟨a, cap, rfl, h2, h3⟩ := h
  refine ⟨a, cap, rfl, h2, fun j hj => ?_⟩
  obtain ⟨b, off, rfl, q2, q3⟩ := h3 j hj
  have e := hk b off _ _ rfl
  have hc : ∀ o, W'.cell? ⟨b, o, none⟩ = W.cell? ⟨b, o, none⟩ := fun o => by simp only [World.cell?, e]
  refine ⟨b, off, rfl, ?_, (hc _).trans q3⟩
  have : (W'.heap[b]?).isSome = true := by rw [e]; simp [q2]
  simpa using this
theorem snocU {l : List Ru} {j : Nat} (hj : j < l.length) {x : Ru} (hx : x = l[j]) : l.take (j + 1) = l.take j ++ [x] := by
  rw [List.take_add_one, List.getElem?_eq_getElem hj, hx]; rfl
set_option maxRecDepth 100000 in
set_option maxHeartbeats 4000000 in
theorem runs13_any (v : Value) (L : List Ru) (w : World) (h : RuR w v L) (hl : L.length ≤ 100000) :
    Calls Tryz.prog 43 #[v] w fun e w' => ∃ v', e = .returned v' ∧ RuR w' v' L ∧ AboveV w.heap.size v' ∧ Below w.heap.size w w' := by
  obtain ⟨a, cap, rfl, hm⟩ := h.form
  have HR : Hid (RuR w (.slice a L.length cap) L) := h
  clear h
  go_enter Tryz.func43, Tryz.ntmps43
  go_wp2_with fail
  go_loopw [3, 4] (fun o i wr => ∃ j : Nat, i = .int .i64 (j : Int) ∧ j ≤ L.length ∧ w.heap.size ≤ wr.heap.size ∧ Hid (UG 101 w.heap.size w wr o (L.take j))) (fun _ i _ => L.length - (intOf i).toNat)
  case atStart => exact ⟨0, rfl, by omega, Nat.le_refl _, ⟨⟨rfl, .inl ⟨rfl, rfl⟩⟩, fun k e => by simp [Value.ownBlock] at e, Below.refl _ _⟩⟩
  case round =>
    obtain ⟨j, rfl, hj, hsz, HU⟩ := hrel
    by_cases hlt : j < L.length
    · have hlt' : (j : Int) < (L.length : Int) := by omega
      obtain ⟨r, Hr⟩ := hid_ex L[j]
      have hlj : (L.take j).length = j := by rw [List.length_take]; omega
      obtain ⟨oa, oc, hov, -⟩ := GOwn.form HU.out.o
      rw [hlj] at hov
      subst hov
      have HUd : Hid (UG 101 w.heap.size w wr.drew (.slice oa j oc) (L.take j)) := HU.out.below (Below.refl _ _).drew hsz
      have HRd := HR.out.below HUd.out.b
      obtain ⟨b, off, rfl, hbw, c0, c1, c2⟩ := HRd.at hlt Hr.out
      have hbw0 : b < w.heap.size := by
        obtain ⟨b', off', e, hb', _⟩ := HR.out.at hlt Hr.out
        simp only [Option.some.injEq, Addr.mk.injEq] at e
        omega
      obtain ⟨v3, w3, hrun, hu3, hs3⟩ := HUd.out.app hsz r (by rw [hlj]; omega)
      have HU3 : Hid (UG 101 w.heap.size w w3 v3 (L.take (j + 1))) := by
        unfold Hid
        rw [snocU hlt Hr.out]
        exact hu3
      have HBa : Hid (Below wr.drew.heap.size wr.drew (wr.drew.alloc (.cells #[.int .i64 r.f, .int .i64 r.l, .int .i64 r.c] 101))) := (Below.refl _ _).alloc (Nat.le_refl _) _
      have k0 := (HR.out.below HU3.out.b)
      obtain ⟨b9, off9, e9, _, e0, e1, e2⟩ := k0.at hlt Hr.out
      simp only [Option.some.injEq, Addr.mk.injEq, and_true] at e9
      obtain ⟨rfl, rfl⟩ := e9
      have HE : Hid (w3.cell? ⟨b, off + j * 3, none⟩ = some (.int .i64 r.f) ∧ w3.cell? ⟨b, off + j * 3 + 1, none⟩ = some (.int .i64 r.l) ∧ w3.cell? ⟨b, off + j * 3 + 2, none⟩ = some (.int .i64 r.c)) := ⟨e0, e1, e2⟩
      have HC : Hid (wr.drew.cell? ⟨b, off + j * 3, none⟩ = some (.int .i64 r.f) ∧ wr.drew.cell? ⟨b, off + j * 3 + 1, none⟩ = some (.int .i64 r.l) ∧ wr.drew.cell? ⟨b, off + j * 3 + 2, none⟩ = some (.int .i64 r.c)) := ⟨c0, c1, c2⟩
      have hbd : b < wr.drew.heap.size := hbw
      clear hu3 HU HUd HRd k0 e0 e1 e2 c0 c1 c2 hbw hlj
      go_wp2_with fail
      refine wp_region_noPanic ?_
      refine wp_region_held_drew (S := fun w' => w'.cell? ⟨b, off + j * 3, none⟩ = some (.int .i64 r.f) ∧ w'.cell? ⟨b, off + j * 3 + 1, none⟩ = some (.int .i64 r.l) ∧ w'.cell? ⟨b, off + j * 3 + 2, none⟩ = some (.int .i64 r.c)) (by kernel_rfl) ?_ (fun hHeld => ?_)
      · exact HC.out
      refine wpAnyH_take (i := 0) (v := .slice oa j oc) rfl (by kernel_rfl) (by kernel_rfl) (by kernel_rfl) (fun _ _ _ h => h) (Or.inl ⟨by rfl, ?_⟩) (by assumption) ?_
      · (intro w1 hSw; (try dsimp only at hSw); go_simp)
      simp only [List.getElem_toArray, List.getElem_cons_zero, Act.put, List.setIfInBounds_toArray, List.set_cons_zero, List.set_cons_succ]
      refine wpAnyH_take (i := 1) (v := .slice (some ⟨b, off, none⟩) L.length cap) rfl (by kernel_rfl) (by kernel_rfl) (by kernel_rfl) (fun _ _ _ h => h) (Or.inl ⟨by rfl, ?_⟩) (by assumption) ?_
      · (intro w1 hSw; (try dsimp only at hSw); go_simp)
      simp only [List.getElem_toArray, List.getElem_cons_succ, List.getElem_cons_zero, Act.put, List.setIfInBounds_toArray, List.set_cons_zero, List.set_cons_succ]
      refine wpAnyH_take (i := 2) (v := .int .i64 (j : Int)) rfl (by kernel_rfl) (by kernel_rfl) (by kernel_rfl) (fun _ _ _ h => h) (Or.inl ⟨by rfl, ?_⟩) (by assumption) ?_
      · (intro w1 hSw; (try dsimp only at hSw); go_simp)
      simp only [List.getElem_toArray, List.getElem_cons_succ, List.getElem_cons_zero, Act.put, List.setIfInBounds_toArray, List.set_cons_zero, List.set_cons_succ]
      refine wpAnyH_take (i := 3) (v := .pointer (some ⟨b, off + j * 3, none⟩)) rfl (by kernel_rfl) (by kernel_rfl) (by kernel_rfl) (fun _ _ _ h => h) (Or.inl ⟨by rfl, ?_⟩) (by assumption) ?_
      · (intro w1 hSw; (try dsimp only at hSw); go_simp)
      simp only [List.getElem_toArray, List.getElem_cons_succ, List.getElem_cons_zero, Act.put, List.setIfInBounds_toArray, List.set_cons_zero, List.set_cons_succ]
      refine wpAnyH_take (i := 4) (v := .pointer (some ⟨b, off + j * 3, none⟩)) rfl (by kernel_rfl) (by kernel_rfl) (by kernel_rfl) (fun _ _ _ h => h) (Or.inl ⟨by rfl, ?_⟩) (by assumption) ?_
      · (intro w1 hSw; (try dsimp only at hSw); go_simp)
      simp only [List.getElem_toArray, List.getElem_cons_succ, List.getElem_cons_zero, Act.put, List.setIfInBounds_toArray, List.set_cons_zero, List.set_cons_succ]
      refine wpAnyH_take (i := 5) (v := .int .i64 r.f) rfl (by kernel_rfl) (by kernel_rfl) (by kernel_rfl) (fun _ _ _ h => h) (Or.inl ⟨by rfl, ?_⟩) (by assumption) ?_
      · (intro w1 hSw; (try dsimp only at hSw); go_simp)
      simp only [List.getElem_toArray, List.getElem_cons_succ, List.getElem_cons_zero, Act.put, List.setIfInBounds_toArray, List.set_cons_zero, List.set_cons_succ]
      refine wpAnyH_take (i := 6) (v := .slice (some ⟨b, off, none⟩) L.length cap) rfl (by kernel_rfl) (by kernel_rfl) (by kernel_rfl) (fun _ _ _ h => h) (Or.inl ⟨by rfl, ?_⟩) (by assumption) ?_
      · (intro w1 hSw; (try dsimp only at hSw); go_simp)
      simp only [List.getElem_toArray, List.getElem_cons_succ, List.getElem_cons_zero, Act.put, List.setIfInBounds_toArray, List.set_cons_zero, List.set_cons_succ]
      refine wpAnyH_take (i := 7) (v := .int .i64 (j : Int)) rfl (by kernel_rfl) (by kernel_rfl) (by kernel_rfl) (fun _ _ _ h => h) (Or.inl ⟨by rfl, ?_⟩) (by assumption) ?_
      · (intro w1 hSw; (try dsimp only at hSw); go_simp)
      simp only [List.getElem_toArray, List.getElem_cons_succ, List.getElem_cons_zero, Act.put, List.setIfInBounds_toArray, List.set_cons_zero, List.set_cons_succ]
      refine wpAnyH_take (i := 8) (v := .pointer (some ⟨b, off + j * 3, none⟩)) rfl (by kernel_rfl) (by kernel_rfl) (by kernel_rfl) (fun _ _ _ h => h) (Or.inl ⟨by rfl, ?_⟩) (by assumption) ?_
      · (intro w1 hSw; (try dsimp only at hSw); go_simp)
      simp only [List.getElem_toArray, List.getElem_cons_succ, List.getElem_cons_zero, Act.put, List.setIfInBounds_toArray, List.set_cons_zero, List.set_cons_succ]
      refine wpAnyH_take (i := 9) (v := .pointer (some ⟨b, off + j * 3 + 1, none⟩)) rfl (by kernel_rfl) (by kernel_rfl) (by kernel_rfl) (fun _ _ _ h => h) (Or.inl ⟨by rfl, ?_⟩) (by assumption) ?_
      · (intro w1 hSw; (try dsimp only at hSw); go_simp)
      simp only [List.getElem_toArray, List.getElem_cons_succ, List.getElem_cons_zero, Act.put, List.setIfInBounds_toArray, List.set_cons_zero, List.set_cons_succ]
      refine wpAnyH_take (i := 10) (v := .int .i64 r.l) rfl (by kernel_rfl) (by kernel_rfl) (by kernel_rfl) (fun _ _ _ h => h) (Or.inl ⟨by rfl, ?_⟩) (by assumption) ?_
      · (intro w1 hSw; (try dsimp only at hSw); go_simp)
      simp only [List.getElem_toArray, List.getElem_cons_succ, List.getElem_cons_zero, Act.put, List.setIfInBounds_toArray, List.set_cons_zero, List.set_cons_succ]
      refine wpAnyH_take (i := 11) (v := .slice (some ⟨b, off, none⟩) L.length cap) rfl (by kernel_rfl) (by kernel_rfl) (by kernel_rfl) (fun _ _ _ h => h) (Or.inl ⟨by rfl, ?_⟩) (by assumption) ?_
      · (intro w1 hSw; (try dsimp only at hSw); go_simp)
      simp only [List.getElem_toArray, List.getElem_cons_succ, List.getElem_cons_zero, Act.put, List.setIfInBounds_toArray, List.set_cons_zero, List.set_cons_succ]
      refine wpAnyH_take (i := 12) (v := .int .i64 (j : Int)) rfl (by kernel_rfl) (by kernel_rfl) (by kernel_rfl) (fun _ _ _ h => h) (Or.inl ⟨by rfl, ?_⟩) (by assumption) ?_
      · (intro w1 hSw; (try dsimp only at hSw); go_simp)
      simp only [List.getElem_toArray, List.getElem_cons_succ, List.getElem_cons_zero, Act.put, List.setIfInBounds_toArray, List.set_cons_zero, List.set_cons_succ]
      refine wpAnyH_take (i := 13) (v := .pointer (some ⟨b, off + j * 3, none⟩)) rfl (by kernel_rfl) (by kernel_rfl) (by kernel_rfl) (fun _ _ _ h => h) (Or.inl ⟨by rfl, ?_⟩) (by assumption) ?_
      · (intro w1 hSw; (try dsimp only at hSw); go_simp)
      simp only [List.getElem_toArray, List.getElem_cons_succ, List.getElem_cons_zero, Act.put, List.setIfInBounds_toArray, List.set_cons_zero, List.set_cons_succ]
      refine wpAnyH_take (i := 14) (v := .pointer (some ⟨b, off + j * 3 + 2, none⟩)) rfl (by kernel_rfl) (by kernel_rfl) (by kernel_rfl) (fun _ _ _ h => h) (Or.inl ⟨by rfl, ?_⟩) (by assumption) ?_
      · (intro w1 hSw; (try dsimp only at hSw); go_simp)
      simp only [List.getElem_toArray, List.getElem_cons_succ, List.getElem_cons_zero, Act.put, List.setIfInBounds_toArray, List.set_cons_zero, List.set_cons_succ]
      refine wpAnyH_take (i := 15) (v := .int .i64 r.c) rfl (by kernel_rfl) (by kernel_rfl) (by kernel_rfl) (fun _ _ _ h => h) (Or.inl ⟨by rfl, ?_⟩) (by assumption) ?_
      · (intro w1 hSw; (try dsimp only at hSw); go_simp)
      simp only [List.getElem_toArray, List.getElem_cons_succ, List.getElem_cons_zero, Act.put, List.setIfInBounds_toArray, List.set_cons_zero, List.set_cons_succ]
      refine wpAnyH_take (i := 16) (v := .agg #[.int .i64 r.f, .int .i64 r.l, .int .i64 r.c]) rfl (by kernel_rfl) (by kernel_rfl) (by kernel_rfl) (fun _ _ _ h => h) (Or.inl ⟨by rfl, ?_⟩) (by assumption) ?_
      · (intro w1 hSw; (try dsimp only at hSw); go_simp)
      simp only [List.getElem_toArray, List.getElem_cons_succ, List.getElem_cons_zero, Act.put, List.setIfInBounds_toArray, List.set_cons_zero, List.set_cons_succ]
      refine wpAnyH_ready (rs := [17]) (by kernel_rfl) (by simp) ?_
      refine AllReadyH.cons (o := _) rfl (fun K hK => ?_) AllReadyH.nil
      go_simp
      refine hK.out _ _ ?_ (fun hHeld => ?_)
      · exact ⟨(HBa.out.cell (p := ⟨b, _, none⟩) hbd).trans HC.out.1, (HBa.out.cell (p := ⟨b, _, none⟩) hbd).trans HC.out.2.1, (HBa.out.cell (p := ⟨b, _, none⟩) hbd).trans HC.out.2.2⟩
      clear hK K
      refine wpAnyH_ready (rs := [18]) (by kernel_rfl) (by simp) ?_
      refine AllReadyH.cons (o := _) rfl (fun K hK => ?_) AllReadyH.nil
      refine wp_app_runG (.tmp 11) (.tmp 28) 36 36 rfl rfl _ _ _ (by simp [Act.eval]) (by simp [Act.eval]) hrun ?_
      simp only [List.getElem_toArray, List.getElem_cons_succ, List.getElem_cons_zero, Act.put, List.setIfInBounds_toArray, List.set_cons_zero, List.set_cons_succ]
      refine hK.out _ _ ?_ (fun hHeld => ?_)
      · exact HE.out
      clear hK K
      refine wpAnyH_ready (rs := [19]) (by kernel_rfl) (by simp) ?_
      refine AllReadyH.cons (o := _) rfl (fun K hK => ?_) AllReadyH.nil
      go_simp
      refine hK.out _ _ ?_ (fun hHeld => ?_)
      · exact HE.out
      clear hK K
      refine wpAnyH_done (by kernel_rfl) ?_ _
      refine NoPanic.normal ?_
      go_wp2_with fail
      go_roundw
      case rel => exact ⟨j + 1, by go_num, by omega, hs3, HU3⟩
      case measure => simp [intOf]; omega
    · have hlt' : ¬ (j : Int) < (L.length : Int) := by omega
      have HE : Hid (RuR wr u3 L) := by
        have := gown_rur HU.out.o
        rwa [List.take_of_length_le (by omega)] at this
      go_wp2_with fail
      go_ret
      exact ⟨_, rfl, HE.out, fun b off n c e => by subst e; obtain ⟨a, c', e1, _, _, e2, _⟩ := GOwn.form HU.out.o; simp only [Value.slice.injEq] at e1; have e3 := e2 _ e1.1.symm; simp only [Addr.mk.injEq, and_true, true_and] at e3; subst e3; exact (HU.out.k b rfl).1, HU.out.b⟩
end Go.Proofs.YtilbffgpniomcaaGreatDoor

/- law13: AsEdit. -/
namespace Go.Proofs.YtilbffgpniomcaaGreatDoor
open Go.RowKit

theorem results_1c {fn : Func} {p : Tmp} {ty : TypeId} (h : fn.results = #[.cell p ty]) (tmps : Array Value) (w : World) (g : Nat) (cs : Array Value)
    (hp : tmps.getD p undef = .pointer (some ⟨g, 0, none⟩)) (hl : (loadVar ty ⟨g, 0, none⟩).run Tryz.prog w = .ok (.agg cs) w) :
    (results fn tmps).run Tryz.prog w = .ok (.agg cs) w := by
  have hp' : tmps[p]?.getD undef = .pointer (some ⟨g, 0, none⟩) := by simpa using hp
  simp [results, h, hp', asAddr, hl]
def Five (w : World) (b : Nat) (d a l n m : Value) : Prop := w.cell? ⟨b, 0, none⟩ = some d ∧ w.cell? ⟨b, 1, none⟩ = some a ∧ w.cell? ⟨b, 2, none⟩ = some l ∧ w.cell? ⟨b, 3, none⟩ = some n ∧ w.cell? ⟨b, 4, none⟩ = some m
set_option maxRecDepth 100000 in
set_option maxHeartbeats 4000000 in
theorem asEdit_any (dv av : Value) (x : Ed) (w : World) (h : EdR w dv av x) (hl : x.ad.length ≤ 100000) :
    Calls Tryz.prog 21 #[.agg #[dv, av, .int .i64 x.lo, .int .i64 x.ne, .int .i64 x.ma]] w fun e w' => ∃ v', e = .returned (.agg #[dv, v', .int .i64 x.lo, .int .i64 x.ne, .int .i64 x.ma]) ∧ EdR w' dv v' x ∧ Below w.heap.size w w' := by
  obtain ⟨da, dc, rfl, hm1⟩ := h.d.form
  obtain ⟨aa, ac, rfl, hm2⟩ := h.a.form
  have HE : Hid (EdR w (.slice da x.dr.length dc) (.slice aa x.ad.length ac) x) := h
  clear h
  go_enter Tryz.func21, Tryz.ntmps21
  go_wp2_with fail
  obtain ⟨W, HW⟩ := hid_ex (((w.alloc (.cells #[.slice da x.dr.length dc, .slice aa x.ad.length ac, .int .i64 x.lo, .int .i64 x.ne, .int .i64 x.ma] 52)).alloc (.cells #[.slice none 0 0, .slice none 0 0, .int .i64 0, .int .i64 0, .int .i64 0] 56)).drew)
  have HB0 : Hid (Below w.heap.size w W) := by rw [HW.out]; exact (((Below.refl _ _).alloc (Nat.le_refl _) _).alloc (by simp) _).drew
  have hsz : w.heap.size + 1 < W.heap.size := by rw [HW.out]; simp [World.drew]
  have HX : Hid (W.heap[w.heap.size]? = some (.cells #[.slice da x.dr.length dc, .slice aa x.ad.length ac, .int .i64 x.lo, .int .i64 x.ne, .int .i64 x.ma] 52)) := by
    unfold Hid; rw [HW.out]; exact (Below.heap_alloc _ _ _ (by simp)).trans (heap_alloc_new _ _)
  have HZ : Hid (W.heap[w.heap.size + 1]? = some (.cells #[.slice none 0 0, .slice none 0 0, .int .i64 0, .int .i64 0, .int .i64 0] 56)) := by
    unfold Hid; rw [HW.out]; have := heap_alloc_new (w.alloc (.cells #[.slice da x.dr.length dc, .slice aa x.ad.length ac, .int .i64 x.lo, .int .i64 x.ne, .int .i64 x.ma] 52)) (.cells #[.slice none 0 0, .slice none 0 0, .int .i64 0, .int .i64 0, .int .i64 0] 56); rw [World.size_alloc] at this; exact this
  have c := five HX.out
  refine wp_region_noPanic ?_
  refine wp_region_held_drew (S := fun w' => w'.cell? ⟨w.heap.size, 0, none⟩ = some (.slice da x.dr.length dc) ∧ w'.cell? ⟨w.heap.size, 1, none⟩ = some (.slice aa x.ad.length ac) ∧ w'.cell? ⟨w.heap.size, 2, none⟩ = some (.int .i64 x.lo) ∧ w'.cell? ⟨w.heap.size, 3, none⟩ = some (.int .i64 x.ne) ∧ w'.cell? ⟨w.heap.size, 4, none⟩ = some (.int .i64 x.ma)) (by kernel_rfl) ?_ (fun hHeld => ?_)
  · (rw [← HW.out]; exact c)
  rw [← HW.out]
  clear HW
  refine wpAnyH_take (i := 0) (v := .pointer (some ⟨w.heap.size, 0, none⟩)) rfl (by kernel_rfl) (by kernel_rfl) (by kernel_rfl) (fun _ _ _ h => h) (Or.inl ⟨by rfl, ?_⟩) (by assumption) ?_
  · (intro w1 hSw; (try dsimp only at hSw); go_simp)
  simp only [List.getElem_toArray, List.getElem_cons_zero, Act.put, List.setIfInBounds_toArray, List.set_cons_zero, List.set_cons_succ]
  refine wpAnyH_take (i := 1) (v := .slice da x.dr.length dc) rfl (by kernel_rfl) (by kernel_rfl) (by kernel_rfl) (fun _ _ _ h => h) (Or.inl ⟨by rfl, ?_⟩) (by assumption) ?_
  · (intro w1 hSw; (try dsimp only at hSw); go_simp)
  simp only [List.getElem_toArray, List.getElem_cons_succ, List.getElem_cons_zero, Act.put, List.setIfInBounds_toArray, List.set_cons_zero, List.set_cons_succ]
  refine wpAnyH_take (i := 2) (v := .pointer (some ⟨w.heap.size, 1, none⟩)) rfl (by kernel_rfl) (by kernel_rfl) (by kernel_rfl) (fun _ _ _ h => h) (Or.inl ⟨by rfl, ?_⟩) (by assumption) ?_
  · (intro w1 hSw; (try dsimp only at hSw); go_simp)
  simp only [List.getElem_toArray, List.getElem_cons_succ, List.getElem_cons_zero, Act.put, List.setIfInBounds_toArray, List.set_cons_zero, List.set_cons_succ]
  refine wpAnyH_take (i := 3) (v := .slice aa x.ad.length ac) rfl (by kernel_rfl) (by kernel_rfl) (by kernel_rfl) (fun _ _ _ h => h) (Or.inl ⟨by rfl, ?_⟩) (by assumption) ?_
  · (intro w1 hSw; (try dsimp only at hSw); go_simp)
  simp only [List.getElem_toArray, List.getElem_cons_succ, List.getElem_cons_zero, Act.put, List.setIfInBounds_toArray, List.set_cons_zero, List.set_cons_succ]
  refine wpAnyH_take (i := 5) (v := .pointer (some ⟨w.heap.size, 2, none⟩)) rfl (by kernel_rfl) (by kernel_rfl) (by kernel_rfl) (fun _ _ _ h => h) (Or.inl ⟨by rfl, ?_⟩) (by assumption) ?_
  · (intro w1 hSw; (try dsimp only at hSw); go_simp)
  simp only [List.getElem_toArray, List.getElem_cons_succ, List.getElem_cons_zero, Act.put, List.setIfInBounds_toArray, List.set_cons_zero, List.set_cons_succ]
  refine wpAnyH_take (i := 6) (v := .int .i64 x.lo) rfl (by kernel_rfl) (by kernel_rfl) (by kernel_rfl) (fun _ _ _ h => h) (Or.inl ⟨by rfl, ?_⟩) (by assumption) ?_
  · (intro w1 hSw; (try dsimp only at hSw); go_simp)
  simp only [List.getElem_toArray, List.getElem_cons_succ, List.getElem_cons_zero, Act.put, List.setIfInBounds_toArray, List.set_cons_zero, List.set_cons_succ]
  refine wpAnyH_take (i := 7) (v := .pointer (some ⟨w.heap.size, 3, none⟩)) rfl (by kernel_rfl) (by kernel_rfl) (by kernel_rfl) (fun _ _ _ h => h) (Or.inl ⟨by rfl, ?_⟩) (by assumption) ?_
  · (intro w1 hSw; (try dsimp only at hSw); go_simp)
  simp only [List.getElem_toArray, List.getElem_cons_succ, List.getElem_cons_zero, Act.put, List.setIfInBounds_toArray, List.set_cons_zero, List.set_cons_succ]
  refine wpAnyH_take (i := 8) (v := .int .i64 x.ne) rfl (by kernel_rfl) (by kernel_rfl) (by kernel_rfl) (fun _ _ _ h => h) (Or.inl ⟨by rfl, ?_⟩) (by assumption) ?_
  · (intro w1 hSw; (try dsimp only at hSw); go_simp)
  simp only [List.getElem_toArray, List.getElem_cons_succ, List.getElem_cons_zero, Act.put, List.setIfInBounds_toArray, List.set_cons_zero, List.set_cons_succ]
  refine wpAnyH_take (i := 9) (v := .pointer (some ⟨w.heap.size, 4, none⟩)) rfl (by kernel_rfl) (by kernel_rfl) (by kernel_rfl) (fun _ _ _ h => h) (Or.inl ⟨by rfl, ?_⟩) (by assumption) ?_
  · (intro w1 hSw; (try dsimp only at hSw); go_simp)
  simp only [List.getElem_toArray, List.getElem_cons_succ, List.getElem_cons_zero, Act.put, List.setIfInBounds_toArray, List.set_cons_zero, List.set_cons_succ]
  refine wpAnyH_take (i := 10) (v := .int .i64 x.ma) rfl (by kernel_rfl) (by kernel_rfl) (by kernel_rfl) (fun _ _ _ h => h) (Or.inl ⟨by rfl, ?_⟩) (by assumption) ?_
  · (intro w1 hSw; (try dsimp only at hSw); go_simp)
  simp only [List.getElem_toArray, List.getElem_cons_succ, List.getElem_cons_zero, Act.put, List.setIfInBounds_toArray, List.set_cons_zero, List.set_cons_succ]
  clear c
  refine wpAnyH_ready (rs := [4]) (by kernel_rfl) (by simp) ?_
  refine AllReadyH.cons (o := _) rfl (fun K hK => ?_) AllReadyH.nil
  go_simp
  refine (runs13_any _ x.ad W (HE.out.below HB0.out).a hl).mono ?_
  rintro e W2 ⟨v2, rfl, hr2, hav2, hb2⟩
  obtain ⟨va, vc, hv2, _⟩ := hr2.form
  subst hv2
  have HR2 : Hid (RuR W2 (.slice va x.ad.length vc) x.ad) := hr2
  have HB2 : Hid (Below W.heap.size W W2) := hb2
  have HAV : Hid (AboveV W.heap.size (.slice va x.ad.length vc)) := hav2
  have HX2 : Hid (W2.heap[w.heap.size]? = some (.cells #[.slice da x.dr.length dc, .slice aa x.ad.length ac, .int .i64 x.lo, .int .i64 x.ne, .int .i64 x.ma] 52)) := (hb2.block _ (by omega)).trans HX.out
  have HZ2 : Hid (W2.heap[w.heap.size + 1]? = some (.cells #[.slice none 0 0, .slice none 0 0, .int .i64 0, .int .i64 0, .int .i64 0] 56)) := (hb2.block _ (by omega)).trans HZ.out
  have HOne : Hid (([.slice da x.dr.length dc, .slice va x.ad.length vc, .int .i64 x.lo, .int .i64 x.ne, .int .i64 x.ma] : List Value).toArray.all (·.oneCell') = true) := by unfold Hid; kernel_rfl
  clear hr2 hb2 hav2
  go_simp
  refine hK.out _ _ ?_ (fun hHeld => ?_)
  · exact five HX2.out
  clear hK K
  refine wpAnyH_take (i := 11) (v := .agg #[.slice da x.dr.length dc, .slice va x.ad.length vc, .int .i64 x.lo, .int .i64 x.ne, .int .i64 x.ma]) rfl (by kernel_rfl) (by kernel_rfl) (by kernel_rfl) (fun _ _ _ h => h) (Or.inl ⟨by rfl, ?_⟩) (by assumption) ?_
  · (intro w1 hSw; (try dsimp only at hSw); go_simp)
  simp only [List.getElem_toArray, List.getElem_cons_succ, List.getElem_cons_zero, Act.put, List.setIfInBounds_toArray, List.set_cons_zero, List.set_cons_succ]
  refine wpAnyH_ready (rs := [12]) (by kernel_rfl) (by simp) ?_
  refine AllReadyH.cons (o := _) rfl (fun K hK => ?_) AllReadyH.nil
  refine wp_storeN _ _ _ rfl (w.heap.size + 1) 0 [.slice da x.dr.length dc, .slice va x.ad.length vc, .int .i64 x.lo, .int .i64 x.ne, .int .i64 x.ma] rfl rfl _ _ HZ2.out (by simp) (by kernel_rfl) HOne.out (fun W9 hW9 => ?_)
  have HK9 := stW_all hW9 (by simp)
  have HB9 : Hid (Below w.heap.size W2 W9) := hW9.b _ (by omega)
  have HO9 : Hid (∀ k, k ≠ w.heap.size + 1 → W9.heap[k]? = W2.heap[k]?) := hW9.o
  clear hW9
  refine hK.out _ _ ?_ (fun hHeld => ?_)
  · exact five ((HO9.out _ (by omega)).trans HX2.out)
  clear hK K
  refine wpAnyH_done (by kernel_rfl) ?_ _
  refine NoPanic.normal ?_
  go_wp2_with fail
  refine bodyPost_ret (results_1c rfl _ _ (w.heap.size + 1) _ rfl (run_loadVar_row _ (w.heap.size + 1) _ _ _ (0, 0) _ HK9 Tryz.underlying56 rfl (by kernel_rfl))) rfl ?_
  exact ⟨_, rfl, ⟨(HE.out.below (HB0.out.trans ((HB2.out.mono HB0.out.size).trans HB9.out))).d, HR2.out.keepB fun b off n c e => HO9.out b (by have := HAV.out b off n c e; omega)⟩, HB0.out.trans ((HB2.out.mono HB0.out.size).trans HB9.out)⟩
end Go.Proofs.YtilbffgpniomcaaGreatDoor

/- law13: the reference's Same. -/
namespace Go.Proofs.YtilbffgpniomcaaGreatDoor
open Go.RowKit

/-- A state: its runs, and three numbers. -/
theorem four13 {w : World} {b : Nat} {T : TypeId} {c0 c1 c2 c3 : Value} (h : w.heap[b]? = some (.cells #[c0, c1, c2, c3] T)) : w.cell? ⟨b, 0, none⟩ = some c0 ∧ w.cell? ⟨b, 1, none⟩ = some c1 ∧ w.cell? ⟨b, 2, none⟩ = some c2 ∧ w.cell? ⟨b, 3, none⟩ = some c3 := by
  refine ⟨?_, ?_, ?_, ?_⟩ <;> simp [World.cell?, h]
def SmP (w : World) (p : Prop) (e : Ending) (w' : World) : Prop := ∃ r : Bool, e = .returned (.bool r) ∧ (p → r = true) ∧ Below w.heap.size w w'
set_option maxRecDepth 100000 in
set_option maxHeartbeats 4000000 in
theorem same13_any (va vb : Value) (La Lb : List Ru) (lo ne ma lo' ne' ma' : Int) (w : World) (ha : RuR w va La) (hb : RuR w vb Lb) :
    Calls Tryz.prog 15 #[.agg #[va, .int .i64 lo, .int .i64 ne, .int .i64 ma], .agg #[vb, .int .i64 lo', .int .i64 ne', .int .i64 ma']] w (SmP w (La = Lb ∧ lo = lo' ∧ ne = ne' ∧ ma = ma')) := by
  obtain ⟨aa, ac, rfl, hm1⟩ := ha.form
  obtain ⟨ba, bc, rfl, hm2⟩ := hb.form
  unfold maxLen at hm1 hm2
  obtain ⟨NA, HNA⟩ : ∃ n, Hid (La.length = n) := ⟨_, rfl⟩
  obtain ⟨NB, HNB⟩ : ∃ n, Hid (Lb.length = n) := ⟨_, rfl⟩
  rw [HNA.out] at ha hm1 ⊢
  rw [HNB.out] at hb hm2 ⊢
  have HA : Hid (RuR w (.slice aa NA ac) La) := ha
  have HBb : Hid (RuR w (.slice ba NB bc) Lb) := hb
  obtain ⟨W, HW⟩ := hid_ex ((w.alloc (.cells #[.slice aa NA ac, .int .i64 lo, .int .i64 ne, .int .i64 ma] 38)).alloc (.cells #[.slice ba NB bc, .int .i64 lo', .int .i64 ne', .int .i64 ma'] 38))
  have HB0 : Hid (Below w.heap.size w W) := by rw [HW.out]; exact ((Below.refl _ _).alloc (Nat.le_refl _) _).alloc (by simp) _
  have HX : Hid (W.heap[w.heap.size]? = some (.cells #[.slice aa NA ac, .int .i64 lo, .int .i64 ne, .int .i64 ma] 38)) := by
    unfold Hid; rw [HW.out]; exact (Below.heap_alloc _ _ _ (by simp)).trans (heap_alloc_new _ _)
  have HY : Hid (W.heap[w.heap.size + 1]? = some (.cells #[.slice ba NB bc, .int .i64 lo', .int .i64 ne', .int .i64 ma'] 38)) := by
    unfold Hid; rw [HW.out]; have := heap_alloc_new (w.alloc (.cells #[.slice aa NA ac, .int .i64 lo, .int .i64 ne, .int .i64 ma] 38)) (.cells #[.slice ba NB bc, .int .i64 lo', .int .i64 ne', .int .i64 ma'] 38); rw [World.size_alloc] at this; exact this
  obtain ⟨c0, c1, c2, c3⟩ := four13 HX.out
  obtain ⟨d0, d1, d2, d3⟩ := four13 HY.out
  have HBe := HB0
  rw [HW.out] at c0 c1 c2 c3 d0 d1 d2 d3 HBe
  clear ha hb
  by_cases h1 : NA = NB
  · by_cases h2 : lo = lo'
    · by_cases h3 : ne = ne'
      · by_cases h4 : ma = ma'
        · subst h2 h3 h4
          subst h1
          go_enter Tryz.func15, Tryz.ntmps15
          go_wp2_with fail
          rw [← HW.out]
          clear c0 c1 c2 c3 d0 d1 d2 d3 HW HBe
          obtain ⟨c0, _, _, _⟩ := four13 HX.out
          obtain ⟨d0, _, _, _⟩ := four13 HY.out
          go_loopw [5] (fun i wr => ∃ j : Nat, i = .int .i64 (j : Int) ∧ j ≤ NA ∧ Hid (Below W.heap.size W wr)) (fun i _ => NA - (intOf i).toNat)
          case atStart => exact ⟨0, rfl, by omega, Below.refl _ _⟩
          case round =>
            obtain ⟨j, rfl, hj, HB⟩ := hrel
            have hzW : w.heap.size + 1 < W.heap.size := (Array.getElem?_eq_some_iff.1 HY.out).1
            have HBw : Hid (Below w.heap.size w wr) := HB0.out.trans (HB.out.mono HB0.out.size)
            clear c0 d0
            obtain ⟨c0, _, _, _⟩ := four13 ((HB.out.block w.heap.size (by omega)).trans HX.out)
            obtain ⟨d0, _, _, _⟩ := four13 ((HB.out.block (w.heap.size + 1) (by omega)).trans HY.out)
            by_cases hlt : j < NA
            · have hlt' : (j : Int) < (NA : Int) := by omega
              obtain ⟨r, Hr⟩ := hid_ex (La[j]'(by rw [HNA.out]; exact hlt))
              obtain ⟨s, Hs⟩ := hid_ex (Lb[j]'(by rw [HNB.out]; exact hlt))
              obtain ⟨b, off, rfl, hbw, e0, e1, e2⟩ := (HA.out.below HBw.out).at (by rw [HNA.out]; exact hlt) Hr.out
              obtain ⟨b', off', rfl, hbw', g0, g1, g2⟩ := (HBb.out.below HBw.out).at (by rw [HNB.out]; exact hlt) Hs.out
              have HC : Hid ((wr.drew.cell? ⟨w.heap.size, 0, none⟩ = some (.slice (some ⟨b, off, none⟩) NA ac) ∧ wr.drew.cell? ⟨w.heap.size + 1, 0, none⟩ = some (.slice (some ⟨b', off', none⟩) NA bc)) ∧ (wr.drew.cell? ⟨b, off + j * 3, none⟩ = some (.int .i64 r.f) ∧ wr.drew.cell? ⟨b, off + j * 3 + 1, none⟩ = some (.int .i64 r.l) ∧ wr.drew.cell? ⟨b, off + j * 3 + 2, none⟩ = some (.int .i64 r.c)) ∧ (wr.drew.cell? ⟨b', off' + j * 3, none⟩ = some (.int .i64 s.f) ∧ wr.drew.cell? ⟨b', off' + j * 3 + 1, none⟩ = some (.int .i64 s.l) ∧ wr.drew.cell? ⟨b', off' + j * 3 + 2, none⟩ = some (.int .i64 s.c))) := ⟨⟨c0, d0⟩, ⟨e0, e1, e2⟩, ⟨g0, g1, g2⟩⟩
              go_wp2_with fail
              refine wp_region_noPanic ?_
              refine wp_region_held_drew (S := fun w' => (w'.cell? ⟨w.heap.size, 0, none⟩ = some (.slice (some ⟨b, off, none⟩) NA ac) ∧ w'.cell? ⟨w.heap.size + 1, 0, none⟩ = some (.slice (some ⟨b', off', none⟩) NA bc)) ∧ (w'.cell? ⟨b, off + j * 3, none⟩ = some (.int .i64 r.f) ∧ w'.cell? ⟨b, off + j * 3 + 1, none⟩ = some (.int .i64 r.l) ∧ w'.cell? ⟨b, off + j * 3 + 2, none⟩ = some (.int .i64 r.c)) ∧ (w'.cell? ⟨b', off' + j * 3, none⟩ = some (.int .i64 s.f) ∧ w'.cell? ⟨b', off' + j * 3 + 1, none⟩ = some (.int .i64 s.l) ∧ w'.cell? ⟨b', off' + j * 3 + 2, none⟩ = some (.int .i64 s.c))) (by kernel_rfl) ?_ (fun hHeld => ?_)
              · exact HC.out
              refine wpAnyH_take (i := 0) (v := .pointer (some ⟨w.heap.size, 0, none⟩)) rfl (by kernel_rfl) (by kernel_rfl) (by kernel_rfl) (fun _ _ _ h => h) (Or.inl ⟨by rfl, ?_⟩) (by assumption) ?_
              · (intro w1 hSw; (try dsimp only at hSw); go_simp)
              simp only [List.getElem_toArray, List.getElem_cons_zero, Act.put, List.setIfInBounds_toArray, List.set_cons_zero, List.set_cons_succ]
              refine wpAnyH_take (i := 1) (v := .slice (some ⟨b, off, none⟩) NA ac) rfl (by kernel_rfl) (by kernel_rfl) (by kernel_rfl) (fun _ _ _ h => h) (Or.inl ⟨by rfl, ?_⟩) (by assumption) ?_
              · (intro w1 hSw; (try dsimp only at hSw); go_simp)
              simp only [List.getElem_toArray, List.getElem_cons_succ, List.getElem_cons_zero, Act.put, List.setIfInBounds_toArray, List.set_cons_zero, List.set_cons_succ]
              refine wpAnyH_take (i := 2) (v := .int .i64 (j : Int)) rfl (by kernel_rfl) (by kernel_rfl) (by kernel_rfl) (fun _ _ _ h => h) (Or.inl ⟨by rfl, ?_⟩) (by assumption) ?_
              · (intro w1 hSw; (try dsimp only at hSw); go_simp)
              simp only [List.getElem_toArray, List.getElem_cons_succ, List.getElem_cons_zero, Act.put, List.setIfInBounds_toArray, List.set_cons_zero, List.set_cons_succ]
              refine wpAnyH_take (i := 3) (v := .pointer (some ⟨b, off + j * 3, none⟩)) rfl (by kernel_rfl) (by kernel_rfl) (by kernel_rfl) (fun _ _ _ h => h) (Or.inl ⟨by rfl, ?_⟩) (by assumption) ?_
              · (intro w1 hSw; (try dsimp only at hSw); go_simp)
              simp only [List.getElem_toArray, List.getElem_cons_succ, List.getElem_cons_zero, Act.put, List.setIfInBounds_toArray, List.set_cons_zero, List.set_cons_succ]
              refine wpAnyH_take (i := 4) (v := .agg #[.int .i64 r.f, .int .i64 r.l, .int .i64 r.c]) rfl (by kernel_rfl) (by kernel_rfl) (by kernel_rfl) (fun _ _ _ h => h) (Or.inl ⟨by rfl, ?_⟩) (by assumption) ?_
              · (intro w1 hSw; (try dsimp only at hSw); go_simp)
              simp only [List.getElem_toArray, List.getElem_cons_succ, List.getElem_cons_zero, Act.put, List.setIfInBounds_toArray, List.set_cons_zero, List.set_cons_succ]
              refine wpAnyH_take (i := 5) (v := .pointer (some ⟨w.heap.size + 1, 0, none⟩)) rfl (by kernel_rfl) (by kernel_rfl) (by kernel_rfl) (fun _ _ _ h => h) (Or.inl ⟨by rfl, ?_⟩) (by assumption) ?_
              · (intro w1 hSw; (try dsimp only at hSw); go_simp)
              simp only [List.getElem_toArray, List.getElem_cons_succ, List.getElem_cons_zero, Act.put, List.setIfInBounds_toArray, List.set_cons_zero, List.set_cons_succ]
              refine wpAnyH_take (i := 6) (v := .slice (some ⟨b', off', none⟩) NA bc) rfl (by kernel_rfl) (by kernel_rfl) (by kernel_rfl) (fun _ _ _ h => h) (Or.inl ⟨by rfl, ?_⟩) (by assumption) ?_
              · (intro w1 hSw; (try dsimp only at hSw); go_simp)
              simp only [List.getElem_toArray, List.getElem_cons_succ, List.getElem_cons_zero, Act.put, List.setIfInBounds_toArray, List.set_cons_zero, List.set_cons_succ]
              refine wpAnyH_take (i := 7) (v := .int .i64 (j : Int)) rfl (by kernel_rfl) (by kernel_rfl) (by kernel_rfl) (fun _ _ _ h => h) (Or.inl ⟨by rfl, ?_⟩) (by assumption) ?_
              · (intro w1 hSw; (try dsimp only at hSw); go_simp)
              simp only [List.getElem_toArray, List.getElem_cons_succ, List.getElem_cons_zero, Act.put, List.setIfInBounds_toArray, List.set_cons_zero, List.set_cons_succ]
              refine wpAnyH_take (i := 8) (v := .pointer (some ⟨b', off' + j * 3, none⟩)) rfl (by kernel_rfl) (by kernel_rfl) (by kernel_rfl) (fun _ _ _ h => h) (Or.inl ⟨by rfl, ?_⟩) (by assumption) ?_
              · (intro w1 hSw; (try dsimp only at hSw); go_simp)
              simp only [List.getElem_toArray, List.getElem_cons_succ, List.getElem_cons_zero, Act.put, List.setIfInBounds_toArray, List.set_cons_zero, List.set_cons_succ]
              refine wpAnyH_take (i := 9) (v := .agg #[.int .i64 s.f, .int .i64 s.l, .int .i64 s.c]) rfl (by kernel_rfl) (by kernel_rfl) (by kernel_rfl) (fun _ _ _ h => h) (Or.inl ⟨by rfl, ?_⟩) (by assumption) ?_
              · (intro w1 hSw; (try dsimp only at hSw); go_simp)
              simp only [List.getElem_toArray, List.getElem_cons_succ, List.getElem_cons_zero, Act.put, List.setIfInBounds_toArray, List.set_cons_zero, List.set_cons_succ]
              clear c0 d0 e0 e1 e2 g0 g1 g2
              have HBd : Hid (Below W.heap.size W wr.drew) := HB.out.drew
              have HBv : Hid (Below w.heap.size w wr.drew) := HBw.out.drew
              by_cases hq : r = s
              · subst hq
                refine wpAnyH_ready (rs := [10]) (by kernel_rfl) (by simp) ?_
                refine AllReadyH.cons (o := _) rfl (fun K hK => ?_) AllReadyH.nil
                go_simp
                refine hK.out _ _ ?_ (fun hHeld => ?_)
                · exact HC.out
                clear hK K
                refine wpAnyH_done (by kernel_rfl) ?_ _
                refine NoPanic.normal ?_
                clear HC
                go_wp2_with fail
                go_roundw
                case rel => exact ⟨j + 1, by go_num, by omega, HBd⟩
                case measure => simp [intOf]; omega
              · have HQ : Hid (¬ r = s) := hq
                have HIf : Hid (∀ (x y : Result Next), (if r.f = s.f then if r.l = s.l then if r.c = s.c then x else y else y else y) = y) := fun x y => by
                  by_cases h1 : r.f = s.f
                  · by_cases h2 : r.l = s.l
                    · by_cases h3 : r.c = s.c
                      · exact absurd (by cases r; cases s; simp_all) hq
                      · rw [if_pos h1, if_pos h2, if_neg h3]
                    · rw [if_pos h1, if_neg h2]
                  · rw [if_neg h1]
                clear hq
                refine wpAnyH_ready (rs := [10]) (by kernel_rfl) (by simp) ?_
                refine AllReadyH.cons (o := _) rfl (fun K hK => ?_) AllReadyH.nil
                go_simp
                rw [HIf.out]
                go_simp
                refine hK.out _ _ ?_ (fun hHeld => ?_)
                · exact HC.out
                clear hK K
                refine wpAnyH_done (by kernel_rfl) ?_ _
                refine NoPanic.normal ?_
                clear HC
                go_wp2_with fail
                go_ret
                exact ⟨false, rfl, fun h => absurd (by rw [Hr.out, Hs.out]; simp [h.1]) HQ.out, HBv.out⟩
            · have hlt' : ¬ (j : Int) < (NA : Int) := by omega
              go_wp2_with fail
              go_ret
              exact ⟨true, rfl, fun _ => rfl, HBw.out⟩
        · have h4' : (ma != ma') = true := by simpa using h4
          have h1' : ((NA : Int) != (NB : Int)) = false := by rw [h1]; simp
          have H1 : Hid (NA = NB) := h1
          subst h2 h3
          clear h1
          clear HW
          go_enter Tryz.func15, Tryz.ntmps15
          go_wp2_with fail
          go_ret
          exact ⟨false, rfl, fun h => absurd h.2.2.2 h4, HBe.out⟩
      · have h3' : (ne != ne') = true := by simpa using h3
        have h1' : ((NA : Int) != (NB : Int)) = false := by rw [h1]; simp
        have H1 : Hid (NA = NB) := h1
        subst h2
        clear h1
        clear HW
        go_enter Tryz.func15, Tryz.ntmps15
        go_wp2_with fail
        go_ret
        exact ⟨false, rfl, fun h => absurd h.2.2.1 h3, HBe.out⟩
    · have h2' : (lo != lo') = true := by simpa using h2
      have h1' : ((NA : Int) != (NB : Int)) = false := by rw [h1]; simp
      have H1 : Hid (NA = NB) := h1
      clear h1
      clear HW
      go_enter Tryz.func15, Tryz.ntmps15
      go_wp2_with fail
      go_ret
      exact ⟨false, rfl, fun h => absurd h.2.1 h2, HBe.out⟩
  · have h1' : ((NA : Int) != (NB : Int)) = true := by simpa using fun h : (NA : Int) = (NB : Int) => h1 (by omega)
    clear HW
    go_enter Tryz.func15, Tryz.ntmps15
    go_wp2_with fail
    go_ret
    exact ⟨false, rfl, fun h => absurd (by rw [← HNA.out, ← HNB.out, h.1]) h1, HBe.out⟩
end Go.Proofs.YtilbffgpniomcaaGreatDoor

/- law13: sameEdit of edits that are the same. -/
namespace Go.Proofs.YtilbffgpniomcaaGreatDoor
open Go.RowKit

end Go.Proofs.YtilbffgpniomcaaGreatDoor

/- manifest: the order of runs. -/
namespace Go.Proofs.YtilbffgpniomcaaGreatDoor
open Go.RowKit

def cmp13 (a b : Int) : Int := if a < b then -1 else if b < a then 1 else 0
def or13 (x y : Int) : Int := if x = 0 then y else x
def ord13 (a b : Ru) : Int := or13 (cmp13 a.l b.l) (cmp13 b.f a.f)
theorem isNaN13_any (a : Int) (w : World) : Calls Tryz.prog 116 #[.int .i64 a] w fun e w' => e = .returned (.bool false) ∧ w' = w := by
  go_enter Tryz.func116, Tryz.ntmps116
  go_wp2_with fail
  go_ret
  exact ⟨by simp, rfl⟩
theorem cmp13_any (a b : Int) (w : World) : Calls Tryz.prog 91 #[.int .i64 a, .int .i64 b] w fun e w' => e = .returned (.int .i64 (cmp13 a b)) ∧ w' = w := by
  go_enter Tryz.func91, Tryz.ntmps91
  go_wp2_with fail
  refine (isNaN13_any _ _).mono ?_
  rintro e w1 ⟨rfl, hw1⟩
  subst w1
  go_wp2_with fail
  refine (isNaN13_any _ _).mono ?_
  rintro e w1 ⟨rfl, hw1⟩
  subst w1
  by_cases h1 : a < b
  · have HZ : Hid (cmp13 a b = -1) := by unfold Hid cmp13; rw [if_pos h1]
    go_wp2_with fail
    go_ret
    exact ⟨by rw [HZ.out]; rfl, rfl⟩
  · by_cases h2 : b < a
    · have HZ : Hid (cmp13 a b = 1) := by unfold Hid cmp13; rw [if_neg h1, if_pos h2]
      go_wp2_with fail
      go_ret
      exact ⟨by rw [HZ.out]; rfl, rfl⟩
    · have HZ : Hid (cmp13 a b = 0) := by unfold Hid cmp13; rw [if_neg h1, if_neg h2]
      go_wp2_with fail
      go_ret
      exact ⟨by rw [HZ.out]; rfl, rfl⟩
set_option maxRecDepth 100000 in
theorem or13_any (x y : Int) (g : Nat) (w : World) (h0 : w.cell? ⟨g, 0, none⟩ = some (.int .i64 x)) (h1 : w.cell? ⟨g, 1, none⟩ = some (.int .i64 y)) : Calls Tryz.prog 90 #[.slice (some ⟨g, 0, none⟩) 2 2] w fun e w' => e = .returned (.int .i64 (or13 x y)) ∧ w' = w := by
  have H0 : Hid (w.cell? ⟨g, 0, none⟩ = some (.int .i64 x)) := h0
  have H1 : Hid (w.cell? ⟨g, 1, none⟩ = some (.int .i64 y)) := h1
  clear h0 h1
  go_enter Tryz.func90, Tryz.ntmps90
  go_wp2_with fail
  go_loopw [8] (fun i wr => ∃ j : Nat, i = .int .i64 (j : Int) ∧ j ≤ 2 ∧ wr = w ∧ Hid (0 < j → x = 0) ∧ Hid (1 < j → y = 0)) (fun i _ => 2 - (intOf i).toNat)
  case atStart => exact ⟨0, rfl, by omega, rfl, fun h => absurd h (by omega), fun h => absurd h (by omega)⟩
  case round =>
    obtain ⟨j, rfl, hj, rfl, HX, HY⟩ := hrel
    rcases (by omega : j = 0 ∨ j = 1 ∨ j = 2) with rfl | rfl | rfl
    · have c0 := H0.out
      by_cases hx : x = 0
      · subst hx
        go_wp2_with fail
        go_roundw
        case rel => exact ⟨1, rfl, by omega, trivial, (by intro _; trivial), fun h => absurd h (by omega)⟩
        case measure => simp [intOf]
      · have hx' : (x != 0) = true := by simpa using hx
        have HV : Hid (or13 x y = x) := by unfold Hid or13; rw [if_neg hx]
        go_wp2_with fail
        go_ret
        exact ⟨by rw [HV.out]; rfl, rfl⟩
    · have c1 := H1.out
      by_cases hy : y = 0
      · subst hy
        go_wp2_with fail
        go_roundw
        case rel => exact ⟨2, rfl, by omega, trivial, fun _ => HX.out (by omega), (by intro _; trivial)⟩
        case measure => simp [intOf]
      · have hy' : (y != 0) = true := by simpa using hy
        have HV : Hid (or13 x y = y) := by unfold Hid or13; rw [if_pos (HX.out (by omega))]
        go_wp2_with fail
        go_ret
        exact ⟨by rw [HV.out]; rfl, rfl⟩
    · have HV : Hid (or13 x y = 0) := by unfold Hid or13; rw [if_pos (HX.out (by omega))]; exact HY.out (by omega)
      go_wp2_with fail
      go_ret
      exact ⟨by rw [HV.out]; rfl, rfl⟩
/-- Blocks behind a world, and draws. -/
def Grew (W w' : World) : Prop := ∃ q os, w' = Go.Sort.grow (W.drewN q) os
set_option maxRecDepth 100000 in
set_option maxHeartbeats 2000000 in
theorem order13_any (a b : Ru) (W : World) : Calls Tryz.prog 64 #[.agg #[.int .i64 a.f, .int .i64 a.l, .int .i64 a.c], .agg #[.int .i64 b.f, .int .i64 b.l, .int .i64 b.c]] W fun e w' => e = .returned (.int .i64 (ord13 a b)) ∧ Grew W w' := by
  go_enter Tryz.func64, Tryz.ntmps64
  go_wp2_with fail
  obtain ⟨W1, HW1⟩ := hid_ex (((W.alloc (.cells #[.int .i64 a.f, .int .i64 a.l, .int .i64 a.c] 72)).alloc (.cells #[.int .i64 b.f, .int .i64 b.l, .int .i64 b.c] 72)).drew)
  have HG : Hid (W1 = Go.Sort.grow W.drew #[.cells #[.int .i64 a.f, .int .i64 a.l, .int .i64 a.c] 72, .cells #[.int .i64 b.f, .int .i64 b.l, .int .i64 b.c] 72]) := by
    unfold Hid; rw [HW1.out, Go.Sort.alloc_eq_grow, Go.Sort.alloc_eq_grow, Go.Sort.grow_grow]; rfl
  have hsz : W1.heap.size = W.heap.size + 2 := by rw [HW1.out]; simp [World.drew]
  have HX : Hid (W1.heap[W.heap.size]? = some (.cells (r3L a).toArray 72)) := by
    unfold Hid; rw [HW1.out]; exact (Below.heap_alloc _ _ _ (by simp)).trans (heap_alloc_new _ _)
  have HY : Hid (W1.heap[W.heap.size + 1]? = some (.cells (r3L b).toArray 72)) := by
    unfold Hid; rw [HW1.out]; have := heap_alloc_new (W.alloc (.cells #[.int .i64 a.f, .int .i64 a.l, .int .i64 a.c] 72)) (.cells #[.int .i64 b.f, .int .i64 b.l, .int .i64 b.c] 72); rw [World.size_alloc] at this; exact this
  have HSz : Hid (W1.heap.size = W.heap.size + 2) := hsz
  have HC : Hid ((W1.cell? ⟨W.heap.size, 0, none⟩ = some (.int .i64 a.f) ∧ W1.cell? ⟨W.heap.size, 1, none⟩ = some (.int .i64 a.l)) ∧ W1.cell? ⟨W.heap.size + 1, 0, none⟩ = some (.int .i64 b.f) ∧ W1.cell? ⟨W.heap.size + 1, 1, none⟩ = some (.int .i64 b.l)) := ⟨⟨(three HX.out).1, (three HX.out).2.1⟩, (three HY.out).1, (three HY.out).2.1⟩
  clear hsz
  obtain ⟨x, Hx⟩ := hid_ex (cmp13 a.l b.l)
  obtain ⟨y, Hy⟩ := hid_ex (cmp13 b.f a.f)
  have HO : Hid (ord13 a b = or13 x y) := by unfold Hid ord13; rw [Hx.out, Hy.out]
  have HBa : Hid (Below W1.heap.size W1 (W1.alloc (.cells #[.int .i64 x, .int .i64 y] 3))) := (Below.refl _ _).alloc (Nat.le_refl _) _
  have HN : Hid ((W1.alloc (.cells #[.int .i64 x, .int .i64 y] 3)).cell? ⟨W1.heap.size, 0, none⟩ = some (.int .i64 x) ∧ (W1.alloc (.cells #[.int .i64 x, .int .i64 y] 3)).cell? ⟨W1.heap.size, 1, none⟩ = some (.int .i64 y)) := by
    have e := heap_alloc_new W1 (.cells #[.int .i64 x, .int .i64 y] 3)
    exact ⟨by simp only [World.cell?, e]; rfl, by simp only [World.cell?, e]; rfl⟩
  have HC2 : Hid (((W1.alloc (.cells #[.int .i64 x, .int .i64 y] 3)).cell? ⟨W.heap.size, 0, none⟩ = some (.int .i64 a.f) ∧ (W1.alloc (.cells #[.int .i64 x, .int .i64 y] 3)).cell? ⟨W.heap.size, 1, none⟩ = some (.int .i64 a.l)) ∧ (W1.alloc (.cells #[.int .i64 x, .int .i64 y] 3)).cell? ⟨W.heap.size + 1, 0, none⟩ = some (.int .i64 b.f) ∧ (W1.alloc (.cells #[.int .i64 x, .int .i64 y] 3)).cell? ⟨W.heap.size + 1, 1, none⟩ = some (.int .i64 b.l)) := by
    have e := HSz.out
    refine ⟨⟨(HBa.out.cell (p := ⟨_, _, none⟩) ?_).trans HC.out.1.1, (HBa.out.cell (p := ⟨_, _, none⟩) ?_).trans HC.out.1.2⟩, (HBa.out.cell (p := ⟨_, _, none⟩) ?_).trans HC.out.2.1, (HBa.out.cell (p := ⟨_, _, none⟩) ?_).trans HC.out.2.2⟩ <;> (simp only; omega)
  have HE : Hid (Grew W (W1.alloc (.cells #[.int .i64 x, .int .i64 y] 3))) := ⟨1, _, by rw [Go.Sort.alloc_eq_grow, HG.out, Go.Sort.grow_grow]; rfl⟩
  refine wp_region_noPanic ?_
  refine wp_region_held_drew (S := fun w' => (w'.cell? ⟨W.heap.size, 0, none⟩ = some (.int .i64 a.f) ∧ w'.cell? ⟨W.heap.size, 1, none⟩ = some (.int .i64 a.l)) ∧ w'.cell? ⟨W.heap.size + 1, 0, none⟩ = some (.int .i64 b.f) ∧ w'.cell? ⟨W.heap.size + 1, 1, none⟩ = some (.int .i64 b.l)) (by kernel_rfl) ?_ (fun hHeld => ?_)
  · (rw [← HW1.out]; exact HC.out)
  rw [← HW1.out]
  clear HW1
  refine wpAnyH_take (i := 0) (v := .pointer (some ⟨W.heap.size, 1, none⟩)) rfl (by kernel_rfl) (by kernel_rfl) (by kernel_rfl) (fun _ _ _ h => h) (Or.inl ⟨by rfl, ?_⟩) (by assumption) ?_
  · (intro w1 hSw; (try dsimp only at hSw); go_simp)
  simp only [List.getElem_toArray, List.getElem_cons_zero, Act.put, List.setIfInBounds_toArray, List.set_cons_zero, List.set_cons_succ]
  refine wpAnyH_take (i := 1) (v := .int .i64 a.l) rfl (by kernel_rfl) (by kernel_rfl) (by kernel_rfl) (fun _ _ _ h => h) (Or.inl ⟨by rfl, ?_⟩) (by assumption) ?_
  · (intro w1 hSw; (try dsimp only at hSw); go_simp)
  simp only [List.getElem_toArray, List.getElem_cons_succ, List.getElem_cons_zero, Act.put, List.setIfInBounds_toArray, List.set_cons_zero, List.set_cons_succ]
  refine wpAnyH_take (i := 2) (v := .pointer (some ⟨W.heap.size + 1, 1, none⟩)) rfl (by kernel_rfl) (by kernel_rfl) (by kernel_rfl) (fun _ _ _ h => h) (Or.inl ⟨by rfl, ?_⟩) (by assumption) ?_
  · (intro w1 hSw; (try dsimp only at hSw); go_simp)
  simp only [List.getElem_toArray, List.getElem_cons_succ, List.getElem_cons_zero, Act.put, List.setIfInBounds_toArray, List.set_cons_zero, List.set_cons_succ]
  refine wpAnyH_take (i := 3) (v := .int .i64 b.l) rfl (by kernel_rfl) (by kernel_rfl) (by kernel_rfl) (fun _ _ _ h => h) (Or.inl ⟨by rfl, ?_⟩) (by assumption) ?_
  · (intro w1 hSw; (try dsimp only at hSw); go_simp)
  simp only [List.getElem_toArray, List.getElem_cons_succ, List.getElem_cons_zero, Act.put, List.setIfInBounds_toArray, List.set_cons_zero, List.set_cons_succ]
  refine wpAnyH_take (i := 5) (v := .pointer (some ⟨W.heap.size + 1, 0, none⟩)) rfl (by kernel_rfl) (by kernel_rfl) (by kernel_rfl) (fun _ _ _ h => h) (Or.inl ⟨by rfl, ?_⟩) (by assumption) ?_
  · (intro w1 hSw; (try dsimp only at hSw); go_simp)
  simp only [List.getElem_toArray, List.getElem_cons_succ, List.getElem_cons_zero, Act.put, List.setIfInBounds_toArray, List.set_cons_zero, List.set_cons_succ]
  refine wpAnyH_take (i := 6) (v := .int .i64 b.f) rfl (by kernel_rfl) (by kernel_rfl) (by kernel_rfl) (fun _ _ _ h => h) (Or.inl ⟨by rfl, ?_⟩) (by assumption) ?_
  · (intro w1 hSw; (try dsimp only at hSw); go_simp)
  simp only [List.getElem_toArray, List.getElem_cons_succ, List.getElem_cons_zero, Act.put, List.setIfInBounds_toArray, List.set_cons_zero, List.set_cons_succ]
  refine wpAnyH_take (i := 7) (v := .pointer (some ⟨W.heap.size, 0, none⟩)) rfl (by kernel_rfl) (by kernel_rfl) (by kernel_rfl) (fun _ _ _ h => h) (Or.inl ⟨by rfl, ?_⟩) (by assumption) ?_
  · (intro w1 hSw; (try dsimp only at hSw); go_simp)
  simp only [List.getElem_toArray, List.getElem_cons_succ, List.getElem_cons_zero, Act.put, List.setIfInBounds_toArray, List.set_cons_zero, List.set_cons_succ]
  refine wpAnyH_take (i := 8) (v := .int .i64 a.f) rfl (by kernel_rfl) (by kernel_rfl) (by kernel_rfl) (fun _ _ _ h => h) (Or.inl ⟨by rfl, ?_⟩) (by assumption) ?_
  · (intro w1 hSw; (try dsimp only at hSw); go_simp)
  simp only [List.getElem_toArray, List.getElem_cons_succ, List.getElem_cons_zero, Act.put, List.setIfInBounds_toArray, List.set_cons_zero, List.set_cons_succ]
  refine wpAnyH_ready (rs := [4]) (by kernel_rfl) (by simp) ?_
  refine AllReadyH.cons (o := _) rfl (fun K hK => ?_) AllReadyH.nil
  go_simp
  refine (cmp13_any _ _ _).mono ?_
  rintro e w1 ⟨rfl, hw1⟩
  subst w1
  rw [← Hx.out]
  go_simp
  refine hK.out _ _ ?_ (fun hHeld => ?_)
  · exact HC.out
  clear hK K
  refine wpAnyH_ready (rs := [9]) (by kernel_rfl) (by simp) ?_
  refine AllReadyH.cons (o := _) rfl (fun K hK => ?_) AllReadyH.nil
  go_simp
  refine (cmp13_any _ _ _).mono ?_
  rintro e w1 ⟨rfl, hw1⟩
  subst w1
  rw [← Hy.out]
  go_simp
  refine hK.out _ _ ?_ (fun hHeld => ?_)
  · exact HC.out
  clear hK K
  refine wpAnyH_ready (rs := [10]) (by kernel_rfl) (by simp) ?_
  refine AllReadyH.cons (o := _) rfl (fun K hK => ?_) AllReadyH.nil
  go_simp
  refine hK.out _ _ ?_ (fun hHeld => ?_)
  · exact HC2.out
  clear hK K
  refine wpAnyH_ready (rs := [11]) (by kernel_rfl) (by simp) ?_
  refine AllReadyH.cons (o := _) rfl (fun K hK => ?_) AllReadyH.nil
  go_simp
  refine (or13_any x y _ _ HN.out.1 HN.out.2).mono ?_
  rintro e w1 ⟨rfl, hw1⟩
  subst w1
  rw [← HO.out]
  go_simp
  refine hK.out _ _ ?_ (fun hHeld => ?_)
  · exact HC2.out
  clear hK K
  refine wpAnyH_ready (rs := [12]) (by kernel_rfl) (by simp) ?_
  refine AllReadyH.cons (o := _) rfl (fun K hK => ?_) AllReadyH.nil
  go_simp
  refine hK.out _ _ ?_ (fun hHeld => ?_)
  · exact HC2.out
  clear hK K
  refine wpAnyH_done (by kernel_rfl) ?_ _
  refine NoPanic.normal ?_
  go_wp2_with fail
  go_ret
  exact ⟨rfl, HE.out⟩
end Go.Proofs.YtilbffgpniomcaaGreatDoor
