/- The reference's feed in memory, and its calls (written by mkrf1.py). -/
import Derived.Test.YtkamambgpcdonaaOQ
import Derived.Test.YtkamambgpcdonaaFE3
namespace Go.Proofs.Ytkamambgpcdonaa
open Go.RowKit Go.Conc

theorem hid_exr {α : Type} (a : α) : ∃ x, Hid (x = a) := ⟨a, rfl⟩
theorem wp_app_runQ {w w' : World} {o : Oper} {a : Act} {K : Act → World → Prop} {Q : Exit → Act → World → Prop} (s x : Operand) (t ty : TypeId) (ho : o.op = .call { callee := .builtin .append, args := #[s, x], argTypes := #[t, t] }) (hty : o.type = ty) (v vx v' : Value) (hs : a.eval s = v) (hx : a.eval x = vx)
    (hrun : (Builtin.append_ #[t, t] ty #[v, vx]).run Try.prog w = .ok v' w') (h : K (a.put o.dst v') w') : o.wp Try.prog a w K Q := by
  subst hty
  unfold Oper.wp
  simp [execOp, ho, resolve, invoke, builtin, hs, hx, hrun, Result.andThen]
  exact h
theorem wpList_app_runQ {w w' : World} {ops : Array Oper} {rest : List Oper} {o : Oper} {a : Act} {Q : Exit → Act → World → Prop} (hgd : o.guard = none) (s x : Operand) (t ty : TypeId) (ho : o.op = .call { callee := .builtin .append, args := #[s, x], argTypes := #[t, t] }) (hty : o.type = ty) (v vx v' : Value) (hs : a.eval s = v) (hx : a.eval x = vx)
    (hrun : (Builtin.append_ #[t, t] ty #[v, vx]).run Try.prog w = .ok v' w') (h : wpList Try.prog ops Q rest (a.put o.dst v') w') : wpList Try.prog ops Q (o :: rest) a w :=
  wpList_plain hgd fun _ hK => wp_app_runQ s x t ty ho hty v vx v' hs hx hrun (hK _ _ h)
/-- The reference's feed: its box, its two rows; all of it below M. -/
structure RF (w : World) (base M gp : Nat) (v1 v2 : Value) (n : Nat) (U O : List Int) (cl : Bool) : Prop where
  g0 : base ≤ gp
  gM : gp < M
  n64 : n ≤ 64
  box : w.heap[gp]? = some (.cells #[.int .i64 (n : Int), v1, v2, .bool cl] 40)
  r1 : OwnQ w (gp + 1) M v1 U
  r2 : OwnQ w (gp + 1) M v2 O
  apt : ∀ b, v1.ownBlock = some b → v2.ownBlock ≠ some b
  lu : U.length ≤ n
  lo : O.length ≤ n
theorem RF.kept {w w' : World} {base M M' gp n : Nat} {v1 v2 : Value} {U O : List Int} {cl : Bool} (h : RF w base M gp v1 v2 n U O cl) (hM : M ≤ M') (hb : ∀ k, base ≤ k → k < M → w'.heap[k]? = w.heap[k]?) : RF w' base M' gp v1 v2 n U O cl :=
  ⟨h.g0, by have := h.gM; omega, h.n64, (hb _ h.g0 h.gM).trans h.box, h.r1.kept hM (fun k hk => hb k (by have := h.r1.blk k hk; have := h.g0; omega) (h.r1.blk k hk).2), h.r2.kept hM (fun k hk => hb k (by have := h.r2.blk k hk; have := h.g0; omega) (h.r2.blk k hk).2), h.apt, h.lu, h.lo⟩
/-- What a call of the reference leaves: all below base, and all from M on that was there. -/
structure RfL (w w' : World) (base M : Nat) : Prop where
  bl : Below base w w'
  hi : ∀ k, M ≤ k → k < w.heap.size → w'.heap[k]? = w.heap[k]?
theorem RfL.refl (w : World) (base M : Nat) : RfL w w base M := ⟨Below.refl _ _, fun _ _ _ => rfl⟩
theorem RF.cells {w : World} {base M gp n : Nat} {v1 v2 : Value} {U O : List Int} {cl : Bool} (h : RF w base M gp v1 v2 n U O cl) :
    w.cell? ⟨gp, 0, none⟩ = some (.int .i64 (n : Int)) ∧ w.cell? ⟨gp, 1, none⟩ = some v1 ∧ w.cell? ⟨gp, 2, none⟩ = some v2 ∧ w.cell? ⟨gp, 3, none⟩ = some (.bool cl) ∧ ∀ o, w.frozen? ⟨gp, o, none⟩ = false := by
  refine ⟨?_, ?_, ?_, ?_, fun o => ?_⟩
  · simp [World.cell?, h.box]
  · simp [World.cell?, h.box]
  · simp [World.cell?, h.box]
  · simp [World.cell?, h.box]
  · simp [World.frozen?, h.box]
theorem heap_setCell_box (w : World) (b o : Nat) (v : Value) (c : Array Value) (T : TypeId) (h : w.heap[b]? = some (.cells c T)) : (w.setCell ⟨b, o, none⟩ v).heap[b]? = some (.cells (c.setIfInBounds o v) T) := by
  simp [World.setCell, Array.getElem?_modify, h]
/-- A row turned, its box's cell set. -/
theorem RF.setU {w w6 : World} {base M gp n : Nat} {v1 v2 v' : Value} {U O U' : List Int} {cl : Bool} (h : RF w base M gp v1 v2 n U O cl) (hM : M ≤ w.heap.size) (ho : OwnQ w6 (gp + 1) w6.heap.size v' U') (hg : w.grownBy w6 v1.ownBlock) (hbk : v'.ownBlock = v1.ownBlock ∨ ∃ b, v'.ownBlock = some b ∧ w.heap.size ≤ b) (hl : U'.length ≤ n) :
    RF (w6.setCell ⟨gp, 1, none⟩ v') base w6.heap.size gp v' v2 n U' O cl ∧ RfL w (w6.setCell ⟨gp, 1, none⟩ v') base M ∧ (w6.setCell ⟨gp, 1, none⟩ v').heap.size = w6.heap.size := by
  have hgM := h.gM
  have hg0 := h.g0
  have hs := hg.size
  have hgp : w6.heap[gp]? = w.heap[gp]? := hg.block gp (by omega) (fun e => by have := (h.r1.blk gp e.symm).1; omega)
  have hne : ∀ k, k ≠ gp → (w6.setCell ⟨gp, 1, none⟩ v').heap[k]? = w6.heap[k]? := fun k hk => Below.heap_setCell _ _ _ _ hk
  refine ⟨⟨hg0, by omega, h.n64, ?_, ho.kept (Nat.le_refl _) (fun k hk => hne k (by have := (ho.blk k hk).1; omega)), ?_, ?_, hl, h.lo⟩, ⟨⟨hg.os, hg.tape, hg.output, by simp [World.setCell]; omega, fun k hk => ?_⟩, fun k h1 h2 => ?_⟩, by simp [World.setCell]⟩
  · exact heap_setCell_box _ _ _ _ _ _ (hgp.trans h.box)
  · refine h.r2.kept (by omega) (fun k hk => ?_)
    have hk2 := h.r2.blk k hk
    rw [hne k (by omega)]
    exact hg.block k (by omega) (fun e => h.apt k e.symm hk)
  · intro b hb h2
    rcases hbk with hbk | ⟨b', hb1, hb2⟩
    · rw [hbk] at hb; exact h.apt b hb h2
    · rw [hb1] at hb; cases hb
      have := (h.r2.blk b h2).2; omega
  · rw [hne k (by omega)]
    rcases Nat.lt_or_ge k w.heap.size with hlt | hge
    · exact hg.block k hlt (fun e => by have := (h.r1.blk k e.symm).1; omega)
    · omega
  · rw [hne k (by omega)]
    exact hg.block k h2 (fun e => by have := (h.r1.blk k e.symm).2; omega)
theorem RF.setO {w w6 : World} {base M gp n : Nat} {v1 v2 v' : Value} {U O O' : List Int} {cl : Bool} (h : RF w base M gp v1 v2 n U O cl) (hM : M ≤ w.heap.size) (ho : OwnQ w6 (gp + 1) w6.heap.size v' O') (hg : w.grownBy w6 v2.ownBlock) (hbk : v'.ownBlock = v2.ownBlock ∨ ∃ b, v'.ownBlock = some b ∧ w.heap.size ≤ b) (hl : O'.length ≤ n) :
    RF (w6.setCell ⟨gp, 2, none⟩ v') base w6.heap.size gp v1 v' n U O' cl ∧ RfL w (w6.setCell ⟨gp, 2, none⟩ v') base M ∧ (w6.setCell ⟨gp, 2, none⟩ v').heap.size = w6.heap.size := by
  have hgM := h.gM
  have hg0 := h.g0
  have hs := hg.size
  have hgp : w6.heap[gp]? = w.heap[gp]? := hg.block gp (by omega) (fun e => by have := (h.r2.blk gp e.symm).1; omega)
  have hne : ∀ k, k ≠ gp → (w6.setCell ⟨gp, 2, none⟩ v').heap[k]? = w6.heap[k]? := fun k hk => Below.heap_setCell _ _ _ _ hk
  refine ⟨⟨hg0, by omega, h.n64, ?_, ?_, ho.kept (Nat.le_refl _) (fun k hk => hne k (by have := (ho.blk k hk).1; omega)), ?_, h.lu, hl⟩, ⟨⟨hg.os, hg.tape, hg.output, by simp [World.setCell]; omega, fun k hk => ?_⟩, fun k h1 h2 => ?_⟩, by simp [World.setCell]⟩
  · exact heap_setCell_box _ _ _ _ _ _ (hgp.trans h.box)
  · refine h.r1.kept (by omega) (fun k hk => ?_)
    have hk2 := h.r1.blk k hk
    rw [hne k (by omega)]
    exact hg.block k (by omega) (fun e => h.apt k hk e.symm)
  · intro b hb h2
    rcases hbk with hbk | ⟨b', hb1, hb2⟩
    · rw [hbk] at h2; exact h.apt b hb h2
    · rw [hb1] at h2; cases h2
      have := (h.r1.blk b hb).2; omega
  · rw [hne k (by omega)]
    rcases Nat.lt_or_ge k w.heap.size with hlt | hge
    · exact hg.block k hlt (fun e => by have := (h.r2.blk k e.symm).1; omega)
    · omega
  · rw [hne k (by omega)]
    exact hg.block k h2 (fun e => by have := (h.r2.blk k e.symm).2; omega)
theorem grown_refl (w : World) (r : Option Nat) : w.grownBy w r := ⟨rfl, rfl, rfl, Nat.le_refl _, fun _ _ _ => rfl⟩
/-- Some feed of the reference at this pointer. -/
def RFx (w : World) (base M : Nat) (p : Value) (n : Nat) (U O : List Int) (cl : Bool) : Prop := ∃ gp v1 v2, p = .pointer (some ⟨gp, 0, none⟩) ∧ RF w base M gp v1 v2 n U O cl
theorem RFx.kept {w w' : World} {base M M' n : Nat} {p : Value} {U O : List Int} {cl : Bool} (h : RFx w base M p n U O cl) (hM : M ≤ M') (hb : ∀ k, base ≤ k → k < M → w'.heap[k]? = w.heap[k]?) : RFx w' base M' p n U O cl := by
  obtain ⟨gp, v1, v2, rfl, hf⟩ := h
  exact ⟨gp, v1, v2, rfl, hf.kept hM hb⟩
theorem rnew_fault (x : Int) (w : World) (h : x < 1 ∨ 64 < x) : Calls Try.prog 9 #[.int .i64 x] w fun e w' => e = .returned (.tuple #[.pointer none, .int .i64 1]) ∧ w' = w := by
  rcases h with h | h
  · go_enter Try.func9, Try.ntmps9
    go_wp2
    go_ret2
    exact ⟨rfl, rfl⟩
  · have h2 : ¬ x < 1 := by omega
    go_enter Try.func9, Try.ntmps9
    go_wp2
    go_ret2
    exact ⟨rfl, rfl⟩
theorem rnew_any (n : Nat) (w : World) (h1 : 1 ≤ n) (h64 : n ≤ 64) : Calls Try.prog 9 #[.int .i64 (n : Int)] w fun e w' => ∃ p, e = .returned (.tuple #[p, .int .i64 0]) ∧ RFx w' w.heap.size w'.heap.size p n [] [] false ∧ Below w.heap.size w w' := by
  have h2 : ¬ (n : Int) < 1 := by omega
  have h3 : ¬ (64 : Int) < n := by omega
  go_enter Try.func9, Try.ntmps9
  go_wp2
  go_ret2
  refine ⟨_, rfl, ⟨w.heap.size, .slice none 0 0, .slice none 0 0, rfl, Nat.le_refl _, by simp, h64, heap_alloc_new w _, OwnQ.nil _ _ _, OwnQ.nil _ _ _, fun b h => by simp [Value.ownBlock] at h, by simp, by simp⟩, (Below.refl _ _).alloc (Nat.le_refl _) _⟩
theorem rclose_any (w : World) {base M n : Nat} {p : Value} {U O : List Int} {cl : Bool} (h : RFx w base M p n U O cl) (hM : M ≤ w.heap.size) :
    Calls Try.prog 15 #[p] w fun e w' => e = .returned (.int .i64 (clE cl)) ∧ RFx w' base w'.heap.size p n U O true ∧ RfL w w' base M := by
  obtain ⟨gp, v1, v2, rfl, hf⟩ := h
  obtain ⟨c0, c1, c2, c3, fz⟩ := hf.cells
  have HF := (show Hid _ from hf)
  clear hf
  cases cl with
  | true =>
    clear c0 c1 c2
    go_enter Try.func15, Try.ntmps15
    go_wp2
    go_ret
    exact ⟨rfl, ⟨gp, v1, v2, rfl, HF.out.kept hM (fun _ _ _ => rfl)⟩, RfL.refl _ _ _⟩
  | false =>
    have f3 := fz 3
    clear c0 c1 c2 fz
    go_enter Try.func15, Try.ntmps15
    go_wp2
    go_ret
    have hgM := HF.out.gM
    have hg0 := HF.out.g0
    have hne : ∀ k, k ≠ gp → (w.setCell ⟨gp, 3, none⟩ (.bool true)).heap[k]? = w.heap[k]? := fun k hk => Below.heap_setCell _ _ _ _ hk
    have hz : (w.setCell ⟨gp, 3, none⟩ (.bool true)).heap.size = w.heap.size := by simp [World.setCell]
    refine ⟨rfl, ⟨gp, v1, v2, rfl, hg0, by omega, HF.out.n64, heap_setCell_box _ _ _ _ _ _ HF.out.box, HF.out.r1.kept (by omega) (fun k hk => hne k (by have := (HF.out.r1.blk k hk).1; omega)), HF.out.r2.kept (by omega) (fun k hk => hne k (by have := (HF.out.r2.blk k hk).1; omega)), HF.out.apt, HF.out.lu, HF.out.lo⟩, (Below.refl _ _).setCell hg0 _, fun k h1 _ => hne k (by omega)⟩
theorem rput_shut (v : Int) (u : Bool) (w : World) {base M gp n : Nat} {v1 v2 : Value} {U O : List Int} (h : RF w base M gp v1 v2 n U O true) :
    Calls Try.prog 11 #[.pointer (some ⟨gp, 0, none⟩), .int .i64 v, .bool u] w fun e w' => e = .returned (.int .i64 113) ∧ w' = w := by
  obtain ⟨c0, c1, c2, c3, fz⟩ := h.cells
  clear h c0 c1 c2 fz
  go_enter Try.func11, Try.ntmps11
  go_wp2
  go_ret
  exact ⟨rfl, rfl⟩
theorem rputU_full (v : Int) (w : World) {base M gp n : Nat} {v1 v2 : Value} {U O : List Int} (h : RF w base M gp v1 v2 n U O false) (hl : n ≤ U.length) :
    Calls Try.prog 11 #[.pointer (some ⟨gp, 0, none⟩), .int .i64 v, .bool true] w fun e w' => e = .returned (.int .i64 5) ∧ ∃ k, w' = w.drewN k := by
  obtain ⟨c0, c1, c2, c3, fz⟩ := h.cells
  obtain ⟨a1, k1, e1⟩ := h.r1.form
  rw [e1] at c1
  have hn := h.n64
  have hb := h.lu
  have hq : decide ((n : Int) ≤ (U.length : Int)) = true := by simp; omega
  clear h fz e1 c2
  go_enter Try.func11, Try.ntmps11
  go_wp2_with fail
  go_quiet (fail)
  go_wp2
  go_ret
  exact ⟨rfl, _, rfl⟩
theorem rputU_room (v : Int) (w : World) {base M gp n : Nat} {v1 v2 : Value} {U O : List Int} (h : RF w base M gp v1 v2 n U O false) (hM : M ≤ w.heap.size) (hl : U.length < n) :
    Calls Try.prog 11 #[.pointer (some ⟨gp, 0, none⟩), .int .i64 v, .bool true] w fun e w' => e = .returned (.int .i64 0) ∧ RFx w' base w'.heap.size (.pointer (some ⟨gp, 0, none⟩)) n (U ++ [v]) O false ∧ RfL w w' base M := by
  obtain ⟨c0, c1, c2, c3, fz⟩ := h.cells
  obtain ⟨a1, k1, e1⟩ := h.r1.form
  have E := (show Hid _ from e1)
  have HF := (show Hid _ from h)
  clear h e1
  rw [E.out] at c1
  have hn := HF.out.n64
  have hgM := HF.out.gM
  have hgw : gp < w.heap.size := by omega
  have hq : decide ((n : Int) ≤ (U.length : Int)) = false := by simp; omega
  clear c2
  go_enter Try.func11, Try.ntmps11
  go_wp2_with fail
  go_quiet (fail)
  obtain ⟨wd, Hwd⟩ := hid_exr (w.drewN nq)
  have HFd : Hid (RF wd base M gp v1 v2 n U O false) := by rw [Hwd.out]; exact HF.out.kept (Nat.le_refl _) (fun _ _ _ => rfl)
  have hsd : wd.heap.size = w.heap.size := by rw [Hwd.out]; rfl
  have HSD := (show Hid _ from hsd)
  have hgw2 : gp < wd.heap.size := by rw [hsd]; exact hgw
  obtain ⟨d0, d1, d2, d3, fd⟩ := HFd.out.cells
  rw [E.out] at d1
  rw [← Hwd.out]
  obtain ⟨v', w6, hrun, hown, hgr, hbk⟩ := run_appQ (w0 := wd) (gp + 1) M 38 3 v1 U v HFd.out.r1 (by omega) (by omega) (by rw [hsd]; exact hM)
  have HR := (show Hid _ from HFd.out.setU (by rw [HSD.out]; exact hM) hown hgr hbk (by simp; omega))
  have k6 : w6.cell? ⟨gp, 1, none⟩ = wd.cell? ⟨gp, 1, none⟩ := World.cell?_of_block (hgr.block gp hgw2 (fun e => by have := (HFd.out.r1.blk gp e.symm).1; omega))
  have f6 : w6.frozen? ⟨gp, 1, none⟩ = false := (World.frozen?_of_block (hgr.block gp hgw2 (fun e => by have := (HFd.out.r1.blk gp e.symm).1; omega))).trans (fd 1)
  rw [d1] at k6
  rw [E.out] at hrun
  obtain ⟨a', c', e'⟩ := hown.form
  obtain ⟨m', Hm'⟩ := hid_exr (U ++ [v]).length
  rw [← Hm'.out] at e'
  rw [e'] at hrun HR
  clear c0 c1 c3 fz hown hgr hbk e' Hm' hsd fd d0 d2 d3 hq
  go_wp2_with (at_builtin; refine wpList_app_runQ rfl _ _ _ _ rfl rfl _ _ _ rfl rfl hrun ?_; clear hrun)
  go_ret
  have HRL : RfL w wd base M := by rw [Hwd.out]; exact ⟨⟨rfl, rfl, rfl, Nat.le_refl _, fun _ _ => rfl⟩, fun _ _ _ => rfl⟩
  obtain ⟨hr1, hr2, hr3⟩ := HR.out
  rw [← hr3] at hr1
  exact ⟨rfl, ⟨gp, _, _, rfl, hr1⟩, HRL.bl.trans hr2.bl, fun k h1 h2 => (hr2.hi k h1 (by rw [HSD.out]; exact h2)).trans (HRL.hi k h1 h2)⟩
theorem rputO_full (v : Int) (w : World) {base M gp n : Nat} {v1 v2 : Value} {U O : List Int} (h : RF w base M gp v1 v2 n U O false) (hl : n ≤ O.length) :
    Calls Try.prog 11 #[.pointer (some ⟨gp, 0, none⟩), .int .i64 v, .bool false] w fun e w' => e = .returned (.int .i64 5) ∧ ∃ k, w' = w.drewN k := by
  obtain ⟨c0, c1, c2, c3, fz⟩ := h.cells
  obtain ⟨a2, k2, e2⟩ := h.r2.form
  rw [e2] at c2
  have hn := h.n64
  have hb := h.lo
  have hq : decide ((n : Int) ≤ (O.length : Int)) = true := by simp; omega
  clear h fz e2 c1
  go_enter Try.func11, Try.ntmps11
  go_wp2_with fail
  go_quiet (fail)
  go_wp2
  go_ret
  exact ⟨rfl, _, rfl⟩
theorem rputO_room (v : Int) (w : World) {base M gp n : Nat} {v1 v2 : Value} {U O : List Int} (h : RF w base M gp v1 v2 n U O false) (hM : M ≤ w.heap.size) (hl : O.length < n) :
    Calls Try.prog 11 #[.pointer (some ⟨gp, 0, none⟩), .int .i64 v, .bool false] w fun e w' => e = .returned (.int .i64 0) ∧ RFx w' base w'.heap.size (.pointer (some ⟨gp, 0, none⟩)) n U (O ++ [v]) false ∧ RfL w w' base M := by
  obtain ⟨c0, c1, c2, c3, fz⟩ := h.cells
  obtain ⟨a2, k2, e2⟩ := h.r2.form
  have E := (show Hid _ from e2)
  have HF := (show Hid _ from h)
  clear h e2
  rw [E.out] at c2
  have hn := HF.out.n64
  have hgM := HF.out.gM
  have hgw : gp < w.heap.size := by omega
  have hq : decide ((n : Int) ≤ (O.length : Int)) = false := by simp; omega
  clear c1
  go_enter Try.func11, Try.ntmps11
  go_wp2_with fail
  go_quiet (fail)
  obtain ⟨wd, Hwd⟩ := hid_exr (w.drewN nq)
  have HFd : Hid (RF wd base M gp v1 v2 n U O false) := by rw [Hwd.out]; exact HF.out.kept (Nat.le_refl _) (fun _ _ _ => rfl)
  have hsd : wd.heap.size = w.heap.size := by rw [Hwd.out]; rfl
  have HSD := (show Hid _ from hsd)
  have hgw2 : gp < wd.heap.size := by rw [hsd]; exact hgw
  obtain ⟨d0, d1, d2, d3, fd⟩ := HFd.out.cells
  rw [E.out] at d2
  rw [← Hwd.out]
  obtain ⟨v', w6, hrun, hown, hgr, hbk⟩ := run_appQ (w0 := wd) (gp + 1) M 38 3 v2 O v HFd.out.r2 (by omega) (by omega) (by rw [hsd]; exact hM)
  have HR := (show Hid _ from HFd.out.setO (by rw [HSD.out]; exact hM) hown hgr hbk (by simp; omega))
  have k6 : w6.cell? ⟨gp, 2, none⟩ = wd.cell? ⟨gp, 2, none⟩ := World.cell?_of_block (hgr.block gp hgw2 (fun e => by have := (HFd.out.r2.blk gp e.symm).1; omega))
  have f6 : w6.frozen? ⟨gp, 2, none⟩ = false := (World.frozen?_of_block (hgr.block gp hgw2 (fun e => by have := (HFd.out.r2.blk gp e.symm).1; omega))).trans (fd 2)
  rw [d2] at k6
  rw [E.out] at hrun
  obtain ⟨a', c', e'⟩ := hown.form
  obtain ⟨m', Hm'⟩ := hid_exr (O ++ [v]).length
  rw [← Hm'.out] at e'
  rw [e'] at hrun HR
  clear c0 c2 c3 fz hown hgr hbk e' Hm' hsd fd d0 d1 d3 hq
  go_wp2_with (at_builtin; refine wpList_app_runQ rfl _ _ _ _ rfl rfl _ _ _ rfl rfl hrun ?_; clear hrun)
  go_ret
  have HRL : RfL w wd base M := by rw [Hwd.out]; exact ⟨⟨rfl, rfl, rfl, Nat.le_refl _, fun _ _ => rfl⟩, fun _ _ _ => rfl⟩
  obtain ⟨hr1, hr2, hr3⟩ := HR.out
  rw [← hr3] at hr1
  exact ⟨rfl, ⟨gp, _, _, rfl, hr1⟩, HRL.bl.trans hr2.bl, fun k h1 h2 => (hr2.hi k h1 (by rw [HSD.out]; exact h2)).trans (HRL.hi k h1 h2)⟩
theorem rput_any (v : Int) (u : Bool) (w : World) {base M n : Nat} {p : Value} {U O : List Int} {cl : Bool} (h : RFx w base M p n U O cl) (hM : M ≤ w.heap.size) :
    Calls Try.prog 11 #[p, .int .i64 v, .bool u] w fun e w' => e = .returned (.int .i64 (puE n U O cl u)) ∧ RFx w' base w'.heap.size p n (puU n U cl u v) (puO n O cl u v) cl ∧ RfL w w' base M := by
  obtain ⟨gp, v1, v2, rfl, hf⟩ := h
  have hd : ∀ k, RFx (w.drewN k) base (w.drewN k).heap.size (.pointer (some ⟨gp, 0, none⟩)) n U O cl ∧ RfL w (w.drewN k) base M := fun k =>
    ⟨⟨gp, v1, v2, rfl, hf.kept hM (fun _ _ _ => rfl)⟩, ⟨rfl, rfl, rfl, Nat.le_refl _, fun _ _ => rfl⟩, fun _ _ _ => rfl⟩
  cases cl with
  | true =>
    refine (rput_shut v u w hf).mono ?_
    rintro e w' ⟨rfl, rfl⟩
    refine ⟨by simp [puE], ?_, RfL.refl _ _ _⟩
    have h0 : RFx w' base w'.heap.size (.pointer (some ⟨gp, 0, none⟩)) n U O true := ⟨gp, v1, v2, rfl, hf.kept hM (fun _ _ _ => rfl)⟩
    simpa [puU, puO] using h0
  | false =>
    cases u with
    | true =>
      by_cases hl : U.length < n
      · refine (rputU_room v w hf hM hl).mono ?_
        rintro e w' ⟨rfl, h1, h2⟩
        exact ⟨by simp [puE, hl], by simpa [puU, puO, hl] using h1, h2⟩
      · refine (rputU_full v w hf (by omega)).mono ?_
        rintro e w' ⟨rfl, k, rfl⟩
        exact ⟨by simp [puE, hl], by simpa [puU, puO, hl] using (hd k).1, (hd k).2⟩
    | false =>
      by_cases hl : O.length < n
      · refine (rputO_room v w hf hM hl).mono ?_
        rintro e w' ⟨rfl, h1, h2⟩
        exact ⟨by simp [puE, hl], by simpa [puU, puO, hl] using h1, h2⟩
      · refine (rputO_full v w hf (by omega)).mono ?_
        rintro e w' ⟨rfl, k, rfl⟩
        exact ⟨by simp [puE, hl], by simpa [puU, puO, hl] using (hd k).1, (hd k).2⟩
theorem rtakeU (w : World) {base M gp n : Nat} {v1 v2 : Value} {U O : List Int} {y : Int} {cl : Bool} (h : RF w base M gp v1 v2 n (y :: U) O cl) (hM : M ≤ w.heap.size) :
    Calls Try.prog 13 #[.pointer (some ⟨gp, 0, none⟩)] w fun e w' => e = .returned (.tuple #[.int .i64 y, .bool true, .int .i64 0]) ∧ RFx w' base w'.heap.size (.pointer (some ⟨gp, 0, none⟩)) n U O cl ∧ RfL w w' base M := by
  obtain ⟨c0, c1, c2, c3, fz⟩ := h.cells
  have hgM := h.gM
  have hn := h.n64
  have hll : U.length < 64 := by have := h.lu; simp at this; omega
  obtain ⟨a1, k1, e1⟩ := h.r1.form
  simp only [List.length_cons] at e1
  have hr1 := h.r1
  rw [e1] at hr1 c1
  obtain ⟨b, off, rfl, ck⟩ := hr1.head (by simp)
  simp only [List.getElem_cons_zero] at ck
  obtain ⟨a', cap', hsl, hq, hbk⟩ := hr1.tail
  have HR := (show Hid _ from RF.setU (w6 := w) h hM (hq.kept hM (fun _ _ => rfl)) (grown_refl _ _) (.inl (by rw [e1]; exact hbk)) (by have := h.lu; simp at this; omega))
  have f1 := fz 1
  clear h fz e1 hr1 hq hbk c0 c3 c2
  go_enter Try.func13, Try.ntmps13
  go_wp2
  go_ret3
  obtain ⟨hr1, hr2, hr3⟩ := HR.out
  rw [← hr3] at hr1
  exact ⟨rfl, ⟨gp, _, _, rfl, hr1⟩, hr2⟩
theorem rtakeO (w : World) {base M gp n : Nat} {v1 v2 : Value} {O : List Int} {y : Int} {cl : Bool} (h : RF w base M gp v1 v2 n [] (y :: O) cl) (hM : M ≤ w.heap.size) :
    Calls Try.prog 13 #[.pointer (some ⟨gp, 0, none⟩)] w fun e w' => e = .returned (.tuple #[.int .i64 y, .bool false, .int .i64 0]) ∧ RFx w' base w'.heap.size (.pointer (some ⟨gp, 0, none⟩)) n [] O cl ∧ RfL w w' base M := by
  obtain ⟨c0, c1, c2, c3, fz⟩ := h.cells
  have hgM := h.gM
  have hn := h.n64
  have hll : O.length < 64 := by have := h.lo; simp at this; omega
  obtain ⟨a1, k1, e1⟩ := h.r1.form
  simp only [List.length_nil] at e1
  rw [e1] at c1
  obtain ⟨a2, k2, e2⟩ := h.r2.form
  simp only [List.length_cons] at e2
  have hr2 := h.r2
  rw [e2] at hr2 c2
  obtain ⟨b, off, rfl, ck⟩ := hr2.head (by simp)
  simp only [List.getElem_cons_zero] at ck
  obtain ⟨a', cap', hsl, hq, hbk⟩ := hr2.tail
  have HR := (show Hid _ from RF.setO (w6 := w) h hM (hq.kept hM (fun _ _ => rfl)) (grown_refl _ _) (.inl (by rw [e2]; exact hbk)) (by have := h.lo; simp at this; omega))
  have f2 := fz 2
  clear h fz e2 hr2 hq hbk c0 c3 e1
  go_enter Try.func13, Try.ntmps13
  go_wp2
  go_ret3
  obtain ⟨hr1, hr2, hr3⟩ := HR.out
  rw [← hr3] at hr1
  exact ⟨rfl, ⟨gp, _, _, rfl, hr1⟩, hr2⟩
theorem rtake_none (w : World) {base M gp n : Nat} {v1 v2 : Value} {cl : Bool} (h : RF w base M gp v1 v2 n [] [] cl) :
    Calls Try.prog 13 #[.pointer (some ⟨gp, 0, none⟩)] w fun e w' => e = .returned (.tuple #[.int .i64 0, .bool false, .int .i64 4]) ∧ w' = w := by
  obtain ⟨c0, c1, c2, c3, fz⟩ := h.cells
  obtain ⟨a1, k1, e1⟩ := h.r1.form
  obtain ⟨a2, k2, e2⟩ := h.r2.form
  simp only [List.length_nil] at e1 e2
  rw [e1] at c1
  rw [e2] at c2
  clear h fz e1 e2 c0 c3
  go_enter Try.func13, Try.ntmps13
  go_wp2
  go_ret3
  exact ⟨rfl, rfl⟩
theorem rtake_any (w : World) {base M n : Nat} {p : Value} {U O : List Int} {cl : Bool} (h : RFx w base M p n U O cl) (hM : M ≤ w.heap.size) :
    Calls Try.prog 13 #[p] w fun e w' => e = .returned (.tuple #[.int .i64 (tkV U O), .bool (tkB U), .int .i64 (tkE U O)]) ∧ RFx w' base w'.heap.size p n U.tail (tkO U O) cl ∧ RfL w w' base M := by
  obtain ⟨gp, v1, v2, rfl, hf⟩ := h
  match U, O, hf with
  | y :: U, O, hf =>
    refine (rtakeU w hf hM).mono ?_
    rintro e w' ⟨rfl, h1, h2⟩
    exact ⟨rfl, h1, h2⟩
  | [], y :: O, hf =>
    refine (rtakeO w hf hM).mono ?_
    rintro e w' ⟨rfl, h1, h2⟩
    exact ⟨rfl, h1, h2⟩
  | [], [], hf =>
    refine (rtake_none w hf).mono ?_
    rintro e w' ⟨rfl, rfl⟩
    exact ⟨rfl, ⟨gp, v1, v2, rfl, hf.kept hM (fun _ _ _ => rfl)⟩, RfL.refl _ _ _⟩
end Go.Proofs.Ytkamambgpcdonaa
