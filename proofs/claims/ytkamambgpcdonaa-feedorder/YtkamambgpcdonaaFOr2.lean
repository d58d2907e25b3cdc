/- FeedOrder's walk (written by mkfor2.py). -/
import Derived.Test.YtkamambgpcdonaaFOr1
import Derived.Deep.RegionLaw
namespace Go.Proofs.Ytkamambgpcdonaa
open Go.RowKit Go.Conc

theorem hid_exo {α : Type} (a : α) : ∃ x, Hid (x = a) := ⟨a, rfl⟩
theorem wp_app_runI {w w' : World} {o : Oper} {a : Act} {K : Act → World → Prop} {Q : Exit → Act → World → Prop} (s x : Operand) (t ty : TypeId) (ho : o.op = .call { callee := .builtin .append, args := #[s, x], argTypes := #[t, t] }) (hty : o.type = ty) (v vx v' : Value) (hs : a.eval s = v) (hx : a.eval x = vx)
    (hrun : (Builtin.append_ #[t, t] ty #[v, vx]).run Try.prog w = .ok v' w') (h : K (a.put o.dst v') w') : o.wp Try.prog a w K Q := by
  subst hty
  unfold Oper.wp
  simp [execOp, ho, resolve, invoke, builtin, hs, hx, hrun, Result.andThen]
  exact h
theorem wpList_app_runI {w w' : World} {ops : Array Oper} {rest : List Oper} {o : Oper} {a : Act} {Q : Exit → Act → World → Prop} (hgd : o.guard = none) (s x : Operand) (t ty : TypeId) (ho : o.op = .call { callee := .builtin .append, args := #[s, x], argTypes := #[t, t] }) (hty : o.type = ty) (v vx v' : Value) (hs : a.eval s = v) (hx : a.eval x = vx)
    (hrun : (Builtin.append_ #[t, t] ty #[v, vx]).run Try.prog w = .ok v' w') (h : wpList Try.prog ops Q rest (a.put o.dst v') w') : wpList Try.prog ops Q (o :: rest) a w :=
  wpList_plain hgd fun _ hK => wp_app_runI s x t ty ho hty v vx v' hs hx hrun (hK _ _ h)
/-- What was put and taken. -/
structure PF (X : Nat → List Int) (U O : List Int) (k : Nat) : Prop where
  u : X 1 = X 3 ++ U
  o : X 0 = X 2 ++ O
  l : ∀ j, j < 4 → (X j).length ≤ k
theorem PF.step {X : Nat → List Int} {U O : List Int} {k : Nat} (h : PF X U O k) : PF X U O (k + 1) := ⟨h.u, h.o, fun j hj => by have := h.l j hj; omega⟩
theorem PF.len {X : Nat → List Int} {k i : Nat} {y : Int} (h : ∀ j, j < 4 → (X j).length ≤ k) : ∀ j, j < 4 → (fup X i (X i ++ [y]) j).length ≤ k + 1 := fun j hj => by
  by_cases e : j = i
  · subst e; rw [fup_same]; have := h j hj; simp; omega
  · rw [fup_ne _ _ e]; have := h j hj; omega
theorem PF.inU {X : Nat → List Int} {U O : List Int} {k : Nat} (h : PF X U O k) (y : Int) : PF (fup X 1 (X 1 ++ [y])) (U ++ [y]) O (k + 1) := by
  refine ⟨?_, ?_, PF.len h.l⟩
  · rw [fup_same, fup_ne _ _ (by decide), h.u, List.append_assoc]
  · rw [fup_ne _ _ (by decide), fup_ne _ _ (by decide)]; exact h.o
theorem PF.inO {X : Nat → List Int} {U O : List Int} {k : Nat} (h : PF X U O k) (y : Int) : PF (fup X 0 (X 0 ++ [y])) U (O ++ [y]) (k + 1) := by
  refine ⟨?_, ?_, PF.len h.l⟩
  · rw [fup_ne _ _ (by decide), fup_ne _ _ (by decide)]; exact h.u
  · rw [fup_same, fup_ne _ _ (by decide), h.o, List.append_assoc]
theorem PF.outU {X : Nat → List Int} {U O : List Int} {k : Nat} {y : Int} (h : PF X (y :: U) O k) : PF (fup X 3 (X 3 ++ [y])) U O (k + 1) := by
  refine ⟨?_, ?_, PF.len h.l⟩
  · rw [fup_same, fup_ne _ _ (by decide), h.u, List.append_assoc]; rfl
  · rw [fup_ne _ _ (by decide), fup_ne _ _ (by decide)]; exact h.o
theorem PF.outO {X : Nat → List Int} {O : List Int} {k : Nat} {y : Int} {U : List Int} (h : PF X U (y :: O) k) : PF (fup X 2 (X 2 ++ [y])) U O (k + 1) := by
  refine ⟨?_, ?_, PF.len h.l⟩
  · rw [fup_ne _ _ (by decide), fup_ne _ _ (by decide)]; exact h.u
  · rw [fup_same, fup_ne _ _ (by decide), h.o, List.append_assoc]; rfl
theorem FO.hold {w wr w6 : World} {N n i : Nat} {p : Value} {V : Nat → Value} {X : Nat → List Int} {U O : List Int} (h : FO w wr N p n V X U O) (hi : i < 4) (hg : wr.grownBy w6 (V i).ownBlock) :
    ∀ k, k < N + 2 → ∀ o, w6.cell? ⟨k, o, none⟩ = wr.cell? ⟨k, o, none⟩ ∧ w6.frozen? ⟨k, o, none⟩ = wr.frozen? ⟨k, o, none⟩ := by
  intro k hk o
  have hl := h.lt
  have hlt := World.ownsRow.lt (h.rw.own i hi)
  have hb := hg.block k (by omega) (fun e => by have := (hlt k e.symm).1; omega)
  exact ⟨World.cell?_of_block hb, World.frozen?_of_block hb⟩
theorem FO.start {w w1 : World} {n : Nat} {p : Value} (hf : Fd w1 w.heap.size p n [] [] false) (hb : Below w.heap.size w w1) :
    FO w ((w1.alloc (.cells #[.slice none 0 0, .slice none 0 0] 47)).alloc (.cells #[.slice none 0 0, .slice none 0 0] 47)) w1.heap.size p n (fun _ => .slice none 0 0) (fun _ => []) [] [] := by
  have h0 := heap_alloc_new w1 (.cells #[.slice none 0 0, .slice none 0 0] 47)
  have h1 := heap_alloc_new (w1.alloc (.cells #[.slice none 0 0, .slice none 0 0] 47)) (.cells #[.slice none 0 0, .slice none 0 0] 47)
  simp only [World.size_alloc] at h1
  refine ⟨(FdG.of hf).kept (fun k hk => ?_), ?_, h1, Rws.nil _ _ _, (hb.alloc hb.size _).alloc (by have := hb.size; simp; omega) _⟩
  · rw [Below.heap_alloc _ _ _ (by simp; omega), Below.heap_alloc _ _ _ hk]
  · rw [Below.heap_alloc _ _ _ (by simp)]; exact h0
theorem Reads.ptr2 {w : World} {a : Option Addr} {n cap : Nat} {l : List Int} (h : Reads w (.slice a n cap) l) (h0 : 0 < l.length) : ∃ b off, a = some ⟨b, off, none⟩ ∧ b < w.heap.size ∧ ∀ j (h : j < l.length), w.cell? ⟨b, off + j, none⟩ = some (.int .i64 l[j]) := by
  rcases h with ⟨rfl, _⟩ | ⟨b, off, cap, hv, h2, h3, h4, h5, h6⟩
  · simp at h0
  · simp at hv
    obtain ⟨rfl, rfl, rfl⟩ := hv
    exact ⟨b, off, rfl, h5, h6⟩
set_option maxRecDepth 100000 in
set_option maxHeartbeats 8000000 in
theorem feedOrder_walk (x : Int) (v : Value) (L : List Fop) (w : World) (hR : OReads w v L) : Calls Try.prog 5 #[.int .i64 x, v] w fun e w' => e = .returned (.bool true) ∧ Below w.heap.size w w' := by
  have HR : Hid (OReads w v L) := hR
  obtain ⟨a, cap, rfl, hl1, hl2⟩ := hR.form
  clear hR
  unfold maxLen at hl2
  by_cases hx : x < 1 ∨ 64 < x
  · go_enter Try.func5, Try.ntmps5
    go_wp2_with fail
    refine (fault_new _ _ hx).mono ?_
    rintro e w' ⟨rfl, rfl⟩
    clear hx
    go_wp2_with fail
    refine (alive_any _).mono ?_
    rintro e w2 ⟨rfl, hb2⟩
    go_wp2_with fail
    go_ret
    exact ⟨rfl, hb2⟩
  · obtain ⟨n, rfl⟩ : ∃ n : Nat, x = (n : Int) := ⟨x.toNat, by omega⟩
    have h1 : 1 ≤ n := by omega
    have h64 : n ≤ 64 := by omega
    clear hx
    go_enter Try.func5, Try.ntmps5
    go_wp2_with fail
    refine (new_any n _ h1 h64).mono ?_
    rintro e w1 ⟨p, rfl, hf, hb⟩
    obtain ⟨g, rfl⟩ := hf.ptr
    have HO0 := (show Hid _ from FO.start hf hb)
    have HB1 := (show Hid _ from hb)
    clear hf hb
    go_wp2_with fail
    go_loopw [9] (fun i wr => ∃ (k : Nat) (V : Nat → Value) (X : Nat → List Int) (U O : List Int), k ≤ L.length ∧ k ≤ 300 ∧ i = .int .i64 (k : Int) ∧ Hid (FO w wr w1.heap.size (.pointer (some ⟨g, 0, none⟩)) n V X U O) ∧ Hid (PF X U O k)) (fun i _ => L.length - (intOf i).toNat)
    case atStart => exact ⟨0, _, _, _, _, by omega, by omega, rfl, HO0.out, ⟨rfl, rfl, fun _ _ => by simp⟩⟩
    case round =>
      obtain ⟨k, V, X, U, O, hk, hk3, rfl, HO, HP⟩ := hrel
      by_cases hlt : k < L.length ∧ k < 300
      · obtain ⟨hlt, h300⟩ := hlt
        have h300' : (k : Int) < 300 := by omega
        obtain ⟨r, Hr⟩ := hid_exo (L[k]'hlt)
        obtain ⟨b, off, rfl, hbb⟩ := HR.out.ptr (by omega)
        obtain ⟨c0, c1, c2⟩ := (HR.out.below HO.out.bl).three hlt r Hr.out
        have hbr := HO.out.bl.size
        have hbl : b < wr.heap.size := by omega
        obtain ⟨rk, rv, ru⟩ := r
        simp only at c0 c1 c2
        obtain ⟨wx, Hx⟩ := hid_exo (wr.alloc (.cells #[.int .i64 rk, .int .i64 rv, .bool ru] 31))
        have HBx : Hid (Below wr.heap.size wr wx) := by rw [Hx.out]; exact (Below.refl _ _).alloc (Nat.le_refl _) _
        have HOx : Hid (FO w wx w1.heap.size (.pointer (some ⟨g, 0, none⟩)) n V X U O) := HO.out.below HBx.out
        have hsx : wx.heap.size = wr.heap.size + 1 := by rw [Hx.out]; simp
        have HSX := (show Hid _ from hsx)
        have HX4 : Hid (∀ o, wx.cell? ⟨wr.heap.size, o, none⟩ = #[Value.int .i64 rk, .int .i64 rv, .bool ru][o]?) := by
          unfold Hid
          intro o
          have := heap_alloc_new wr (.cells #[.int .i64 rk, .int .i64 rv, .bool ru] 31)
          rw [Hx.out]
          simp only [World.cell?]
          rw [this]
          rfl
        have HN : Hid (w1.heap.size + 1 < wr.heap.size) := HO.out.lt
        have HLT : Hid (∀ i, i < 4 → ∀ b, (V i).ownBlock = some b → b < wr.heap.size) := fun i hi b hb => (World.ownsRow.lt (HO.out.rw.own i hi) b hb).2
        clear hsx HBx HO Hr
        by_cases hz : rk = 0
        · subst hz
          cases ru with
          | true =>
            by_cases hroom : U.length < n
            · skip
              go_wp2_with fail
              rw [← Hx.out]
              refine (putG rv true _ HOx.out.fd).mono ?_
              rintro e w3 ⟨rfl, hf3, hb3, hs3⟩
              have HO3 : Hid (FO w w3 w1.heap.size (.pointer (some ⟨g, 0, none⟩)) n V X (U ++ [rv]) O) := HOx.out.sd (by simpa [puU, puO, hroom] using hf3) hb3 hs3
              have d1 : w3.cell? ⟨wr.heap.size, 1, none⟩ = some (.int .i64 rv) := (World.cell?_of_block (hs3.blk wr.heap.size (by have := HN.out; omega))).trans (HX4.out 1)
              have d0 : w3.cell? ⟨wr.heap.size, 0, none⟩ = some (.int .i64 0) := (World.cell?_of_block (hs3.blk wr.heap.size (by have := HN.out; omega))).trans (HX4.out 0)
              have hE : puE n U O false true = 0 := by simp [puE, hroom]
              rw [hE]
              have hz3 : w1.heap.size < w3.heap.size := by have := HO3.out.lt; omega
              have hz5 : w1.heap.size + 1 < w3.heap.size := HO3.out.lt
              have hz4 : wr.heap.size < w3.heap.size := by rw [hs3.size, HSX.out]; omega
              clear hf3 hb3 hs3 hE c0 c1 c2 HOx hbl
              obtain ⟨a0, c0, e0, _⟩ := (HO3.out.rw.own 0 (by decide)).form
              have E0 := (show Hid _ from e0)
              clear e0
              obtain ⟨a1, c1, e1, _⟩ := (HO3.out.rw.own 1 (by decide)).form
              have E1 := (show Hid _ from e1)
              clear e1
              obtain ⟨a2, c2, e2, _⟩ := (HO3.out.rw.own 2 (by decide)).form
              have E2 := (show Hid _ from e2)
              clear e2
              obtain ⟨a3, c3, e3, _⟩ := (HO3.out.rw.own 3 (by decide)).form
              have E3 := (show Hid _ from e3)
              clear e3
              obtain ⟨q0, q1, q2, q3, f0, f1⟩ := HO3.out.cells
              rw [E0.out] at q0
              rw [E1.out] at q1
              rw [E2.out] at q2
              rw [E3.out] at q3
              obtain ⟨v', w6, hrun, hown, hgr, hbk⟩ := run_appI (w0 := w3.drew) (w1.heap.size + 2) 38 3 (V 1) (X 1) rv (HO3.out.rw.own 1 (by decide)) (by have := HP.out.l 1 (by decide); omega) (by have := HO3.out.lt; simp; omega)
              have HO6 : Hid (FO w (w6.setCell ⟨w1.heap.size + 1 / 2, 1 % 2, none⟩ v') w1.heap.size (.pointer (some ⟨g, 0, none⟩)) n (fup V 1 v') (fup X 1 (X 1 ++ [rv])) (U ++ [rv]) O) := HO3.out.app HB1.out.size (by decide) hown ⟨hgr.os, hgr.tape, hgr.output, hgr.size, hgr.block⟩ hbk
              have hh := HO3.out.hold (w6 := w6) (i := 1) (by decide) ⟨hgr.os, hgr.tape, hgr.output, hgr.size, hgr.block⟩
              have k6 : w6.cell? ⟨w1.heap.size, 1, none⟩ = some (V 1) := (hh (w1.heap.size) (by omega) 1).1.trans HO3.out.cells.2.1
              have f6 : w6.frozen? ⟨w1.heap.size, 1, none⟩ = false := (hh (w1.heap.size) (by omega) 1).2.trans (HO3.out.cells.2.2.2.2.1 1)
              have d6 : w6.cell? ⟨wr.heap.size, 0, none⟩ = some (.int .i64 0) := (World.cell?_of_block (hgr.block wr.heap.size (by show wr.heap.size < w3.heap.size; omega) (fun e => by have := HLT.out 1 (by decide) _ e.symm; omega))).trans d0
              have hne7 : w1.heap.size ≠ wr.heap.size := by have := HN.out; omega
              have hne8 : w1.heap.size + 1 ≠ wr.heap.size := by have := HN.out; omega
              obtain ⟨a', c', e', _⟩ := hown.form
              obtain ⟨m', Hm'⟩ := hid_exo (X 1 ++ [rv]).length
              rw [← Hm'.out] at e'
              rw [E1.out] at k6 hrun
              rw [e'] at hrun HO6
              clear hh hown hgr hbk e' Hm'
              go_wp2_with fail
              go_region_law (refine wp_app_runI (.tmp 58) (.tmp 61) 38 38 rfl rfl _ _ _ (by simp [Act.eval]) (by simp [Act.eval]) hrun ?_)
              all_goals (
                clear hrun
                go_wp2_with fail
                go_roundw
                case rel => exact ⟨k + 1, (fup V 1 (.slice a' m' c')), (fup X 1 (X 1 ++ [rv])), (U ++ [rv]), O, by omega, by omega, by go_num, HO6.out, (HP.out.inU rv)⟩
                case measure => simp [intOf]; omega)
            · skip
              go_wp2_with fail
              rw [← Hx.out]
              refine (putG rv true _ HOx.out.fd).mono ?_
              rintro e w3 ⟨rfl, hf3, hb3, hs3⟩
              have HO3 : Hid (FO w w3 w1.heap.size (.pointer (some ⟨g, 0, none⟩)) n V X U O) := HOx.out.sd (by simpa [puU, puO, hroom] using hf3) hb3 hs3
              have d0 : w3.cell? ⟨wr.heap.size, 0, none⟩ = some (.int .i64 0) := (World.cell?_of_block (hs3.blk wr.heap.size (by have := HN.out; omega))).trans (HX4.out 0)
              have hE : puE n U O false true = 5 := by simp [puE, hroom]
              rw [hE]
              clear hf3 hb3 hs3 hE c0 c1 c2 HOx hbl
              go_wp2_with fail
              go_roundw
              case rel => exact ⟨k + 1, V, X, U, O, by omega, by omega, by go_num, HO3.out, HP.out.step⟩
              case measure => simp [intOf]; omega
          | false =>
            by_cases hroom : O.length < n
            · skip
              go_wp2_with fail
              rw [← Hx.out]
              refine (putG rv false _ HOx.out.fd).mono ?_
              rintro e w3 ⟨rfl, hf3, hb3, hs3⟩
              have HO3 : Hid (FO w w3 w1.heap.size (.pointer (some ⟨g, 0, none⟩)) n V X U (O ++ [rv])) := HOx.out.sd (by simpa [puU, puO, hroom] using hf3) hb3 hs3
              have d1 : w3.cell? ⟨wr.heap.size, 1, none⟩ = some (.int .i64 rv) := (World.cell?_of_block (hs3.blk wr.heap.size (by have := HN.out; omega))).trans (HX4.out 1)
              have d0 : w3.cell? ⟨wr.heap.size, 0, none⟩ = some (.int .i64 0) := (World.cell?_of_block (hs3.blk wr.heap.size (by have := HN.out; omega))).trans (HX4.out 0)
              have hE : puE n U O false false = 0 := by simp [puE, hroom]
              rw [hE]
              have hz3 : w1.heap.size < w3.heap.size := by have := HO3.out.lt; omega
              have hz5 : w1.heap.size + 1 < w3.heap.size := HO3.out.lt
              have hz4 : wr.heap.size < w3.heap.size := by rw [hs3.size, HSX.out]; omega
              clear hf3 hb3 hs3 hE c0 c1 c2 HOx hbl
              obtain ⟨a0, c0, e0, _⟩ := (HO3.out.rw.own 0 (by decide)).form
              have E0 := (show Hid _ from e0)
              clear e0
              obtain ⟨a1, c1, e1, _⟩ := (HO3.out.rw.own 1 (by decide)).form
              have E1 := (show Hid _ from e1)
              clear e1
              obtain ⟨a2, c2, e2, _⟩ := (HO3.out.rw.own 2 (by decide)).form
              have E2 := (show Hid _ from e2)
              clear e2
              obtain ⟨a3, c3, e3, _⟩ := (HO3.out.rw.own 3 (by decide)).form
              have E3 := (show Hid _ from e3)
              clear e3
              obtain ⟨q0, q1, q2, q3, f0, f1⟩ := HO3.out.cells
              rw [E0.out] at q0
              rw [E1.out] at q1
              rw [E2.out] at q2
              rw [E3.out] at q3
              obtain ⟨v', w6, hrun, hown, hgr, hbk⟩ := run_appI (w0 := w3.drew) (w1.heap.size + 2) 38 3 (V 0) (X 0) rv (HO3.out.rw.own 0 (by decide)) (by have := HP.out.l 0 (by decide); omega) (by have := HO3.out.lt; simp; omega)
              have HO6 : Hid (FO w (w6.setCell ⟨w1.heap.size + 0 / 2, 0 % 2, none⟩ v') w1.heap.size (.pointer (some ⟨g, 0, none⟩)) n (fup V 0 v') (fup X 0 (X 0 ++ [rv])) U (O ++ [rv])) := HO3.out.app HB1.out.size (by decide) hown ⟨hgr.os, hgr.tape, hgr.output, hgr.size, hgr.block⟩ hbk
              have hh := HO3.out.hold (w6 := w6) (i := 0) (by decide) ⟨hgr.os, hgr.tape, hgr.output, hgr.size, hgr.block⟩
              have k6 : w6.cell? ⟨w1.heap.size, 0, none⟩ = some (V 0) := (hh (w1.heap.size) (by omega) 0).1.trans HO3.out.cells.1
              have f6 : w6.frozen? ⟨w1.heap.size, 0, none⟩ = false := (hh (w1.heap.size) (by omega) 0).2.trans (HO3.out.cells.2.2.2.2.1 0)
              have d6 : w6.cell? ⟨wr.heap.size, 0, none⟩ = some (.int .i64 0) := (World.cell?_of_block (hgr.block wr.heap.size (by show wr.heap.size < w3.heap.size; omega) (fun e => by have := HLT.out 0 (by decide) _ e.symm; omega))).trans d0
              have hne7 : w1.heap.size ≠ wr.heap.size := by have := HN.out; omega
              have hne8 : w1.heap.size + 1 ≠ wr.heap.size := by have := HN.out; omega
              obtain ⟨a', c', e', _⟩ := hown.form
              obtain ⟨m', Hm'⟩ := hid_exo (X 0 ++ [rv]).length
              rw [← Hm'.out] at e'
              rw [E0.out] at k6 hrun
              rw [e'] at hrun HO6
              clear hh hown hgr hbk e' Hm'
              go_wp2_with fail
              go_region_law (refine wp_app_runI (.tmp 58) (.tmp 61) 38 38 rfl rfl _ _ _ (by simp [Act.eval]) (by simp [Act.eval]) hrun ?_)
              all_goals (
                clear hrun
                go_wp2_with fail
                go_roundw
                case rel => exact ⟨k + 1, (fup V 0 (.slice a' m' c')), (fup X 0 (X 0 ++ [rv])), U, (O ++ [rv]), by omega, by omega, by go_num, HO6.out, (HP.out.inO rv)⟩
                case measure => simp [intOf]; omega)
            · skip
              go_wp2_with fail
              rw [← Hx.out]
              refine (putG rv false _ HOx.out.fd).mono ?_
              rintro e w3 ⟨rfl, hf3, hb3, hs3⟩
              have HO3 : Hid (FO w w3 w1.heap.size (.pointer (some ⟨g, 0, none⟩)) n V X U O) := HOx.out.sd (by simpa [puU, puO, hroom] using hf3) hb3 hs3
              have d0 : w3.cell? ⟨wr.heap.size, 0, none⟩ = some (.int .i64 0) := (World.cell?_of_block (hs3.blk wr.heap.size (by have := HN.out; omega))).trans (HX4.out 0)
              have hE : puE n U O false false = 5 := by simp [puE, hroom]
              rw [hE]
              clear hf3 hb3 hs3 hE c0 c1 c2 HOx hbl
              go_wp2_with fail
              go_roundw
              case rel => exact ⟨k + 1, V, X, U, O, by omega, by omega, by go_num, HO3.out, HP.out.step⟩
              case measure => simp [intOf]; omega
        · have hz' : (rk == 0) = false := by simpa using hz
          have HRK : Hid (rk = rk) := rfl
          by_cases ho1 : rk = 1
          · subst ho1
            clear hz
            cases ru with
            | true =>
              go_wp2_with fail
              rw [← Hx.out]
              refine (takeG _ HOx.out.fd).mono ?_
              match U, O, HOx, HP with
              | y :: U, O, HOx, HP =>
                rintro e w3 ⟨rfl, hf3, hb3, hs3⟩
                have HO3 : Hid (FO w w3 w1.heap.size (.pointer (some ⟨g, 0, none⟩)) n V X U O) := HOx.out.sd hf3 hb3 hs3
                have hz3 : w1.heap.size < w3.heap.size := by have := HO3.out.lt; omega
                have hz5 : w1.heap.size + 1 < w3.heap.size := HO3.out.lt
                simp only [tkV, tkB, tkE]
                clear hf3 hb3 hs3 c0 c1 c2 HOx hbl
                obtain ⟨a0, c0, e0, _⟩ := (HO3.out.rw.own 0 (by decide)).form
                have E0 := (show Hid _ from e0)
                clear e0
                obtain ⟨a1, c1, e1, _⟩ := (HO3.out.rw.own 1 (by decide)).form
                have E1 := (show Hid _ from e1)
                clear e1
                obtain ⟨a2, c2, e2, _⟩ := (HO3.out.rw.own 2 (by decide)).form
                have E2 := (show Hid _ from e2)
                clear e2
                obtain ⟨a3, c3, e3, _⟩ := (HO3.out.rw.own 3 (by decide)).form
                have E3 := (show Hid _ from e3)
                clear e3
                obtain ⟨q0, q1, q2, q3, f0, f1⟩ := HO3.out.cells
                rw [E0.out] at q0
                rw [E1.out] at q1
                rw [E2.out] at q2
                rw [E3.out] at q3
                obtain ⟨v', w6, hrun, hown, hgr, hbk⟩ := run_appI (w0 := w3) (w1.heap.size + 2) 38 3 (V 3) (X 3) y (HO3.out.rw.own 3 (by decide)) (by have := HP.out.l 3 (by decide); omega) (by have := HO3.out.lt; simp; omega)
                have HO6 : Hid (FO w (w6.setCell ⟨w1.heap.size + 3 / 2, 3 % 2, none⟩ v') w1.heap.size (.pointer (some ⟨g, 0, none⟩)) n (fup V 3 v') (fup X 3 (X 3 ++ [y])) U O) := HO3.out.app HB1.out.size (by decide) hown ⟨hgr.os, hgr.tape, hgr.output, hgr.size, hgr.block⟩ hbk
                have hh := HO3.out.hold (w6 := w6) (i := 3) (by decide) ⟨hgr.os, hgr.tape, hgr.output, hgr.size, hgr.block⟩
                have k6 : w6.cell? ⟨w1.heap.size + 1, 1, none⟩ = some (V 3) := (hh (w1.heap.size + 1) (by omega) 1).1.trans HO3.out.cells.2.2.2.1
                have f6 : w6.frozen? ⟨w1.heap.size + 1, 1, none⟩ = false := (hh (w1.heap.size + 1) (by omega) 1).2.trans (HO3.out.cells.2.2.2.2.2 1)
                have hne7 : w1.heap.size ≠ wr.heap.size := by have := HN.out; omega
                have hne8 : w1.heap.size + 1 ≠ wr.heap.size := by have := HN.out; omega
                obtain ⟨a', c', e', _⟩ := hown.form
                obtain ⟨m', Hm'⟩ := hid_exo (X 3 ++ [y]).length
                rw [← Hm'.out] at e'
                rw [E3.out] at k6 hrun
                rw [e'] at hrun HO6
                clear hh hown hgr hbk e' Hm'
                go_wp2_with (at_builtin; refine wpList_app_runI rfl _ _ _ _ rfl rfl _ _ _ rfl rfl hrun ?_; clear hrun)
                go_roundw
                case rel => exact ⟨k + 1, (fup V 3 (.slice a' m' c')), (fup X 3 (X 3 ++ [y])), U, O, by omega, by omega, by go_num, HO6.out, HP.out.outU⟩
                case measure => simp [intOf]; omega
              | [], y :: O, HOx, HP =>
                rintro e w3 ⟨rfl, hf3, hb3, hs3⟩
                have HO3 : Hid (FO w w3 w1.heap.size (.pointer (some ⟨g, 0, none⟩)) n V X [] O) := HOx.out.sd hf3 hb3 hs3
                have hz3 : w1.heap.size < w3.heap.size := by have := HO3.out.lt; omega
                have hz5 : w1.heap.size + 1 < w3.heap.size := HO3.out.lt
                simp only [tkV, tkB, tkE]
                clear hf3 hb3 hs3 c0 c1 c2 HOx hbl
                obtain ⟨a0, c0, e0, _⟩ := (HO3.out.rw.own 0 (by decide)).form
                have E0 := (show Hid _ from e0)
                clear e0
                obtain ⟨a1, c1, e1, _⟩ := (HO3.out.rw.own 1 (by decide)).form
                have E1 := (show Hid _ from e1)
                clear e1
                obtain ⟨a2, c2, e2, _⟩ := (HO3.out.rw.own 2 (by decide)).form
                have E2 := (show Hid _ from e2)
                clear e2
                obtain ⟨a3, c3, e3, _⟩ := (HO3.out.rw.own 3 (by decide)).form
                have E3 := (show Hid _ from e3)
                clear e3
                obtain ⟨q0, q1, q2, q3, f0, f1⟩ := HO3.out.cells
                rw [E0.out] at q0
                rw [E1.out] at q1
                rw [E2.out] at q2
                rw [E3.out] at q3
                obtain ⟨v', w6, hrun, hown, hgr, hbk⟩ := run_appI (w0 := w3) (w1.heap.size + 2) 38 3 (V 2) (X 2) y (HO3.out.rw.own 2 (by decide)) (by have := HP.out.l 2 (by decide); omega) (by have := HO3.out.lt; simp; omega)
                have HO6 : Hid (FO w (w6.setCell ⟨w1.heap.size + 2 / 2, 2 % 2, none⟩ v') w1.heap.size (.pointer (some ⟨g, 0, none⟩)) n (fup V 2 v') (fup X 2 (X 2 ++ [y])) [] O) := HO3.out.app HB1.out.size (by decide) hown ⟨hgr.os, hgr.tape, hgr.output, hgr.size, hgr.block⟩ hbk
                have hh := HO3.out.hold (w6 := w6) (i := 2) (by decide) ⟨hgr.os, hgr.tape, hgr.output, hgr.size, hgr.block⟩
                have k6 : w6.cell? ⟨w1.heap.size + 1, 0, none⟩ = some (V 2) := (hh (w1.heap.size + 1) (by omega) 0).1.trans HO3.out.cells.2.2.1
                have f6 : w6.frozen? ⟨w1.heap.size + 1, 0, none⟩ = false := (hh (w1.heap.size + 1) (by omega) 0).2.trans (HO3.out.cells.2.2.2.2.2 0)
                have hne7 : w1.heap.size ≠ wr.heap.size := by have := HN.out; omega
                have hne8 : w1.heap.size + 1 ≠ wr.heap.size := by have := HN.out; omega
                obtain ⟨a', c', e', _⟩ := hown.form
                obtain ⟨m', Hm'⟩ := hid_exo (X 2 ++ [y]).length
                rw [← Hm'.out] at e'
                rw [E2.out] at k6 hrun
                rw [e'] at hrun HO6
                clear hh hown hgr hbk e' Hm'
                go_wp2_with (at_builtin; refine wpList_app_runI rfl _ _ _ _ rfl rfl _ _ _ rfl rfl hrun ?_; clear hrun)
                go_roundw
                case rel => exact ⟨k + 1, (fup V 2 (.slice a' m' c')), (fup X 2 (X 2 ++ [y])), [], O, by omega, by omega, by go_num, HO6.out, HP.out.outO⟩
                case measure => simp [intOf]; omega
              | [], [], HOx, HP =>
                rintro e w3 ⟨rfl, hf3, hb3, hs3⟩
                have HO3 : Hid (FO w w3 w1.heap.size (.pointer (some ⟨g, 0, none⟩)) n V X [] []) := HOx.out.sd hf3 hb3 hs3
                have hz3 : w1.heap.size < w3.heap.size := by have := HO3.out.lt; omega
                have hz5 : w1.heap.size + 1 < w3.heap.size := HO3.out.lt
                simp only [tkV, tkB, tkE]
                clear hf3 hb3 hs3 c0 c1 c2 HOx hbl
                go_wp2_with fail
                go_roundw
                case rel => exact ⟨k + 1, V, X, [], [], by omega, by omega, by go_num, HO3.out, HP.out.step⟩
                case measure => simp [intOf]; omega
            | false =>
              go_wp2_with fail
              rw [← Hx.out]
              refine (takeG _ HOx.out.fd).mono ?_
              match U, O, HOx, HP with
              | y :: U, O, HOx, HP =>
                rintro e w3 ⟨rfl, hf3, hb3, hs3⟩
                have HO3 : Hid (FO w w3 w1.heap.size (.pointer (some ⟨g, 0, none⟩)) n V X U O) := HOx.out.sd hf3 hb3 hs3
                have hz3 : w1.heap.size < w3.heap.size := by have := HO3.out.lt; omega
                have hz5 : w1.heap.size + 1 < w3.heap.size := HO3.out.lt
                simp only [tkV, tkB, tkE]
                clear hf3 hb3 hs3 c0 c1 c2 HOx hbl
                obtain ⟨a0, c0, e0, _⟩ := (HO3.out.rw.own 0 (by decide)).form
                have E0 := (show Hid _ from e0)
                clear e0
                obtain ⟨a1, c1, e1, _⟩ := (HO3.out.rw.own 1 (by decide)).form
                have E1 := (show Hid _ from e1)
                clear e1
                obtain ⟨a2, c2, e2, _⟩ := (HO3.out.rw.own 2 (by decide)).form
                have E2 := (show Hid _ from e2)
                clear e2
                obtain ⟨a3, c3, e3, _⟩ := (HO3.out.rw.own 3 (by decide)).form
                have E3 := (show Hid _ from e3)
                clear e3
                obtain ⟨q0, q1, q2, q3, f0, f1⟩ := HO3.out.cells
                rw [E0.out] at q0
                rw [E1.out] at q1
                rw [E2.out] at q2
                rw [E3.out] at q3
                obtain ⟨v', w6, hrun, hown, hgr, hbk⟩ := run_appI (w0 := w3) (w1.heap.size + 2) 38 3 (V 3) (X 3) y (HO3.out.rw.own 3 (by decide)) (by have := HP.out.l 3 (by decide); omega) (by have := HO3.out.lt; simp; omega)
                have HO6 : Hid (FO w (w6.setCell ⟨w1.heap.size + 3 / 2, 3 % 2, none⟩ v') w1.heap.size (.pointer (some ⟨g, 0, none⟩)) n (fup V 3 v') (fup X 3 (X 3 ++ [y])) U O) := HO3.out.app HB1.out.size (by decide) hown ⟨hgr.os, hgr.tape, hgr.output, hgr.size, hgr.block⟩ hbk
                have hh := HO3.out.hold (w6 := w6) (i := 3) (by decide) ⟨hgr.os, hgr.tape, hgr.output, hgr.size, hgr.block⟩
                have k6 : w6.cell? ⟨w1.heap.size + 1, 1, none⟩ = some (V 3) := (hh (w1.heap.size + 1) (by omega) 1).1.trans HO3.out.cells.2.2.2.1
                have f6 : w6.frozen? ⟨w1.heap.size + 1, 1, none⟩ = false := (hh (w1.heap.size + 1) (by omega) 1).2.trans (HO3.out.cells.2.2.2.2.2 1)
                have hne7 : w1.heap.size ≠ wr.heap.size := by have := HN.out; omega
                have hne8 : w1.heap.size + 1 ≠ wr.heap.size := by have := HN.out; omega
                obtain ⟨a', c', e', _⟩ := hown.form
                obtain ⟨m', Hm'⟩ := hid_exo (X 3 ++ [y]).length
                rw [← Hm'.out] at e'
                rw [E3.out] at k6 hrun
                rw [e'] at hrun HO6
                clear hh hown hgr hbk e' Hm'
                go_wp2_with (at_builtin; refine wpList_app_runI rfl _ _ _ _ rfl rfl _ _ _ rfl rfl hrun ?_; clear hrun)
                go_roundw
                case rel => exact ⟨k + 1, (fup V 3 (.slice a' m' c')), (fup X 3 (X 3 ++ [y])), U, O, by omega, by omega, by go_num, HO6.out, HP.out.outU⟩
                case measure => simp [intOf]; omega
              | [], y :: O, HOx, HP =>
                rintro e w3 ⟨rfl, hf3, hb3, hs3⟩
                have HO3 : Hid (FO w w3 w1.heap.size (.pointer (some ⟨g, 0, none⟩)) n V X [] O) := HOx.out.sd hf3 hb3 hs3
                have hz3 : w1.heap.size < w3.heap.size := by have := HO3.out.lt; omega
                have hz5 : w1.heap.size + 1 < w3.heap.size := HO3.out.lt
                simp only [tkV, tkB, tkE]
                clear hf3 hb3 hs3 c0 c1 c2 HOx hbl
                obtain ⟨a0, c0, e0, _⟩ := (HO3.out.rw.own 0 (by decide)).form
                have E0 := (show Hid _ from e0)
                clear e0
                obtain ⟨a1, c1, e1, _⟩ := (HO3.out.rw.own 1 (by decide)).form
                have E1 := (show Hid _ from e1)
                clear e1
                obtain ⟨a2, c2, e2, _⟩ := (HO3.out.rw.own 2 (by decide)).form
                have E2 := (show Hid _ from e2)
                clear e2
                obtain ⟨a3, c3, e3, _⟩ := (HO3.out.rw.own 3 (by decide)).form
                have E3 := (show Hid _ from e3)
                clear e3
                obtain ⟨q0, q1, q2, q3, f0, f1⟩ := HO3.out.cells
                rw [E0.out] at q0
                rw [E1.out] at q1
                rw [E2.out] at q2
                rw [E3.out] at q3
                obtain ⟨v', w6, hrun, hown, hgr, hbk⟩ := run_appI (w0 := w3) (w1.heap.size + 2) 38 3 (V 2) (X 2) y (HO3.out.rw.own 2 (by decide)) (by have := HP.out.l 2 (by decide); omega) (by have := HO3.out.lt; simp; omega)
                have HO6 : Hid (FO w (w6.setCell ⟨w1.heap.size + 2 / 2, 2 % 2, none⟩ v') w1.heap.size (.pointer (some ⟨g, 0, none⟩)) n (fup V 2 v') (fup X 2 (X 2 ++ [y])) [] O) := HO3.out.app HB1.out.size (by decide) hown ⟨hgr.os, hgr.tape, hgr.output, hgr.size, hgr.block⟩ hbk
                have hh := HO3.out.hold (w6 := w6) (i := 2) (by decide) ⟨hgr.os, hgr.tape, hgr.output, hgr.size, hgr.block⟩
                have k6 : w6.cell? ⟨w1.heap.size + 1, 0, none⟩ = some (V 2) := (hh (w1.heap.size + 1) (by omega) 0).1.trans HO3.out.cells.2.2.1
                have f6 : w6.frozen? ⟨w1.heap.size + 1, 0, none⟩ = false := (hh (w1.heap.size + 1) (by omega) 0).2.trans (HO3.out.cells.2.2.2.2.2 0)
                have hne7 : w1.heap.size ≠ wr.heap.size := by have := HN.out; omega
                have hne8 : w1.heap.size + 1 ≠ wr.heap.size := by have := HN.out; omega
                obtain ⟨a', c', e', _⟩ := hown.form
                obtain ⟨m', Hm'⟩ := hid_exo (X 2 ++ [y]).length
                rw [← Hm'.out] at e'
                rw [E2.out] at k6 hrun
                rw [e'] at hrun HO6
                clear hh hown hgr hbk e' Hm'
                go_wp2_with (at_builtin; refine wpList_app_runI rfl _ _ _ _ rfl rfl _ _ _ rfl rfl hrun ?_; clear hrun)
                go_roundw
                case rel => exact ⟨k + 1, (fup V 2 (.slice a' m' c')), (fup X 2 (X 2 ++ [y])), [], O, by omega, by omega, by go_num, HO6.out, HP.out.outO⟩
                case measure => simp [intOf]; omega
              | [], [], HOx, HP =>
                rintro e w3 ⟨rfl, hf3, hb3, hs3⟩
                have HO3 : Hid (FO w w3 w1.heap.size (.pointer (some ⟨g, 0, none⟩)) n V X [] []) := HOx.out.sd hf3 hb3 hs3
                have hz3 : w1.heap.size < w3.heap.size := by have := HO3.out.lt; omega
                have hz5 : w1.heap.size + 1 < w3.heap.size := HO3.out.lt
                simp only [tkV, tkB, tkE]
                clear hf3 hb3 hs3 c0 c1 c2 HOx hbl
                go_wp2_with fail
                go_roundw
                case rel => exact ⟨k + 1, V, X, [], [], by omega, by omega, by go_num, HO3.out, HP.out.step⟩
                case measure => simp [intOf]; omega
          · have ho' : (rk == 1) = false := by simpa using ho1
            clear hz ho1
            cases ru with
            | true =>
              clear HX4
              go_wp2_with fail
              try rw [← Hx.out]
              go_roundw
              case rel => exact ⟨k + 1, V, X, U, O, by omega, by omega, by go_num, HOx.out, HP.out.step⟩
              case measure => simp [intOf]; omega
            | false =>
              clear HX4
              go_wp2_with fail
              try rw [← Hx.out]
              go_roundw
              case rel => exact ⟨k + 1, V, X, U, O, by omega, by omega, by go_num, HOx.out, HP.out.step⟩
              case measure => simp [intOf]; omega
      · have hend : (k < L.length ∧ ¬ (k : Int) < 300) ∨ ¬ k < L.length := by omega
        clear hlt
        have HO3 := HO
        have hk2 : k ≤ 300 := hk3
        obtain ⟨a0, c0, e0, _⟩ := (HO3.out.rw.own 0 (by decide)).form
        have E0 := (show Hid _ from e0)
        clear e0
        obtain ⟨a1, c1, e1, _⟩ := (HO3.out.rw.own 1 (by decide)).form
        have E1 := (show Hid _ from e1)
        clear e1
        obtain ⟨a2, c2, e2, _⟩ := (HO3.out.rw.own 2 (by decide)).form
        have E2 := (show Hid _ from e2)
        clear e2
        obtain ⟨a3, c3, e3, _⟩ := (HO3.out.rw.own 3 (by decide)).form
        have E3 := (show Hid _ from e3)
        clear e3
        obtain ⟨q0, q1, q2, q3, f0, f1⟩ := HO3.out.cells
        rw [E0.out] at q0
        rw [E1.out] at q1
        rw [E2.out] at q2
        rw [E3.out] at q3
        obtain ⟨l3, Hl3⟩ := hid_exo (X 3).length
        obtain ⟨l2, Hl2⟩ := hid_exo (X 2).length
        obtain ⟨lu, Hlu⟩ := hid_exo U.length
        obtain ⟨lo, Hlo⟩ := hid_exo O.length
        have HL1 : Hid ((X 1).length = l3 + lu) := by unfold Hid; rw [HP.out.u, List.length_append, Hl3.out, Hlu.out]
        have HL0 : Hid ((X 0).length = l2 + lo) := by unfold Hid; rw [HP.out.o, List.length_append, Hl2.out, Hlo.out]
        have hb3 : l3 ≤ 300 := by rw [Hl3.out]; have := HP.out.l 3 (by decide); omega
        have hb2 : l2 ≤ 300 := by rw [Hl2.out]; have := HP.out.l 2 (by decide); omega
        have hbu : lu ≤ n := by rw [Hlu.out]; obtain ⟨_, _, _, _, _, _, _, _, q, _⟩ := HO.out.fd; exact q.lu
        have hbo : lo ≤ n := by rw [Hlo.out]; obtain ⟨_, _, _, _, _, _, _, _, q, _⟩ := HO.out.fd; exact q.lo
        clear q0 q1 q2 q3 f0 f1
        rcases hend with ⟨hlt, h300⟩ | hlt
        all_goals
          go_wp2_with fail
          refine (len_any _ HO.out.fd.fd).mono ?_
          rintro e w3 ⟨rfl, hf3, hb3'⟩
          have HO4 : Hid (FO w w3 w1.heap.size (.pointer (some ⟨g, 0, none⟩)) n V X U O) := HO.out.below hb3'
          obtain ⟨q0, q1, q2, q3, f0, f1⟩ := HO4.out.cells
          rw [E0.out, HL0.out] at q0
          rw [E1.out, HL1.out] at q1
          rw [E2.out, ← Hl2.out] at q2
          rw [E3.out, ← Hl3.out] at q3
          rw [← Hlu.out, ← Hlo.out]
          clear hf3 hb3'
          have hm1 : ((l3 : Int) + (lu : Int) - (l3 : Int)) = (lu : Int) := by omega
          have hm0 : ((l2 : Int) + (lo : Int) - (l2 : Int)) = (lo : Int) := by omega
          have hg1 : ¬ ((n : Int) < (lu : Int)) := by omega
          have hg2 : ¬ ((n : Int) < (lo : Int)) := by omega
          go_wp2_with fail
          go_loopw [17] (fun i wz => ∃ kk : Nat, kk ≤ 2 ∧ i = .int .i64 (kk : Int) ∧ Hid (FO w wz w1.heap.size (.pointer (some ⟨g, 0, none⟩)) n V X U O)) (fun i _ => 2 - (intOf i).toNat)
          case atStart => exact ⟨0, by omega, rfl, HO4.out⟩
          case round =>
            clear q0 q1 q2 q3 f0 f1
            obtain ⟨kk, hkk, rfl, HOz⟩ := hrel
            obtain ⟨q0, q1, q2, q3, f0, f1⟩ := HOz.out.cells
            rw [E2.out, ← Hl2.out] at q2
            rw [E3.out, ← Hl3.out] at q3
            clear q0 q1 f0 f1
            have hcs : kk = 0 ∨ kk = 1 ∨ kk = 2 := by omega
            rcases hcs with hk0 | hk0 | hk0
            · subst hk0
              go_wp2_with fail
              go_loopw [18] (fun i wy => ∃ j : Nat, j ≤ l2 ∧ i = .int .i64 (j : Int) ∧ Hid (FO w wy w1.heap.size (.pointer (some ⟨g, 0, none⟩)) n V X U O)) (fun i _ => l2 - (intOf i).toNat)
              case atStart => exact ⟨0, by omega, rfl, HOz.out⟩
              case round =>
                obtain ⟨j, hj, rfl, HOy⟩ := hrel
                obtain ⟨q0, q1, q2, q3, f0, f1⟩ := HOy.out.cells
                rw [E0.out, HL0.out] at q0
                rw [E2.out, ← Hl2.out] at q2
                clear q1 q3 f0 f1
                by_cases hjl : j < l2
                · have r1 := (HOy.out.rw.own 0 (by decide)).reads
                  have r2 := (HOy.out.rw.own 2 (by decide)).reads
                  rw [E0.out] at r1
                  rw [E2.out] at r2
                  have hx1 : j < (X 0).length := by rw [HL0.out]; omega
                  have hx2 : j < (X 2).length := by rw [← Hl2.out]; exact hjl
                  obtain ⟨b1, o1, rfl, hbb1, hc1⟩ := r1.ptr2 (by omega)
                  obtain ⟨b2, o2, rfl, hbb2, hc2⟩ := r2.ptr2 (by omega)
                  have k1 := hc1 j hx1
                  have k2 := hc2 j hx2
                  have heq : (X 0)[j] = (X 2)[j] := by
                    have : (X 0)[j]? = (X 2)[j]? := by rw [HP.out.o, List.getElem?_append_left hx2]
                    rw [List.getElem?_eq_getElem hx1, List.getElem?_eq_getElem hx2] at this
                    simpa using this
                  rw [heq] at k1
                  obtain ⟨y, Hy⟩ := hid_exo ((X 2)[j])
                  rw [← Hy.out] at k1 k2
                  clear r1 r2 hc1 hc2 heq Hy hx1 hx2
                  go_wp2_with fail
                  go_quiet (fail)
                  clear k1 k2 q0 q2
                  go_wp2_with fail
                  go_roundw
                  case rel => exact ⟨j + 1, by omega, by go_num, HOy.out.below ⟨rfl, rfl, rfl, Nat.le_refl _, fun _ _ => rfl⟩⟩
                  case measure => simp [intOf]; omega
                · go_wp2_with fail
                  go_roundw
                  case rel => exact ⟨1, by omega, by go_num, HOy.out⟩
                  case measure => simp [intOf]
            · subst hk0
              go_wp2_with fail
              go_loopw [18] (fun i wy => ∃ j : Nat, j ≤ l3 ∧ i = .int .i64 (j : Int) ∧ Hid (FO w wy w1.heap.size (.pointer (some ⟨g, 0, none⟩)) n V X U O)) (fun i _ => l3 - (intOf i).toNat)
              case atStart => exact ⟨0, by omega, rfl, HOz.out⟩
              case round =>
                obtain ⟨j, hj, rfl, HOy⟩ := hrel
                obtain ⟨q0, q1, q2, q3, f0, f1⟩ := HOy.out.cells
                rw [E1.out, HL1.out] at q1
                rw [E3.out, ← Hl3.out] at q3
                clear q0 q2 f0 f1
                by_cases hjl : j < l3
                · have r1 := (HOy.out.rw.own 1 (by decide)).reads
                  have r2 := (HOy.out.rw.own 3 (by decide)).reads
                  rw [E1.out] at r1
                  rw [E3.out] at r2
                  have hx1 : j < (X 1).length := by rw [HL1.out]; omega
                  have hx2 : j < (X 3).length := by rw [← Hl3.out]; exact hjl
                  obtain ⟨b1, o1, rfl, hbb1, hc1⟩ := r1.ptr2 (by omega)
                  obtain ⟨b2, o2, rfl, hbb2, hc2⟩ := r2.ptr2 (by omega)
                  have k1 := hc1 j hx1
                  have k2 := hc2 j hx2
                  have heq : (X 1)[j] = (X 3)[j] := by
                    have : (X 1)[j]? = (X 3)[j]? := by rw [HP.out.u, List.getElem?_append_left hx2]
                    rw [List.getElem?_eq_getElem hx1, List.getElem?_eq_getElem hx2] at this
                    simpa using this
                  rw [heq] at k1
                  obtain ⟨y, Hy⟩ := hid_exo ((X 3)[j])
                  rw [← Hy.out] at k1 k2
                  clear r1 r2 hc1 hc2 heq Hy hx1 hx2
                  go_wp2_with fail
                  go_quiet (fail)
                  clear k1 k2 q1 q3
                  go_wp2_with fail
                  go_roundw
                  case rel => exact ⟨j + 1, by omega, by go_num, HOy.out.below ⟨rfl, rfl, rfl, Nat.le_refl _, fun _ _ => rfl⟩⟩
                  case measure => simp [intOf]; omega
                · go_wp2_with fail
                  go_roundw
                  case rel => exact ⟨2, by omega, by go_num, HOy.out⟩
                  case measure => simp [intOf]
            · subst hk0
              go_wp2_with fail
              refine (alive_any _).mono ?_
              rintro e w7 ⟨rfl, hb2'⟩
              have HB7 : Hid (Below w.heap.size w w7) := HOz.out.bl.trans (hb2'.mono HOz.out.bl.size)
              clear hb2'
              go_wp2_with fail
              go_ret
              exact ⟨rfl, HB7.out⟩
end Go.Proofs.Ytkamambgpcdonaa
