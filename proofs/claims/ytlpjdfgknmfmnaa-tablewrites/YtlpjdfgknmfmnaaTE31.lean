/- RR TT3 TR2 B10, joined. -/
import Derived.Test.YtlpjdfgknmfmnaaTE11
import Derived.Test.YtlpjdfgknmfmnaaTE20
import Derived.Test.YtlpjdfgknmfmnaaTE27
import Derived.Test.YtlpjdfgknmfmnaaTE29
import Derived.Test.YtlpjdfgknmfmnaaTE30
import Derived.RangeFuncCalls
import Derived.TacticsIn
/- A drawn region in a round of a range over a function, walked as everywhere. -/
namespace Go.Proofs.Ytlpjdfgknmfmnaa
open Go.RowKit

variable {P : Program} {ops : Array Oper} {Q : Exit → Act → World → Prop}
theorem noPanic_shut {Q : Exit → Act → World → Prop} (h : ¬ LetsOut Q) : ¬ LetsOut (NoPanic Q) := fun ⟨a, w, q⟩ => h ⟨a, w, NoPanic.imp _ _ _ q⟩
/-- No operation is a defer statement, and none is of the library. -/
def plainOps (ops : Array Oper) : Bool := ops.toList.all fun o => match o.op with | .defer _ => false | _ => true
theorem plainOps_spec (h : plainOps ops = true) (i : Nat) (o : Oper) (hi : ops[i]? = some o) : ∀ c, o.op ≠ .defer c := by
  intro c e
  have hm : o ∈ ops.toList := Array.mem_toList_iff.2 (Array.mem_of_getElem? hi)
  have := List.all_eq_true.1 h o hm
  rw [e] at this
  simp at this
theorem opsIn_round {l n : Nat} (hd : ∀ (i : Nat) (o : Oper), ops[i]? = some o → ∀ c, o.op ≠ .defer c) (hQ : ¬ LetsOut Q) : ∀ (L : List Nat) (a : Act) (w : World), wpOps P ops Q L a w → wpOpsIn (Fence.wide.inRound l) n P ops Q L a w
  | [], _, _, h => h
  | i :: rest, a, w, h => by
    have ih := opsIn_round (l := l) (n := n) hd hQ rest
    simp only [wpOps] at h
    simp only [wpOpsIn]
    cases ho : ops[i]? with
    | none => simp only [ho] at h ⊢; exact ih a w h
    | some o =>
      simp only [ho] at h ⊢
      by_cases hw : Region.wanted o (yielded ops a.tmps) = true
      · simp only [hw, if_true] at h ⊢
        have h := h.resolve_right (fun q => hQ q.2)
        refine ⟨fun _ _ => trivial, ?_⟩
        rw [Fence.inRound_round, Oper.semAt_some _ _ _ (hd i o ho)]
        unfold Oper.wp at h
        cases hr : (execOp a.eval o).run P w with
        | ok x w' =>
          rw [hr] at h
          cases x <;> simp only [Oper.upon, Oper.uponIn] at h ⊢
          all_goals first
            | exact ih _ _ h
            | exact ⟨fun hh => (by cases hh), (callsIn_wide.2 (Calls.mono h (fun e w'' he => by cases e <;> first | exact ih _ _ he | exact he))).inRound l⟩
            | exact ⟨fun hh => (by cases hh), fun c cs _ => let ⟨v, w2, r, st⟩ := h c cs; ⟨v, w2, ih _ _ r, stepsIn_wide.2 st⟩⟩
        | halt x w' =>
          rw [hr] at h
          cases x <;> simp only [Oper.upon, Oper.uponIn] at h ⊢ <;> exact h
      · simp only [hw, if_false, Bool.false_eq_true] at h ⊢
        exact ⟨fun _ _ => trivial, ih _ _ h⟩
theorem wpIn_round_S {id l n : Nat} {a : Act} {w : World} (k : Nat) (St Pr : World → Prop) (hm : P.follows .mixedOrders = true) (hd : plainOps ops = true) (hQ : ¬ LetsOut Q) (hS : St w.drew) (hP : Pr w.drew)
    (h : StK k St Pr (Array.replicate ops.size false) w.drew → wpAnyS P .any ops (NoPanic Q) k St Pr ops.size (Array.replicate ops.size false) a w.drew) : (Code.region id ops true).wpIn (Fence.wide.inRound l) n P Q a w :=
  wpIn_mono (wpIn_region_draw fun t => by
    simp only [Region.schedule, hm, Bool.true_or, if_true]
    exact opsIn_round (plainOps_spec hd) (noPanic_shut hQ) _ _ _ (wpAny_sound ops.size t _ a _ (wpAny_of_S _ _ _ _ (h ⟨hS, fun _ => hP⟩)))) NoPanic.imp
end Go.Proofs.Ytlpjdfgknmfmnaa

/- table: Write of any list. -/
namespace Go.Proofs.Ytlpjdfgknmfmnaa
open Go.RowKit Go.Shelf
attribute [local go_sem] Oper.semAt_some

theorem wp_app_runT {w w' : World} {o : Oper} {a : Act} {K : Act → World → Prop} {Q : Exit → Act → World → Prop} (s x : Operand) (t ty : TypeId) (ho : o.op = .call { callee := .builtin .append, args := #[s, x], argTypes := #[t, t] }) (hty : o.type = ty) (v vx v' : Value) (hs : a.eval s = v) (hx : a.eval x = vx)
    (hrun : (Builtin.append_ #[t, t] ty #[v, vx]).run Try.prog w = .ok v' w') (h : K (a.put o.dst v') w') : o.wp Try.prog a w K Q := by
  subst hty
  unfold Oper.wp
  simp [execOp, ho, resolve, invoke, builtin, hs, hx, hrun, Result.andThen]
  exact h
theorem wpList_app_runT {w w' : World} {ops : Array Oper} {rest : List Oper} {o : Oper} {a : Act} {Q : Exit → Act → World → Prop} (hgd : o.guard = none) (s x : Operand) (t ty : TypeId) (ho : o.op = .call { callee := .builtin .append, args := #[s, x], argTypes := #[t, t] }) (hty : o.type = ty) (v vx v' : Value) (hs : a.eval s = v) (hx : a.eval x = vx)
    (hrun : (Builtin.append_ #[t, t] ty #[v, vx]).run Try.prog w = .ok v' w') (h : wpList Try.prog ops Q rest (a.put o.dst v') w') : wpList Try.prog ops Q (o :: rest) a w :=
  wpList_plain hgd fun _ hK => wp_app_runT s x t ty ho hty v vx v' hs hx hrun (hK _ _ h)
theorem keeps_below {A B : World} (h : Below A.heap.size A B) : KeepsOthers A B := ⟨h.size, fun k _ hk _ => (h.block k (Array.getElem?_eq_some_iff.1 hk).1).trans hk⟩
theorem keeps_row {A B : World} {base : Nat} {e : TypeId} {size : Nat} {v : Value} {n : Nat} {xs : List Value} (h : A.ownsRow base e size v n xs) (hg : A.grownBy B v.ownBlock) : KeepsOthers A B :=
  KeepsOthers.of_grownBy hg fun j o ej hj => by
    rcases h.2 with ⟨rfl, _⟩ | ⟨g, cap, cur, rfl, _, hgb, _⟩
    · simp [Value.ownBlock] at ej
    · obtain rfl : g = j := by simpa [Value.ownBlock] using ej
      rw [hgb] at hj; cases hj; rfl
/-- Another row of another type stands where a row grows. -/
theorem row_other {w w1 : World} {b1 b2 e1 e2 s1 s2 : Nat} {v z : Value} {n k : Nat} {ls xs : List Value} (h : w.ownsRow b1 e1 s1 v n ls) (hr : w.ownsRow b2 e2 s2 z k xs) (he : e2 ≠ e1) (hg : w.grownBy w1 v.ownBlock) : w1.ownsRow b2 e2 s2 z k xs := by
  refine hr.kept hg ?_
  rcases hr.2 with ⟨rfl, _⟩ | ⟨g, cap, cur, rfl, _, hgb, _⟩
  · exact .inl rfl
  · refine .inr fun e' => ?_
    rcases h.2 with ⟨rfl, _⟩ | ⟨g', cap', cur', rfl, _, hgb', _⟩
    · simp [Value.ownBlock] at e'
    · obtain rfl : g = g' := by simpa [Value.ownBlock] using e'
      rw [hgb] at hgb'
      simp at hgb'
      exact he hgb'.2
/-- A row of pairs of one's own, whose keys are of before. -/
def IxR (w W : World) (base : Nat) (ob : Option Nat) (v : Value) (l : List Pr) : Prop := ∃ xs : List Pe, W.ownsRow base 53 2 v xs.length (xs.flatMap p2) ∧ xs.map Pe.p = l ∧ ∀ x ∈ xs, Reads w x.kv x.p.1 ∧ Own W base x.vv x.p.2 ∧ ∀ k, x.vv.ownBlock = some k → ob ≠ some k
theorem IxR.nil (w W : World) (base : Nat) (ob : Option Nat) : IxR w W base ob (.slice none 0 0) [] := ⟨[], World.ownsRow_nil _ _ _ _, rfl, fun _ h => by cases h⟩
theorem IxR.kc {w : World} {n : Nat} {A B : World} {base : Nat} {ob : Option Nat} {v : Value} {l : List Pr} (h : IxR w A base ob v l) (hk : Kc n A B) : IxR w B base ob v l := by
  obtain ⟨xs, h1, h2, h3⟩ := h
  exact ⟨xs, row_kc h1 hk, h2, fun x hx => ⟨(h3 x hx).1, (h3 x hx).2.1.kc hk, (h3 x hx).2.2⟩⟩
theorem IxR.below {w A B : World} {base : Nat} {ob : Option Nat} {v : Value} {l : List Pr} (h : IxR w A base ob v l) (hb : Below A.heap.size A B) : IxR w B base ob v l := h.kc (Kc.of_below hb (Nat.le_refl _))
theorem IxR.form {w W : World} {base : Nat} {ob : Option Nat} {v : Value} {l : List Pr} (h : IxR w W base ob v l) : ∃ a c, v = .slice a l.length c := by
  obtain ⟨xs, h1, h2, _⟩ := h
  have e : l.length = xs.length := by rw [← h2, List.length_map]
  rcases h1.2 with ⟨g1, g2⟩ | ⟨g, cap, cur, g1, _⟩
  · exact ⟨none, 0, by rw [g1, e, g2]⟩
  · exact ⟨_, cap, by rw [g1, e]⟩
theorem IxR.setB {w W : World} {base B : Nat} {ob : Option Nat} {t : TypeId} {v u : Value} {l : List Pr} (u' : Value) (h : IxR w W base ob v l) (hb : Boxed W B t u) (h1 : t ≠ 5) (h2 : t ≠ 53) : IxR w (W.setCell ⟨B, 0, none⟩ u') base ob v l := by
  obtain ⟨xs, g1, g2, g3⟩ := h
  exact ⟨xs, g1.kept (grownBy_setCell' W B u') (.inr (hb.not_row h2 g1).symm), g2, fun x hx => ⟨(g3 x hx).1, own_set u' (g3 x hx).2.1 hb h1, (g3 x hx).2.2⟩⟩
theorem IxR.reads {w W : World} {base : Nat} {ob : Option Nat} {v : Value} {l : List Pr} (h : IxR w W base ob v l) (hb : Below w.heap.size w W) : PReads W v l := by
  obtain ⟨xs, h1, rfl, h3⟩ := h
  have hlt := World.ownsRow.lt h1
  rcases h1.2 with ⟨g1, g2⟩ | ⟨g, cap, cur, hv, hg, hw, hc, hm, _⟩
  · have : xs = [] := List.length_eq_zero_iff.1 g2
    subst this
    exact ⟨none, 0, by rw [g1]; rfl, Nat.le_refl _, Nat.zero_le _, .inl rfl⟩
  · rw [hv] at h1
    refine ⟨_, cap, by rw [hv, List.length_map], by rw [List.length_map]; exact hc, hm, .inr ⟨g, 0, rfl, (hlt g (by rw [hv]; rfl)).2, fun j hj => ?_⟩⟩
    rw [List.length_map] at hj
    have e0 := flat2 xs j 0 hj (by decide)
    have e1 := flat2 xs j 1 hj (by decide)
    obtain ⟨q1, q2, _⟩ := h3 xs[j] (List.getElem_mem hj)
    refine ⟨xs[j].kv, xs[j].vv, ?_, ?_, ?_, ?_⟩
    · rw [show 0 + j * 2 = 2 * j + 0 by omega, World.ownsRow.cellAt h1 _ (by omega), e0]; rfl
    · rw [show 0 + j * 2 + 1 = 2 * j + 1 by omega, World.ownsRow.cellAt h1 _ (by omega), e1]; rfl
    · rw [List.getElem_map]; exact q1.below hb
    · rw [List.getElem_map]; exact q2.reads
/-- While rows are written. -/
structure IW (w : World) (zz : Nat) (v : Value) (L : List Et) (pre : List Value) (W : World) : Prop where
  o : ∃ vo vi, Boxed W zz 25 vo ∧ Own W zz vo (cat ((tRows L).take pre.length)) ∧ Boxed W (zz + 1) 47 vi ∧ IxR w W zz vo.ownBlock vi ((tIdx L).take pre.length)
  s : Boxed W (zz + 1 + 1) 22 v
  n : Boxed W (zz + 1 + 1 + 1) 3 (.int .i64 16)
  b : Below w.heap.size w W
  z : w.heap.size ≤ zz
theorem IW.kc {w : World} {z : Nat} {v : Value} {L : List Et} {pre : List Value} {A B : World} (h : IW w z v L pre A) (hk : Kc z A B) : IW w z v L pre B := by
  obtain ⟨⟨vo, vi, h1, h2, h3, h4⟩, h5, h6, h7, h8⟩ := h
  exact ⟨⟨vo, vi, boxed_kc_C h1 hk, h2.kc hk, boxed_kc_C h3 hk, h4.kc hk⟩, boxed_kc_C h5 hk, boxed_kc_C h6 hk, h7.trans (hk.b.mono h8), h8⟩
/-- Within a round: what stands, and what has been kept. -/
structure JW (w : World) (zz : Nat) (v vo : Value) (O : List UInt8) (vi : Value) (X : List Pr) (W0 W : World) : Prop where
  o1 : Boxed W zz 25 vo
  o2 : Own W zz vo O
  i1 : Boxed W (zz + 1) 47 vi
  i2 : IxR w W zz vo.ownBlock vi X
  s : Boxed W (zz + 1 + 1) 22 v
  n : Boxed W (zz + 1 + 1 + 1) 3 (.int .i64 16)
  b : Below w.heap.size w W
  z : w.heap.size ≤ zz
  k : KeepsOthers W0 W
  bz : Below zz W0 W
  zl : zz ≤ W.heap.size
theorem JW.below {w : World} {zz : Nat} {v vo : Value} {O : List UInt8} {vi : Value} {X : List Pr} {W0 W W' : World} (h : JW w zz v vo O vi X W0 W) (hb : Below W.heap.size W W') : JW w zz v vo O vi X W0 W' := by
  have hk : Kc zz W W' := Kc.of_below hb h.zl
  exact ⟨boxed_kc_C h.o1 hk, h.o2.kc hk, boxed_kc_C h.i1 hk, h.i2.kc hk, boxed_kc_C h.s hk, boxed_kc_C h.n hk, h.b.trans (hb.mono h.b.size), h.z, h.k.trans (keeps_below hb), h.bz.trans hk.b, Nat.le_trans h.zl hb.size⟩
theorem JW.drew {w : World} {zz : Nat} {v vo : Value} {O : List UInt8} {vi : Value} {X : List Pr} {W0 W : World} (h : JW w zz v vo O vi X W0 W) : JW w zz v vo O vi X W0 W.drew := h.below (Below.refl _ _).drew
/-- A pair more. -/
theorem JW.app {w : World} {zz : Nat} {v vo : Value} {O : List UInt8} {vi : Value} {X : List Pr} {W0 W : World} (h : JW w zz v vo O vi X W0 W) {kv vv : Value} {k u : List UInt8} (hk : Reads w kv k) (hv : Own W zz vv u) (hap : ∀ k, vv.ownBlock = some k → vo.ownBlock ≠ some k) {B : Nat}
    (hc : W.heap[B]? = some (.cells #[kv, vv] 53)) (hX : X.length ≤ 100000) (ty : TypeId) :
    ∃ v' w1, (Builtin.append_ #[47, 47] ty #[vi, .slice (some ⟨B, 0, none⟩) 1 1]).run Try.prog W = .ok v' w1 ∧ (∃ a c, v' = .slice a (X.length + 1) c) ∧ w1.cell? ⟨zz + 1, 0, none⟩ = some vi ∧ w1.frozen? ⟨zz + 1, 0, none⟩ = false ∧ w1.cell? ⟨zz, 0, none⟩ = some vo ∧ JW w zz v vo O v' (X ++ [(k, u)]) W0 (w1.setCell ⟨zz + 1, 0, none⟩ v') := by
  obtain ⟨i0, hi, hz0, hz1, hz2⟩ := info_parts infoP
  obtain ⟨xs, g1, g2, g3⟩ := h.i2
  have hxl : xs.length = X.length := by rw [← g2, List.length_map]
  have hnews : ∀ j u, [kv, vv][j]? = some u → W.cell? ((⟨B, 0, none⟩ : Addr).add j) = some u := by
    intro j u hj
    match j, hj with
    | 0, hj => simp at hj; subst hj; simp [World.cell?, hc, Addr.add]
    | 1, hj => simp at hj; subst hj; simp [World.cell?, hc, Addr.add]
  obtain ⟨ak, ck, ek, _⟩ := hk.form
  obtain ⟨av, cv, ev, _⟩ := hv.form
  obtain ⟨v', w1, hrun, hown, hg, _⟩ := run_append_own (P := Try.prog) W zz 47 ty 53 i0 _ 2 48 Try.underlying47 hi hz0 hz1 hz2 rfl (by decide) vi xs.length (xs.flatMap p2) g1 ⟨B, 0, none⟩ 1 1 [kv, vv] rfl hnews (by rw [ek, ev]; simp [Value.oneCell']) (by unfold maxLen; omega) (by omega) h.zl
  have hi1 : Boxed w1 (zz + 1) 47 vi := h.i1.kept hg (h.i1.not_row (by decide) g1)
  have hO1 : Own w1 zz vo O := row_other g1 h.o2 (by decide) hg
  have ho1 : Boxed w1 zz 25 vo := h.o1.kept hg (h.o1.not_row (by decide) g1)
  have hs1 := h.s.kept hg (h.s.not_row (by decide) g1)
  have hn1 := h.n.kept hg (h.n.not_row (by decide) g1)
  have hbz : Below zz W w1 := (Below.refl _ _).grown hg h.zl (own_block g1)
  have hX1 : IxR w w1 zz vo.ownBlock v' (X ++ [(k, u)]) := by
    refine ⟨xs ++ [⟨kv, vv, (k, u), undef, []⟩], by rw [List.length_append, List.flatMap_append]; exact hown, by rw [List.map_append, g2]; rfl, fun x hx => ?_⟩
    rcases List.mem_append.1 hx with hx | hx
    · exact ⟨(g3 x hx).1, row_other g1 (g3 x hx).2.1 (by decide) hg, (g3 x hx).2.2⟩
    · simp at hx; subst hx; exact ⟨hk, row_other g1 hv (by decide) hg, hap⟩
  have gs := grownBy_setCell' w1 (zz + 1) v'
  refine ⟨v', w1, hrun, ?_, hi1.cell, hi1.frozen, ho1.cell, ⟨ho1.kept gs (fun e => by have := Option.some.inj e; omega), own_set v' hO1 hi1 (by decide), hi1.set v', ?_, hs1.kept gs (fun e => by have := Option.some.inj e; omega), hn1.kept gs (fun e => by have := Option.some.inj e; omega), ?_, h.z, ?_, ?_, ?_⟩⟩
  · obtain ⟨a, c, e⟩ := hX1.form
    exact ⟨a, c, by rw [e, List.length_append]; rfl⟩
  · obtain ⟨ys, q1, q2, q3⟩ := hX1
    exact ⟨ys, q1.kept gs (.inr (hi1.not_row (by decide) q1).symm), q2, fun x hx => ⟨(q3 x hx).1, own_set v' (q3 x hx).2.1 hi1 (by decide), (q3 x hx).2.2⟩⟩
  · exact (h.b.trans (hbz.mono h.z)).setCell (p := ⟨zz + 1, 0, none⟩) (by have := h.z; show w.heap.size ≤ zz + 1; omega) _
  · exact (h.k.trans (keeps_row g1 hg)).trans (KeepsOthers.setCell _ _ _)
  · exact (h.bz.trans hbz).setCell (p := ⟨zz + 1, 0, none⟩) (by show zz ≤ zz + 1; omega) _
  · have := hbz.size; have := h.zl; simp [World.setCell]; omega
/-- Bytes more. -/
theorem JW.appO {w : World} {zz : Nat} {v vo : Value} {O : List UInt8} {vi : Value} {X : List Pr} {W0 W : World} (h : JW w zz v vo O vi X W0 W) {vx : Value} {l : List UInt8} (hr : Reads W vx l) (h0 : 0 < l.length) (hO : O.length + l.length ≤ 140737488355328) (ty : TypeId) :
    ∃ v' w1, (Builtin.append_ #[25, 25] ty #[vo, vx]).run Try.prog W = .ok v' w1 ∧ (∃ a c, v' = .slice a (O ++ l).length c) ∧ w1.cell? ⟨zz, 0, none⟩ = some vo ∧ w1.frozen? ⟨zz, 0, none⟩ = false ∧ w1.cell? ⟨zz + 1, 0, none⟩ = some vi ∧ JW w zz v v' (O ++ l) vi X W0 (w1.setCell ⟨zz, 0, none⟩ v') ∧ Own w1 zz v' (O ++ l) ∧ Below w.heap.size w w1 ∧ KeepsOthers W0 w1 := by
  obtain ⟨i0, hi, hz0, hz1, hz2⟩ := info_parts info5
  rcases hr with ⟨rfl, _⟩ | ⟨b, off, cap, rfl, h2, h3, h4, h5, h6⟩
  · simp at h0
  obtain ⟨v', w1, hrun, hown, hg, _⟩ := run_append_own (P := Try.prog) W zz 25 ty 5 i0 _ 1 1 Try.underlying25 hi hz0 hz1 hz2 rfl (by decide) vo O.length (O.map bc) h.o2 ⟨b, off, none⟩ l.length cap (l.map bc) (by simp) (newsR h6) one_bc (by unfold maxLen; omega) (by omega) h.zl
  obtain ⟨xs, g1, g2, g3⟩ := h.i2
  have hown2 : Own w1 zz v' (O ++ l) := by unfold Own; rw [List.length_append, List.map_append]; exact hown
  have ho1 : Boxed w1 zz 25 vo := h.o1.kept hg (h.o1.not_row (by decide) h.o2)
  have hi1 : Boxed w1 (zz + 1) 47 vi := h.i1.kept hg (h.i1.not_row (by decide) h.o2)
  have hs1 := h.s.kept hg (h.s.not_row (by decide) h.o2)
  have hn1 := h.n.kept hg (h.n.not_row (by decide) h.o2)
  have hbz : Below zz W w1 := (Below.refl _ _).grown hg h.zl (own_block h.o2)
  have gs := grownBy_setCell' w1 zz v'
  have hG : GOwn W 5 1 vo O.length (O.map bc) := ⟨h.o2.1, by
    rcases h.o2.2 with q | ⟨g, cp, cur, e1, _, e2, e3, e4, e5⟩
    · exact .inl q
    · exact .inr ⟨g, cp, cur, e1, e2, e3, e4, by rw [e5.1]; exact Nat.le_refl _, e5.2⟩⟩
  obtain ⟨v2, w2, hrun2, _, _, hwh⟩ := run_gapp (P := Try.prog) 25 ty 5 i0 _ 1 1 Try.underlying25 hi hz0 hz1 hz2 rfl vo O.length (O.map bc) hG (.slice (some ⟨b, off, none⟩) l.length cap) l.length (l.map bc) (reads_src (.inr ⟨b, off, cap, rfl, h2, h3, h4, h5, h6⟩)) one_bc (by unfold maxLen; omega) (by omega)
  rw [hrun] at hrun2
  cases hrun2
  have hX1 : IxR w w1 zz v'.ownBlock vi X := by
    refine ⟨xs, row_other h.o2 g1 (by decide) hg, g2, fun x hx => ⟨(g3 x hx).1, ?_, fun k hk e => ?_⟩⟩
    · refine (g3 x hx).2.1.kept hg ?_
      rcases hob : x.vv.ownBlock with _ | k
      · exact .inl rfl
      · exact .inr (fun e => (g3 x hx).2.2 k hob e.symm)
    · rcases hwh k e with q | q
      · exact (g3 x hx).2.2 k hk q
      · have := (World.ownsRow.lt (g3 x hx).2.1 k hk).2; omega
  refine ⟨v', w1, hrun, ?_, ho1.cell, ho1.frozen, hi1.cell, ⟨ho1.set v', own_set v' hown2 ho1 (by decide), hi1.kept gs (fun e => by have := Option.some.inj e; omega), hX1.setB v' ho1 (by decide) (by decide), hs1.kept gs (fun e => by have := Option.some.inj e; omega), hn1.kept gs (fun e => by have := Option.some.inj e; omega), ?_, h.z, ?_, ?_, ?_⟩, hown2, h.b.trans (hbz.mono h.z), h.k.trans (keeps_row h.o2 hg)⟩
  · obtain ⟨a, c, e, _⟩ := hown2.form
    exact ⟨a, c, e⟩
  · exact (h.b.trans (hbz.mono h.z)).setCell (p := ⟨zz, 0, none⟩) h.z _
  · exact (h.k.trans (keeps_row h.o2 hg)).trans (KeepsOthers.setCell _ _ _)
  · exact (h.bz.trans hbz).setCell (p := ⟨zz, 0, none⟩) (Nat.le_refl _) _
  · have := hbz.size; have := h.zl; simp [World.setCell]; omega
end Go.Proofs.Ytlpjdfgknmfmnaa

/- The reference's row of layer 10. -/
namespace Go.Proofs.Ytlpjdfgknmfmnaa
open Go.RowKit

/-- Bytes of one's own, some of them. -/
theorem RdX.of_own {W : World} {base : Nat} {v : Value} {l : List UInt8} (h : Own W base v l) (h0 : 0 < l.length) : RdX W base none v l := by
  refine ⟨h.reads, ?_⟩
  rcases h.2 with ⟨_, h2⟩ | ⟨g, cap, cur, hv, hg, hw, r⟩
  · omega
  · exact ⟨g, 0, l.length, cap, cur, hv, hg, hw, by simp⟩
set_option maxRecDepth 100000 in
set_option maxHeartbeats 4000000 in
theorem refRow10_any (v : Value) (L : List Et) (w : World) (h : TRd w v L) (hl : L.length ≤ 4096) (hr : ∀ x ∈ L, rightB x.2 = true) : Calls Try.prog 28 #[v] w fun e w' => ∃ u, e = .returned u ∧ Own w' w.heap.size u (wrB (rowP L)) ∧ Below w.heap.size w w' := by
  obtain ⟨a, cap, rfl, hc, hm⟩ : ∃ a cap, v = .slice a L.length cap ∧ L.length ≤ cap ∧ cap ≤ maxLen := by obtain ⟨a, cap, h1, h2, h3, _⟩ := h; exact ⟨a, cap, h1, h2, h3⟩
  unfold maxLen at hm
  have HR : Hid (TRd w (.slice a L.length cap) L) := h
  have HRi : Hid (∀ x ∈ L, rightB x.2 = true) := hr
  obtain ⟨N, HN⟩ : ∃ n, Hid (L.length = n) := ⟨_, rfl⟩
  rw [HN.out] at HR hc hl ⊢
  obtain ⟨V, HV⟩ := hid_ex (wrB (rowP L))
  rw [← HV.out]
  have HPl : Hid ((rowP L).length = N) := by unfold Hid rowP; rw [List.length_map, HN.out]
  clear h hr
  go_enter Try.func28, Try.ntmps28
  go_wp2_with fail
  go_loopw [3, 4] (fun o i wr => ∃ (j : Nat), i = .int .i64 (j : Int) ∧ j ≤ N ∧ Hid (RxR w wr w.heap.size none o ((rowP L).take j)) ∧ Hid (Below w.heap.size w wr)) (fun _ i _ => N - (intOf i).toNat)
  case atStart => exact ⟨0, rfl, by omega, RxR.nil _ _ _ _, Below.refl _ _⟩
  case round =>
    obtain ⟨j, rfl, hj, HX, HB⟩ := hrel
    by_cases hlt : j < N
    · have hlt' : (j : Int) < (N : Int) := by omega
      have hjl : j < L.length := by rw [HN.out]; exact hlt
      obtain ⟨x, Hx⟩ := hid_ex L[j]
      have HTk : Hid ((rowP L).take (j + 1) = (rowP L).take j ++ [(x.1, wrU x.2)]) := by
        unfold Hid
        rw [List.take_add_one, List.getElem?_eq_getElem (by rw [HPl.out]; exact hlt)]
        unfold rowP
        rw [List.getElem_map, Hx.out]; rfl
      have hrt : rightB x.2 = true := by rw [Hx.out]; exact HRi.out _ (List.getElem_mem hjl)
      have HRg : Hid (rightB x.2 = true) := hrt
      have HPj : Hid (((rowP L).take j).length = j) := by unfold Hid; rw [List.length_take, HPl.out]; omega
      obtain ⟨b, off, kv, rfl, hbw, hcs, hrk, hag⟩ := HR.out.at hjl Hx.out
      have HCS : Hid _ := hcs
      obtain ⟨k, A⟩ := x
      simp only at hrk hag HCS HTk HRg
      obtain ⟨ka, kc, rfl, _⟩ := hrk.form
      obtain ⟨KL, HKL⟩ : ∃ n, Hid (k.length = n) := ⟨_, rfl⟩
      rw [HKL.out] at hrk HCS
      have HRk : Hid (Reads w (.slice ka KL kc) k) := hrk
      have HBW : Hid (b < w.heap.size) := hbw
      have hcs' := fun i hi => (HB.out.cell (p := ⟨b, off + j * 7 + i, none⟩) hbw).trans (HCS.out i hi)
      have c0 := hcs' 0 (by decide)
      have c1 := hcs' 1 (by decide)
      have c2 := hcs' 2 (by decide)
      have c3 := hcs' 3 (by decide)
      have c4 := hcs' 4 (by decide)
      have c5 := hcs' 5 (by decide)
      have c6 := hcs' 6 (by decide)
      simp only [e7, List.getElem_cons_succ, List.getElem_cons_zero, Nat.add_zero] at c0 c1 c2 c3 c4 c5 c6
      have HAW : Hid (∀ w, Calls Try.prog 65 #[.agg #[.int .u64 A.c, .bool A.o, .int .i64 (hi A.s), .int .u64 (lo A.s), .int .i64 A.mn, .int .i64 A.mx]] w _) := fun w => refAW A hag w
      clear hcs hcs' hrk hag Hx hrt
      go_wp2_with fail
      refine (HAW.out _).mono ?_
      clear HAW
      rintro e w1 ⟨v1, rfl, ho1, hb1⟩
      have HB1 : Hid (Below w.heap.size w w1) := HB.out.trans (hb1.mono HB.out.size)
      have HX1 : Hid (RxR w w1 w.heap.size none _ _) := HX.out.below hb1
      have HO1 : Hid (RdX w1 w.heap.size none v1 (wrU A)) := RdX.of_own (ho1.mono HB.out.size) (by rw [wrU_len HRg.out]; decide)
      obtain ⟨a1, d1, rfl, _⟩ := ho1.form
      obtain ⟨ao, co, hov⟩ := HX.out.form
      rw [HPj.out] at hov
      subst hov
      have c0 := (HB1.out.cell (p := ⟨b, off + j * 7, none⟩) HBW.out).trans (HCS.out 0 (by decide))
      simp only [e7, List.getElem_cons_zero] at c0
      clear hb1 ho1 HB HX c1 c2 c3 c4 c5 c6
      have hz1 := HB1.out.size
      obtain ⟨W2, HW2⟩ := hid_ex (w1.alloc (.cells #[.slice ka KL kc, .slice a1 (wrU A).length d1] 64))
      have hb2 : Below w1.heap.size w1 W2 := by rw [HW2.out]; exact (Below.refl _ _).alloc (Nat.le_refl _) _
      have hxc : W2.heap[w1.heap.size]? = some (.cells #[.slice ka KL kc, .slice a1 (wrU A).length d1] 64) := by rw [HW2.out]; exact heap_alloc_new _ _
      have HB2 : Hid (Below w.heap.size w W2) := HB1.out.trans (hb2.mono hz1)
      obtain ⟨v3, W3, hr3, ⟨a3, c3, hv3⟩, hX3, _, hb3⟩ := (HX1.out.below hb2).app HB2.out.size HRk.out (HO1.out.below hb2) hxc (by rw [HPj.out]; omega) 62
      rw [HPj.out] at hv3
      subst hv3
      have HB3 : Hid (Below w.heap.size w W3) := HB2.out.trans hb3
      have HX3 : Hid (RxR w W3 w.heap.size none (.slice a3 (j + 1) c3) ((rowP L).take (j + 1))) := by rw [HTk.out]; exact hX3
      rw [HW2.out] at hr3
      clear hX3 hb3 hb2 hxc HW2 HB1 HX1 HO1 HB2 hz1
      go_wp2_with (at_builtin; refine wpList_app_runT rfl _ _ _ _ (by rfl) (by rfl) _ _ _ (by rfl) (by rfl) hr3 ?_; clear hr3)
      go_roundw
      case rel => exact ⟨j + 1, by go_num, by omega, HX3, HB3⟩
      case measure => simp [intOf]; omega
    · obtain rfl : j = N := by omega
      have hlt' : ¬ (j : Int) < (j : Int) := by omega
      have hX := HX.out
      rw [← HPl.out, List.take_length] at hX
      have hW := refWrite_any _ _ _ (hX.reads HB.out)
      rw [← HV.out] at hW
      have HW : Hid (Calls Try.prog 30 #[_] wr _) := hW
      obtain ⟨ao, co, hov⟩ := hX.form
      subst hov
      clear hX hW HX
      go_wp2_with fail
      refine HW.out.mono ?_
      clear HW
      rintro e w1 ⟨v1, rfl, ho1, hb1⟩
      have HB1 : Hid (Below w.heap.size w w1) := HB.out.trans (hb1.mono HB.out.size)
      have HO1 : Hid (Own w1 w.heap.size v1 V) := ho1.mono HB.out.size
      obtain ⟨a1, d1, rfl, _⟩ := ho1.form
      clear ho1 hb1
      go_wp2_with fail
      go_ret
      exact ⟨_, rfl, HO1.out, HB1.out⟩
end Go.Proofs.Ytlpjdfgknmfmnaa

/- Many keys, and two filters side by side. -/
namespace Go.Proofs.Ytlpjdfgknmfmnaa
open Go.RowKit

/-- Keys are added, one behind the other. -/
def adK (h : Nat) (D : List UInt8) (L : List (List UInt8)) : List UInt8 := L.foldl (fun E k => adF E (plc k (8 * D.length) h)) D
theorem fold_len (n h : Nat) (L : List (List UInt8)) : ∀ D : List UInt8, (L.foldl (fun E k => adF E (plc k n h)) D).length = D.length := by
  induction L with
  | nil => intro D; rfl
  | cons l L ih => intro D; rw [List.foldl_cons, ih, adF_len]
theorem adK_len (h : Nat) (D : List UInt8) (L : List (List UInt8)) : (adK h D L).length = D.length := fold_len _ _ _ _
theorem adK_snoc (h : Nat) (D : List UInt8) (L : List (List UInt8)) (l : List UInt8) : adK h D (L ++ [l]) = adF (adK h D L) (plc l (8 * (adK h D L).length) h) := by
  rw [adK_len]; unfold adK; rw [List.foldl_append]; rfl
theorem gb_fold (n h : Nat) (L : List (List UInt8)) : ∀ (D : List UInt8) (q : Nat), n = 8 * D.length → 0 < D.length → gb (L.foldl (fun E k => adF E (plc k n h)) D) q = (gb D q || L.any fun k => decide (q ∈ plc k n h)) := by
  induction L with
  | nil => intro D q _ _; simp
  | cons l L ih =>
    intro D q hn hd
    rw [List.foldl_cons, ih _ _ (by rw [adF_len]; exact hn) (by rw [adF_len]; exact hd), gb_adF _ _ _ (by rw [hn]; exact plc_in hd), List.any_cons, Bool.or_assoc]
theorem gb_adK (h : Nat) (D : List UInt8) (L : List (List UInt8)) (q : Nat) (hd : 0 < D.length) : gb (adK h D L) q = (gb D q || L.any fun k => decide (q ∈ plc k (8 * D.length) h)) := gb_fold _ _ _ _ _ rfl hd
theorem my_adK {h : Nat} {D : List UInt8} {L : List (List UInt8)} {l : List UInt8} (hd : 0 < D.length) (hl : l ∈ L) : myF (adK h D L) (plc l (8 * D.length) h) = true := by
  unfold myF
  rw [List.all_eq_true]
  intro q hq
  rw [gb_adK h D L q hd, List.any_eq_true.2 ⟨l, hl, by simpa using hq⟩, Bool.or_true]
theorem adK_same {h : Nat} {D : List UInt8} {L M : List (List UInt8)} (hd : 0 < D.length) (hLM : ∀ l, l ∈ L ↔ l ∈ M) : adK h D L = adK h D M := by
  apply gb_ext
  · rw [adK_len, adK_len]
  · intro q _
    rw [gb_adK h D L q hd, gb_adK h D M q hd]
    congr 1
    rw [Bool.eq_iff_iff, List.any_eq_true, List.any_eq_true]
    constructor
    · rintro ⟨l, hl, e⟩; exact ⟨l, (hLM l).1 hl, e⟩
    · rintro ⟨l, hl, e⟩; exact ⟨l, (hLM l).2 hl, e⟩
/-- A filter in memory, made since lo, and ahead of hi. -/
def FilIn (w : World) (lo hi : Nat) (v : Value) (h : Nat) (D : List UInt8) : Prop :=
  ∃ B g cap, v = .pointer (some ⟨B, 0, none⟩) ∧ lo ≤ B ∧ w.heap[B]? = some (.cells #[.int .i64 (h : Int), .slice (some ⟨g, 0, none⟩) D.length cap] 125) ∧ Own w lo (.slice (some ⟨g, 0, none⟩) D.length cap) D ∧ B ≠ g ∧ (1 ≤ h ∧ h ≤ 8 ∧ 0 < D.length ∧ D.length ≤ 8192) ∧ B < hi ∧ g < hi
theorem FilIn.fil {w : World} {lo hi : Nat} {v : Value} {h : Nat} {D : List UInt8} (hf : FilIn w lo hi v h D) : Fil w lo v h D := by
  obtain ⟨B, g, cap, h1, h2, h3, h4, h5, ⟨h6, h7, h8, h9⟩, _, _⟩ := hf
  exact ⟨B, g, cap, h1, h2, h3, h4, h5, h6, h7, h8, h9⟩
theorem Fil.in {w : World} {lo : Nat} {v : Value} {h : Nat} {D : List UInt8} (hf : Fil w lo v h D) : FilIn w lo w.heap.size v h D := by
  obtain ⟨B, g, cap, h1, h2, h3, h4, h5, h6, h7, h8, h9⟩ := hf
  exact ⟨B, g, cap, h1, h2, h3, h4, h5, ⟨h6, h7, h8, h9⟩, (Array.getElem?_eq_some_iff.1 h3).1, (World.ownsRow.lt h4 g rfl).2⟩
theorem FilIn.below {w w' : World} {lo hi : Nat} {v : Value} {h : Nat} {D : List UInt8} (hf : FilIn w lo hi v h D) (hb : Below hi w w') : FilIn w' lo hi v h D := by
  obtain ⟨B, g, cap, h1, h2, h3, h4, h5, h6, h7, h8⟩ := hf
  refine ⟨B, g, cap, h1, h2, (hb.block B h7).trans h3, ?_, h5, h6, h7, h8⟩
  obtain ⟨q1, q2⟩ := h4
  refine ⟨q1, ?_⟩
  rcases q2 with q2 | ⟨g', cap', cur, hv, hg, hw, r⟩
  · exact .inl q2
  · have : g = g' := by simp at hv; exact hv.1
    subst this
    exact .inr ⟨g, cap', cur, hv, hg, (hb.block g h8).trans hw, r⟩
theorem Fil.kx {A W : World} {base g : Nat} {v : Value} {h : Nat} {D : List UInt8} (hf : Fil A base v h D) (hk : Kx g A W) (hg : g < base) : Fil W base v h D := by
  obtain ⟨B, g', cap, h1, h2, h3, h4, h5⟩ := hf
  refine ⟨B, g', cap, h1, h2, hk _ _ _ _ (by omega) h3, ?_, h5⟩
  obtain ⟨q1, q2⟩ := h4
  refine ⟨q1, ?_⟩
  rcases q2 with q2 | ⟨g2, cap', cur, hv, hg2, hw, r⟩
  · exact .inl q2
  · exact .inr ⟨g2, cap', cur, hv, hg2, hk _ _ _ _ (by omega) hw, r⟩
theorem add_two (v kv : Value) (h : Nat) (D key : List UInt8) (w : World) (lo hi : Nat) (hlo : lo ≤ w.heap.size) (hF : FilIn w lo hi v h D) (hR : Reads w kv key) :
    Calls Try.prog 59 #[v, kv] w fun e W' => e = .returned (.int .i64 0) ∧ FilIn W' lo hi v h (adF D (plc key (8 * D.length) h)) ∧ (∀ vx hx Dx, Fil w hi vx hx Dx → Fil W' hi vx hx Dx) ∧ Below lo w W' := by
  refine (add_any_B v kv h D key w lo hlo hF.fil hR).mono ?_
  rintro e W' ⟨rfl, hf, hb, hk⟩
  obtain ⟨B, g, cap, rfl, h2, h3, h4, h5, h6, h7, h8⟩ := hF
  have hkx := hk B g _ cap _ rfl h3
  refine ⟨rfl, ?_, fun vx hx Dx hfx => hfx.kx hkx h8, hb⟩
  obtain ⟨B', g', cap', e1, f2, f3, f4, f5, f6, f7, f8, f9⟩ := hf
  cases e1
  have f10 := hkx _ _ _ _ h5 h3
  rw [f3] at f10
  simp at f10
  obtain ⟨rfl, _, rfl⟩ := f10
  exact ⟨B, g', cap', rfl, f2, f3, f4, f5, ⟨f6, f7, f8, f9⟩, h7, h8⟩
end Go.Proofs.Ytlpjdfgknmfmnaa
