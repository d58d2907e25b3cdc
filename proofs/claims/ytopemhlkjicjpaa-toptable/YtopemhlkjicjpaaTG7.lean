/- FY S13 S14 W10, joined. -/
import Derived.Test.YtopemhlkjicjpaaTG1
import Derived.Test.YtopemhlkjicjpaaTG6
import Derived.Maps.AppendAt
/- A range over a function whose loop variable lies in memory: a law of our own. -/
namespace Go.Proofs.Ytopemhlkjicjpaa
open Go.RowKit

variable {F : Fence} {n : Nat} {P : Program}
theorem wpIn_range_y {α : Type} {g : Operand} {ps : Array Tmp} {assign body : Code} {Q : Exit → Act → World → Prop} {a : Act} {w : World}
    (hro : F.round = none) (h1 : 1 ≤ n) {gf : Nat} {lb : Array Value} (hg : a.eval g = .func (.func gf) #[] lb) (hFg : F.fn gf) (eg : ∀ args w, (callFunc gf args).run P w = .ok (.enter gf args) w)
    {encs : α → Array Value} (hps : ∀ x, (encs x).size = ps.size) (I : List α → World → Prop) (Ix : Code → List α → World → Prop) (Pre : List α → α → World → Prop) (S Sp : List α → Prop)
    (n₀ : Nat) (hn₀ : n₀ ≤ w.heap.size) (hseq : SeqX F (n - 1) P gf lb encs n₀ Pre S Sp w)
    (hI : ∀ pre A B, I pre A → Kc n₀ A B → I pre B) (hIx : ∀ c pre A B, Ix c pre A → Kc n₀ A B → Ix c pre B) (hP : ∀ pre x A B, Pre pre x A → Kc n₀ A B → Pre pre x B) (h0 : I [] w) (a₁ : α → Nat → Act) (wA : α → World → World) (hA : ∀ x W, Below W.heap.size W (wA x W))
    (hassign : ∀ (l : Nat) (pre : List α) (x : α) (W : World) (K : Act → World → Prop), Pre pre x W → K (a₁ x W.heap.size) (wA x W) →
      assign.wpIn (F.inRound l) (n - 1 - 1) P (Exit.then K (fun _ _ _ => False)) { tmps := (ps.zip (encs x)).foldl (fun t (p, v) => t.setIfInBounds p v) a.tmps, defers := [] } W)
    (hbody : ∀ (l : Nat) (pre : List α) (x : α) (W₁ W : World), I pre W → Pre pre x W → n₀ ≤ W.heap.size → W₁.heap.size ≤ W.heap.size → Kc n₀ (wA x W₁) W → body.wpIn (F.inRound l) (n - 1 - 1) P (postX n₀ I Ix (pre ++ [x]) W) (a₁ x W₁.heap.size) W)
    (hdone : ∀ (D : Nat) (xs : List α) (W : World), w.heap.size ≤ D → S xs → I xs W → W.heap[D]? = some (.deferred (some [])) → Q .normal { a with defers := { target := .collected D, args := #[] } :: a.defers } W)
    (hleft : ∀ (D : Nat) (xs : List α) (c : Code) (W : World), w.heap.size ≤ D → Sp xs → Ix c xs W → W.heap[D]? = some (.deferred (some [])) → c.wpIn F n P Q { a with defers := { target := .collected D, args := #[] } :: a.defers } W) :
    (Code.rangeFunc g ps assign body).wpIn F n P Q a w := by
  refine wpIn_rangeFunc ?_
  intro fn hfn
  rw [hro]
  have hen := run_enterLoop_outer (P := P) (w := w) fn a.tmps ps assign body
  generalize hd : w.heap.size = d at *
  generalize hr0 : ({ state := .ready, pending := none, fn := fn, tmps := a.tmps, params := ps, assign := assign, body := body, defers := d } : Loop) = r0 at *
  have e1 : r0.fn = fn := by rw [← hr0]
  have e2 : r0.params = ps := by rw [← hr0]
  have e3 : r0.state = .ready := by rw [← hr0]
  have e4 : r0.tmps = a.tmps := by rw [← hr0]
  have e5 : r0.assign = assign := by rw [← hr0]
  have e6 : r0.body = body := by rw [← hr0]
  have e7 : r0.pending = none := by rw [← hr0]
  generalize hW : (w.alloc (.deferred (some []))).alloc (.loop r0) = W0 at *
  have hB : Below d w W0 := by
    rw [← hW]
    exact ((Below.refl d w).alloc (by omega) _).alloc (by simp; omega) _
  have hz : W0.heap.size = d + 2 := by rw [← hW]; simp; omega
  have hD0 : W0.heap[d]? = some (.deferred (some [])) := by
    rw [← hW, Below.heap_alloc _ _ _ (by simp; omega), ← hd]; exact World.alloc_heap_new w _
  have hL0 : W0.heap[d + 1]? = some (.loop r0) := by
    have := World.alloc_heap_new (w.alloc (.deferred (some []))) (.loop r0)
    rw [World.size_alloc, hd, hW] at this
    exact this
  refine ⟨d + 1, _, W0, { target := .fn (.func gf) lb, args := #[.func (.yield (d + 1)) #[] #[]] }, W0, gf, #[.func (.yield (d + 1)) #[] #[]] ++ lb, W0, hen, ?_, ?_, ?_, fun _ => h1, ?_⟩
  · simp only [resolve, hg]; simp [go_sem]
  · intro f' hf'; simp [Target.leads] at hf'; subst hf'; exact hFg
  · simp [invoke, go_sem, eg]
  · have hKw : Kc n₀ w W0 := ⟨hB.mono hn₀, fun k _ _ _ hk => (hB.block k (by have := (Array.getElem?_eq_some_iff.1 hk).1; omega)).trans hk⟩
    have hI0 : I [] W0 := hI [] w W0 h0 hKw
    refine (hseq (d + 1) (fun pre W => I pre W ∧ W.heap[d + 1]? = some (.loop r0) ∧ W.heap[d]? = some (.deferred (some [])) ∧ d ≤ W.heap.size)
      (fun pre W => ∃ c, Ix c pre W ∧ W.heap[d + 1]? = some (.loop { r0 with state := .done, pending := some c }) ∧ W.heap[d]? = some (.deferred (some [])) ∧ d ≤ W.heap.size) W0 hKw (by omega) ?_ ?_ ?_ ⟨hI0, hL0, hD0, by omega⟩).mono ?_
    · rintro pre A B ⟨q1, q2, q3, q4⟩ hb
      have hs := hb.size
      exact ⟨hI pre A B q1 (Kc.of_below hb (by omega)), (hb.block _ (Array.getElem?_eq_some_iff.1 q2).1).trans q2, (hb.block _ (Array.getElem?_eq_some_iff.1 q3).1).trans q3, by omega⟩
    · rintro pre A B ⟨c, q1, q2, q3, q4⟩ hb
      have hs := hb.size
      exact ⟨c, hIx c pre A B q1 (Kc.of_below hb (by omega)), (hb.block _ (Array.getElem?_eq_some_iff.1 q2).1).trans q2, (hb.block _ (Array.getElem?_eq_some_iff.1 q3).1).trans q3, by omega⟩
    · rintro pre x W ⟨q1, q2, q3, q4⟩ hpx hdw
      have hl := (Array.getElem?_eq_some_iff.1 q2).1
      have hy := run_yield (P := P) (args := encs x) q2 (by rw [e2]; exact hps x)
      rw [e1, e2, e4, e5, e6] at hy
      have hAx := hA x W
      have hAs := hAx.size
      have q2' : (wA x W).heap[d + 1]? = some (.loop r0) := (hAx.block _ hl).trans q2
      have q3' : (wA x W).heap[d]? = some (.deferred (some [])) := (hAx.block _ (Array.getElem?_eq_some_iff.1 q3).1).trans q3
      have hl' := (Array.getElem?_eq_some_iff.1 q2').1
      refine ⟨fn, _, assign, body, hy, roundIn_of_wpIn hfn (hassign _ pre x W _ hpx ⟨_, run_beginRound q2' e3, ?_⟩)⟩
      have k0 : Kc n₀ W (wA x W) := Kc.of_below hAx (by omega)
      have k1' := Kc.put (n := n₀) (.loop { r0 with state := .busy }) q2' rfl (by omega)
      have k1 : Kc n₀ W ((wA x W).putObj (d + 1) (.loop { r0 with state := .busy })) := ⟨k0.b.trans k1'.b, fun k _ _ _ hk => k1'.c _ _ _ _ (k0.c _ _ _ _ hk)⟩
      have l1 : ((wA x W).putObj (d + 1) (.loop { r0 with state := .busy })).heap[d + 1]? = some (.loop { r0 with state := .busy }) := World.putObj_heap_same hl'
      have d1 : ((wA x W).putObj (d + 1) (.loop { r0 with state := .busy })).heap[d]? = some (.deferred (some [])) := (World.putObj_heap_other (by omega)).trans q3'
      refine wpIn_mono (hbody _ pre x W _ (hI _ _ _ q1 k1) (hP _ _ _ _ hpx k1) (by simp; omega) (by simp; omega) k1') ?_
      have left : ∀ (c : Code) (W3 : World), KeepsOthers ((wA x W).putObj (d + 1) (.loop { r0 with state := .busy })) W3 → Ix c (pre ++ [x]) W3 →
          ∃ w', (Instr.endRound (d + 1) (some c)).run P W3 = .ok (.bool false) w' ∧ ∃ c, Ix c (pre ++ [x]) w' ∧ w'.heap[d + 1]? = some (.loop { r0 with state := .done, pending := some c }) ∧ w'.heap[d]? = some (.deferred (some [])) ∧ d ≤ w'.heap.size := by
        intro c W3 m1 m3
        have l3 := m1.same _ _ l1 rfl
        have d3 := m1.same _ _ d1 rfl
        have hend := run_endRound (P := P) (some c) l3
        have hl3 := (Array.getElem?_eq_some_iff.1 l3).1
        have k3 := Kc.put (n := n₀) (.loop { r0 with state := .done, pending := some c }) l3 rfl (by omega)
        exact ⟨_, hend, c, hIx _ _ _ _ m3 k3, World.putObj_heap_same hl3, (World.putObj_heap_other (by omega)).trans d3, by have := m1.size; simp at this ⊢; omega⟩
      intro e a3 W3 hp
      cases e with
      | normal =>
        obtain ⟨m1, m2, m3⟩ := hp
        have l3 := m1.same _ _ l1 rfl
        have d3 := m1.same _ _ d1 rfl
        have hend := run_endRound (P := P) none l3
        have hl3 := (Array.getElem?_eq_some_iff.1 l3).1
        have e9 : ({ ({ r0 with state := .busy } : Loop) with state := if (none : Option Code).isNone then .ready else .done, pending := none } : Loop) = r0 := by
          rw [← hr0]; rfl
        rw [e9] at hend
        have k3 := Kc.put (n := n₀) (.loop r0) l3 rfl (by omega)
        exact ⟨_, _, hend, .inl ⟨rfl, ⟨hI _ _ _ m3 k3, World.putObj_heap_same hl3, (World.putObj_heap_other (by omega)).trans d3, by have := m1.size; simp at this ⊢; omega⟩, (k1.b.trans m2).trans k3.b⟩⟩
      | ret =>
        obtain ⟨w', g1, g2⟩ := left _ _ hp.1 hp.2
        exact ⟨_, w', g1, .inr ⟨rfl, g2⟩⟩
      | exit id =>
        obtain ⟨w', g1, g2⟩ := left _ _ hp.1 hp.2
        exact ⟨_, w', g1, .inr ⟨rfl, g2⟩⟩
      | goto t => exact hp.elim
      | panic ch => exact hp.elim
      | outgrown => exact hp.elim
    · rintro e W2 ⟨⟨v, rfl⟩, ⟨xs, hS, q1, q2, q3, q4⟩ | ⟨xs, hS, c, q1, q2, q3, q4⟩⟩
      · have hend := run_endLoop (P := P) q2 (by rw [e3]; simp)
        rw [e7] at hend
        refine ⟨none, _, hend, ?_⟩
        exact hdone d xs _ (by omega) hS (hI _ _ _ q1 (Kc.put _ q2 rfl (by omega))) ((World.putObj_heap_other (by omega)).trans q3)
      · have hend := run_endLoop (P := P) q2 (by simp)
        refine ⟨some c, _, hend, ?_⟩
        exact hleft d xs c _ (by omega) hS (hIx _ _ _ _ q1 (Kc.put _ q2 rfl (by omega))) ((World.putObj_heap_other (by omega)).trans q3)
end Go.Proofs.Ytopemhlkjicjpaa

/- The contract of Seek. -/
namespace Go.Proofs.Ytopemhlkjicjpaa
open Go.RowKit Go.Shelf
attribute [local go_sem] Oper.semAt_some

theorem from_in (n : Nat) (p : Option Addr) (a : Option Addr) (len cap : Nat) (w : World) :
    CallsIn Fence.wide n Try.prog 40 #[.pointer p, .slice a len cap] w fun e w' => e = .returned (.func (.func 67) #[] #[.pointer (some ⟨w.heap.size, 0, none⟩), .pointer (some ⟨w.heap.size + 1, 0, none⟩)]) ∧ w' = (w.alloc (.cells #[.pointer p] 24)).alloc (.cells #[.slice a len cap] 23) := by
  refine callsIn_of_wp Try.func40 rfl trivial ?_ rfl
  simp only [Try.ntmps40, List.size_toArray, List.length_cons, List.length_nil, Nat.reduceAdd, Nat.reduceSub, Array.replicate_succ, Array.replicate_zero, List.push_toArray, List.append_toArray, List.nil_append, List.cons_append]
  gi_wp2
  go_ret
  exact ⟨rfl, rfl⟩
/-- An append whose run is known, at one operation in a fence. -/
theorem wpIn_app_run {F : Fence} {n : Nat} {w w' : World} {o : Oper} {a : Act} {K : Act → World → Prop} {Q : Exit → Act → World → Prop} (s x : Operand) (t ty : TypeId) (ho : o.op = .call { callee := .builtin .append, args := #[s, x], argTypes := #[t, t] }) (hty : o.type = ty) (v vx v' : Value) (hs : a.eval s = v) (hx : a.eval x = vx)
    (hrun : (Builtin.append_ #[t, t] ty #[v, vx]).run Try.prog w = .ok v' w') (h : K (a.put o.dst v') w') : Oper.wpIn F n Try.prog o a w K Q := by
  subst hty
  unfold Oper.wpIn
  refine ⟨by simp [Oper.about, ho, resolve, Target.leads, Sem.run_pure], ?_⟩
  rw [Oper.semAt_plain F _ _ (by rw [ho]; intro c hc'; cases hc')]
  simp [execOp, ho, resolve, invoke, builtin, hs, hx, hrun, Result.andThen]
  exact h
theorem infoEn : (Try.prog.info? 36).map (fun i => (i.zero, i.size, i.bytes)) = some (some (.agg #[.slice none 0 0, .int .u64 0, .bool false, .int .i64 0, .int .u64 0, .int .i64 0, .int .i64 0]), 7, 72) := by kernel_rfl
theorem own_setS {W : World} {base B : Nat} {t : TypeId} {v u : Value} {l : List UInt8} (u' : Value) (h : Own W base v l) (hb : Boxed W B t u) (ht : t ≠ 5) : Own (W.setCell ⟨B, 0, none⟩ u') base v l :=
  World.ownsRow.kept h (grownBy_setCell' W B u') (.inr (hb.not_row ht h).symm)
theorem own_grownS {W w1 : World} {base base' size : Nat} {e : TypeId} {v z : Value} {l : List UInt8} {k : Nat} {xs : List Value} (tmp : Obj) (h : Own W base v l) (hr : W.ownsRow base' e size z k xs) (he : e ≠ 5) (hg : (W.alloc tmp).grownBy w1 z.ownBlock) : Own w1 base v l := by
  refine World.ownsRow.kept (h.alloc tmp) hg ?_
  rcases h.2 with ⟨rfl, _⟩ | ⟨g, cap, cur, rfl, _, hgb, _⟩
  · exact .inl rfl
  · refine .inr fun e' => ?_
    rcases hr.2 with ⟨rfl, _⟩ | ⟨g', cap', cur', rfl, _, hgb', _⟩
    · simp [Value.ownBlock] at e'
    · obtain rfl : g = g' := by simpa [Value.ownBlock] using e'
      rw [hgb] at hgb'
      simp at hgb'
      exact he hgb'.2.symm
theorem keeps_belowS {A B : World} (h : Below A.heap.size A B) : KeepsOthers A B := ⟨h.size, fun k _ hk _ => (h.block k (Array.getElem?_eq_some_iff.1 hk).1).trans hk⟩
/-- What is found: slices, keys, what is known. -/
structure Ev where
  kv : Value
  k : Ks
  a : Ag
def c7 (x : Ev) : List Value := [x.kv, .int .u64 x.a.c, .bool x.a.o, .int .i64 (hi x.a.s), .int .u64 (lo x.a.s), .int .i64 x.a.mn, .int .i64 x.a.mx]
def evE (x : Ev) : En := (x.k, x.a)
/-- A slice of entries of one's own. -/
def EOwn (W : World) (base : Nat) (v : Value) (xs : List Ev) : Prop := W.ownsRow base 36 7 v xs.length (xs.flatMap c7) ∧ ∀ x ∈ xs, Own W base x.kv x.k
def ISk (w : World) (most : Int) (pre : List Nd) (W : World) : Prop :=
  (∃ v xs, Boxed W (w.heap.size + 1) 22 v ∧ EOwn W w.heap.size v xs ∧ xs.map evE = ents pre) ∧ Boxed W w.heap.size 3 (.int .i64 most) ∧ Below w.heap.size w W ∧ (pre.length : Int) < most
def XSk (w : World) (most : Int) (c : Code) (pre : List Nd) (W : World) : Prop :=
  c = .exit 0 ∧ (∃ v xs, Boxed W (w.heap.size + 1) 22 v ∧ EOwn W w.heap.size v xs ∧ xs.map evE = ents pre) ∧ Below w.heap.size w W ∧ (pre.length : Int) = most
theorem boxed_kcS {n : Nat} {A B : World} {b : Nat} {t : TypeId} {v : Value} (h : Boxed A b t v) (hk : Kc n A B) : Boxed B b t v := hk.c _ _ _ _ h
theorem EOwn.kc {n : Nat} {A B : World} {base : Nat} {v : Value} {xs : List Ev} (h : EOwn A base v xs) (hk : Kc n A B) : EOwn B base v xs := by
  obtain ⟨h1, h2⟩ := h
  refine ⟨?_, fun x hx => ?_⟩
  · obtain ⟨q1, q2⟩ := h1
    refine ⟨q1, ?_⟩
    rcases q2 with q2 | ⟨g, cap, cur, hv, hg, hw, r⟩
    · exact .inl q2
    · exact .inr ⟨g, cap, cur, hv, hg, hk.c _ _ _ _ hw, r⟩
  · obtain ⟨q1, q2⟩ := h2 x hx
    refine ⟨q1, ?_⟩
    rcases q2 with q2 | ⟨g, cap, cur, hv, hg, hw, r⟩
    · exact .inl q2
    · exact .inr ⟨g, cap, cur, hv, hg, hk.c _ _ _ _ hw, r⟩
theorem isk_kc {w : World} {most : Int} (pre : List Nd) (A B : World) (h : ISk w most pre A) (hk : Kc w.heap.size A B) : ISk w most pre B := by
  obtain ⟨⟨v, xs, h1, h2, h3⟩, h4, h5, h6⟩ := h
  exact ⟨⟨v, xs, boxed_kcS h1 hk, h2.kc hk, h3⟩, boxed_kcS h4 hk, h5.trans hk.b, h6⟩
theorem xsk_kc {w : World} {most : Int} (c : Code) (pre : List Nd) (A B : World) (h : XSk w most c pre A) (hk : Kc w.heap.size A B) : XSk w most c pre B := by
  obtain ⟨h0, ⟨v, xs, h1, h2, h3⟩, h5, h6⟩ := h
  exact ⟨h0, ⟨v, xs, boxed_kcS h1 hk, h2.kc hk, h3⟩, h5.trans hk.b, h6⟩
theorem four_boxesS (w : World) (v1 v2 v3 v4 : Value) (t1 t2 t3 t4 : TypeId) :
    Hid (Below w.heap.size w ((((w.alloc (.cells #[v1] t1)).alloc (.cells #[v2] t2)).alloc (.cells #[v3] t3)).alloc (.cells #[v4] t4))) ∧
    Hid (Boxed ((((w.alloc (.cells #[v1] t1)).alloc (.cells #[v2] t2)).alloc (.cells #[v3] t3)).alloc (.cells #[v4] t4)) w.heap.size t1 v1) ∧
    Hid (Boxed ((((w.alloc (.cells #[v1] t1)).alloc (.cells #[v2] t2)).alloc (.cells #[v3] t3)).alloc (.cells #[v4] t4)) (w.heap.size + 1) t2 v2) ∧
    Hid (Boxed ((((w.alloc (.cells #[v1] t1)).alloc (.cells #[v2] t2)).alloc (.cells #[v3] t3)).alloc (.cells #[v4] t4)) (w.heap.size + 1 + 1) t3 v3) ∧
    Hid (Boxed ((((w.alloc (.cells #[v1] t1)).alloc (.cells #[v2] t2)).alloc (.cells #[v3] t3)).alloc (.cells #[v4] t4)) (w.heap.size + 1 + 1 + 1) t4 v4) := by
  refine ⟨((((Below.refl _ w).alloc (Nat.le_refl _) _).alloc (by simp) _).alloc (by simp; omega) _).alloc (by simp; omega) _, (((Boxed.new w _ _).alloc _).alloc _).alloc _, ?_, ?_, ?_⟩
  · have := ((Boxed.new (w.alloc (.cells #[v1] t1)) t2 v2).alloc (.cells #[v3] t3)).alloc (.cells #[v4] t4)
    rw [World.size_alloc] at this; exact this
  · have := (Boxed.new ((w.alloc (.cells #[v1] t1)).alloc (.cells #[v2] t2)) t3 v3).alloc (.cells #[v4] t4)
    rw [World.size_alloc, World.size_alloc] at this; exact this
  · have := Boxed.new (((w.alloc (.cells #[v1] t1)).alloc (.cells #[v2] t2)).alloc (.cells #[v3] t3)) t4 v4
    rw [World.size_alloc, World.size_alloc, World.size_alloc] at this; exact this
set_option maxRecDepth 100000 in
set_option maxHeartbeats 2000000 in
theorem seek_in (n : Nat) (hn : 5 ≤ n) (L0 : Nat) (N : List Nd) (sz : Int) (fr : Bool) (kv : Value) (key : Ks) (most : Int) (hm1 : 1 ≤ most) (w : World) (base : Nat) (hS : SL w base L0 N sz fr) (hR : Reads w kv key) :
    CallsIn Fence.wide n Try.prog 18 #[.pointer (some ⟨L0, 0, none⟩), kv, .int .i64 most] w fun e W' => ∃ v xs, e = .returned v ∧ EOwn W' w.heap.size v xs ∧ xs.map evE = (ents (N.drop (plK (N.map Nd.k) key))).take most.toNat ∧ Below w.heap.size w W' := by
  have h1 : 1 ≤ n := by omega
  obtain ⟨ak, ck, rfl, _⟩ := hR.form
  have hml : ¬ most < 1 := by omega
  refine callsIn_of_wp_marks Try.func18 rfl trivial ?_ rfl
  simp only [Try.ntmps18, List.size_toArray, List.length_cons, List.length_nil, Nat.reduceAdd, Nat.reduceSub, Array.replicate_succ, Array.replicate_zero, List.push_toArray, List.append_toArray, List.nil_append, List.cons_append]
  gi_wp2_with fail
  refine ⟨trivial, ?_⟩
  refine (from_in _ _ _ _ _ _).mono ?_
  rintro e w' ⟨rfl, rfl⟩
  simp only [World.size_alloc]
  obtain ⟨HB0, HX0, HX1, HX2, HX3⟩ := four_boxesS w (.int .i64 most) (.slice none 0 0) (.pointer (some ⟨L0, 0, none⟩)) (.slice ak key.length ck) 3 22 24 23
  obtain ⟨i, Hi⟩ := hid_ex (plK (N.map Nd.k) key)
  have HS : Hid (SL w base L0 N sz fr) := hS
  have HR : Hid (Reads w (.slice ak key.length ck) key) := hR
  clear hS hR
  gi_wp2_with fail
  refine wpIn_range_y rfl h1 (gf := 67) (lb := #[.pointer (some ⟨w.heap.size + 1 + 1, 0, none⟩), .pointer (some ⟨w.heap.size + 1 + 1 + 1, 0, none⟩)]) rfl trivial (enters_of Try.func67 (by kernel_rfl) rfl) (encs := encN) (fun _ => rfl) (ISk w most) (XSk w most) (PreN N (plK (N.map Nd.k) key)) (fun xs => xs = N.drop (plK (N.map Nd.k) key)) (fun xs => ∃ m, xs = (N.drop (plK (N.map Nd.k) key)).take m) w.heap.size HB0.out.size
    (fun l J Jx W hK hn₀ hJ _ hY h0 => (from1_in (n - 1) (by omega) l (w.heap.size + 1 + 1) (w.heap.size + 1 + 1 + 1) L0 N sz fr _ key w base HS.out HR.out J Jx W (HB0.out.trans hK.b) hJ hY (boxed_kcS HX2.out hK).cell (boxed_kcS HX3.out hK).cell h0).mono ?_)
    isk_kc xsk_kc (fun _ _ _ _ hp _ => hp) ⟨⟨_, [], HX1.out, ⟨World.ownsRow_nil _ _ _ _, fun _ h => by cases h⟩, rfl⟩, HX0.out, HB0.out, by simp; omega⟩
    (fun x b => { tmps := #[.pointer (some ⟨L0, 0, none⟩), .slice ak key.length ck, .int .i64 most, undef, undef, .pointer (some ⟨w.heap.size, 0, none⟩), .slice none 0 0, .pointer (some ⟨w.heap.size + 1, 0, none⟩), .pointer (some ⟨b, 0, none⟩), .pointer (some ⟨L0, 0, none⟩), .bool false, .bool false, .int .i64 most, .bool false, .bool false, .pointer (some ⟨L0, 0, none⟩), .slice ak key.length ck, .func (.func 67) #[] #[.pointer (some ⟨w.heap.size + 1 + 1, 0, none⟩), .pointer (some ⟨w.heap.size + 1 + 1 + 1, 0, none⟩)], env x.kv x.a, undef, undef, undef, undef, undef, undef, undef, undef, undef, undef], defers := [] })
    (fun x W => W.alloc (.cells #[x.kv, .int .u64 x.a.c, .bool x.a.o, .int .i64 (hi x.a.s), .int .u64 (lo x.a.s), .int .i64 x.a.mn, .int .i64 x.a.mx] 36)) (fun x W => (Below.refl _ _).alloc (Nat.le_refl _) _) ?assign ?body ?done ?left
  · rintro e W' ⟨hv, hJ | hX⟩
    · exact ⟨hv, .inl ⟨_, rfl, hJ⟩⟩
    · exact ⟨hv, .inr hX⟩
  case assign =>
    rintro l pre x W K ⟨hp1, hp2, _⟩ hK
    obtain ⟨av, cv, hkv, _⟩ := (HS.out.1.ky _ hp1).form
    rw [← hp2] at hkv
    obtain ⟨xb, xkv, xk, xa, xh⟩ := x
    simp only at hkv
    subst hkv
    clear hp2
    dsimp only [encN, env] at hK ⊢
    gi_wp2
    exact hK
  case body =>
    rintro l pre x W₁ W ⟨⟨v, xs, hv, hE, hmap⟩, hM, hB, hlt⟩ ⟨hp1, hp2, hp3⟩ hnW hsz hKc
    have hkO := HS.out.1.ky _ hp1
    have hkl := HS.out.2.kl _ (List.getElem_mem hp1)
    obtain ⟨av, cv, hkv, hlx⟩ := hkO.form
    clear hlx
    rw [← hp2] at hkv hkO hkl
    obtain ⟨xb, xkv, xk, xa, xh⟩ := x
    simp only at hkv hkO hkl
    subst hkv
    have HXB : Hid (W.heap[W₁.heap.size]? = some (.cells #[.slice av xk.length cv, .int .u64 xa.c, .bool xa.o, .int .i64 (hi xa.s), .int .u64 (lo xa.s), .int .i64 xa.mn, .int .i64 xa.mx] 36)) := hKc.c _ _ _ _ (World.alloc_heap_new _ _)
    obtain ⟨a0, _⟩ := cell_row HXB.out 0 (by simp)
    obtain ⟨a1, _⟩ := cell_row HXB.out 1 (by simp)
    obtain ⟨a2, _⟩ := cell_row HXB.out 2 (by simp)
    obtain ⟨a3, _⟩ := cell_row HXB.out 3 (by simp)
    obtain ⟨a4, _⟩ := cell_row HXB.out 4 (by simp)
    obtain ⟨a5, _⟩ := cell_row HXB.out 5 (by simp)
    obtain ⟨a6, _⟩ := cell_row HXB.out 6 (by simp)
    simp only [List.getElem_toArray, List.getElem_cons_succ, List.getElem_cons_zero] at a0 a1 a2 a3 a4 a5 a6
    have HKR : Hid (Reads W (.slice av xk.length cv) xk) := hkO.reads.below hB
    have hc := hv.cell
    have hcM := hM.cell
    clear hp2 hkO hKc
    dsimp only [env]
    refine wpIn_block ?_
    refine wpIn_seq_k (fun K hKK => ?_)
    obtain ⟨av0, cv0, hvf⟩ : ∃ a c, v = .slice a xs.length c := by
      rcases hE.1.2 with ⟨h1, h2⟩ | ⟨g, cap, cur, h1, _⟩
      · exact ⟨none, 0, by rw [h1, h2]⟩
      · exact ⟨_, cap, h1⟩
    subst hvf
    have HV : Hid _ := hv
    have HMAP : Hid _ := hmap
    have HE : Hid _ := hE
    have HM : Hid _ := hM
    have HB : Hid _ := hB
    have HLX : Hid (xs.length = pre.length ∧ pre.length < 4096) := by
      have h1 := congrArg List.length hmap
      simp [ents] at h1
      have h2 := HS.out.2.le
      exact ⟨h1, by omega⟩
    clear hp3 hp1 hmap hE hM hv hB
    have APP : ∀ (w4 : World) (a4 : Option Addr) (c4 : Nat), Below W.heap.size W w4 → Own w4 w.heap.size (.slice a4 xk.length c4) xk → Boxed w4 (w.heap.size + 1) 22 (.slice av0 xs.length cv0) →
        ∃ v6 w6, (Builtin.append_ #[22, 22] 22 #[.slice av0 xs.length cv0, .slice (some ⟨w4.heap.size, 0, none⟩) 1 1]).run Try.prog (w4.alloc (.cells #[.slice a4 xk.length c4, .int .u64 xa.c, .bool xa.o, .int .i64 (hi xa.s), .int .u64 (lo xa.s), .int .i64 xa.mn, .int .i64 xa.mx] 36)) = .ok v6 w6 ∧
          ∃ g6 cap6, v6 = .slice (some ⟨g6, 0, none⟩) (xs.length + 1) cap6 ∧ w6.cell? ⟨w.heap.size + 1, 0, none⟩ = some (.slice av0 xs.length cv0) ∧ w6.frozen? ⟨w.heap.size + 1, 0, none⟩ = false ∧
            (Boxed (w6.setCell ⟨w.heap.size + 1, 0, none⟩ (.slice (some ⟨g6, 0, none⟩) (xs.length + 1) cap6)) (w.heap.size + 1) 22 (.slice (some ⟨g6, 0, none⟩) (xs.length + 1) cap6) ∧ EOwn (w6.setCell ⟨w.heap.size + 1, 0, none⟩ (.slice (some ⟨g6, 0, none⟩) (xs.length + 1) cap6)) w.heap.size (.slice (some ⟨g6, 0, none⟩) (xs.length + 1) cap6) (xs ++ [⟨.slice a4 xk.length c4, xk, xa⟩]) ∧ Boxed (w6.setCell ⟨w.heap.size + 1, 0, none⟩ (.slice (some ⟨g6, 0, none⟩) (xs.length + 1) cap6)) w.heap.size 3 (.int .i64 most) ∧ KeepsOthers W (w6.setCell ⟨w.heap.size + 1, 0, none⟩ (.slice (some ⟨g6, 0, none⟩) (xs.length + 1) cap6)) ∧ Below w.heap.size W (w6.setCell ⟨w.heap.size + 1, 0, none⟩ (.slice (some ⟨g6, 0, none⟩) (xs.length + 1) cap6))) := by
      intro w4 a4 c4 hb4 ho4 hv4
      obtain ⟨i0, hi0, hz0, hz1, hz2⟩ := info_parts infoEn
      have hk4 : Kc w.heap.size W w4 := Kc.of_below hb4 HB.out.size
      have hQ4 := EOwn.kc HE.out hk4
      have hM4 := boxed_kcS HM.out hk4
      have hs4 := hb4.size
      have hsW := HB.out.size
      obtain ⟨v6, w6, hrun, hown, hgrow, _⟩ := run_append_own (P := Try.prog) (w4.alloc (.cells #[.slice a4 xk.length c4, .int .u64 xa.c, .bool xa.o, .int .i64 (hi xa.s), .int .u64 (lo xa.s), .int .i64 xa.mn, .int .i64 xa.mx] 36)) w.heap.size 22 22 36 i0 _ 7 72 Try.underlying22 hi0 hz0 hz1 hz2 rfl (by decide) (.slice av0 xs.length cv0) xs.length (xs.flatMap c7) (hQ4.1.alloc _) ⟨w4.heap.size, 0, none⟩ 1 1 (c7 ⟨.slice a4 xk.length c4, xk, xa⟩) rfl (by
        intro j u hj
        unfold c7 at hj
        have hc0 := World.alloc_heap_new w4 (.cells #[.slice a4 xk.length c4, .int .u64 xa.c, .bool xa.o, .int .i64 (hi xa.s), .int .u64 (lo xa.s), .int .i64 xa.mn, .int .i64 xa.mx] 36)
        have hj7 : j < 7 := by
          rcases Nat.lt_or_ge j 7 with h | h
          · exact h
          · rw [List.getElem?_eq_none (by simpa using h)] at hj; cases hj
        match j, hj7 with
        | 0, _ => (simp at hj; subst hj; exact (cell_row hc0 0 (by simp)).1)
        | 1, _ => (simp at hj; subst hj; exact (cell_row hc0 1 (by simp)).1)
        | 2, _ => (simp at hj; subst hj; exact (cell_row hc0 2 (by simp)).1)
        | 3, _ => (simp at hj; subst hj; exact (cell_row hc0 3 (by simp)).1)
        | 4, _ => (simp at hj; subst hj; exact (cell_row hc0 4 (by simp)).1)
        | 5, _ => (simp at hj; subst hj; exact (cell_row hc0 5 (by simp)).1)
        | 6, _ => (simp at hj; subst hj; exact (cell_row hc0 6 (by simp)).1)) (by intro u hu; simp [c7] at hu; rcases hu with rfl | rfl | rfl | rfl | rfl | rfl | rfl <;> rfl) (by have := HLX.out; unfold maxLen; omega) (by have := HLX.out; omega) (by simp; omega)
      obtain ⟨g6, cap6, rfl⟩ := ownsRow_succ hown
      obtain ⟨hv1, hv2, hr2, hkk, hb2⟩ := hv4.appended (by decide) hQ4.1 (by omega) (by omega) hown hgrow
      have hM1 : Boxed _ w.heap.size 3 _ := (hM4.alloc (.cells #[.slice a4 xk.length c4, .int .u64 xa.c, .bool xa.o, .int .i64 (hi xa.s), .int .u64 (lo xa.s), .int .i64 xa.mn, .int .i64 xa.mx] 36)).kept hgrow (hM4.not_row (by decide) hQ4.1)
      refine ⟨_, w6, hrun, g6, cap6, rfl, hv1.cell, hv1.frozen, hv2, ⟨?_, fun z hz => ?_⟩, hM1.kept (grownBy_setCell' _ _ _) (by simp), (keeps_belowS hb4).trans hkk, (hb4.mono HB.out.size).trans hb2⟩
      · rw [List.length_append, List.flatMap_append]
        simpa using hr2
      · have hold : ∀ (kz : Value) (Z : Ks), Own w4 w.heap.size kz Z → Own _ w.heap.size kz Z := fun kz Z hz => own_setS (.slice (some ⟨g6, 0, none⟩) (xs.length + 1) cap6) (own_grownS _ hz hQ4.1 (by decide) hgrow) hv1 (by decide)
        rcases List.mem_append.1 hz with hz | hz
        · exact hold _ _ (hQ4.2 z hz)
        · simp at hz; subst hz; exact hold _ _ ho4
    have REST : ∀ (w4 : World) (a4 : Option Addr) (c4 g6 cap6 : Nat) (w7 : World), (Boxed w7 (w.heap.size + 1) 22 (.slice (some ⟨g6, 0, none⟩) (xs.length + 1) cap6) ∧ EOwn w7 w.heap.size (.slice (some ⟨g6, 0, none⟩) (xs.length + 1) cap6) (xs ++ [⟨.slice a4 xk.length c4, xk, xa⟩]) ∧ Boxed w7 w.heap.size 3 (.int .i64 most) ∧ KeepsOthers W w7 ∧ Below w.heap.size W w7) →
        K { tmps := #[.pointer (some ⟨L0, 0, none⟩), .slice ak key.length ck, .int .i64 most, undef, undef, .pointer (some ⟨w.heap.size, 0, none⟩), .slice none 0 0, .pointer (some ⟨w.heap.size + 1, 0, none⟩), .pointer (some ⟨W₁.heap.size, 0, none⟩), .pointer (some ⟨L0, 0, none⟩), .bool false, .bool false, .int .i64 most, .bool false, .bool false, .pointer (some ⟨L0, 0, none⟩), .slice ak key.length ck, .func (.func 67) #[] #[.pointer (some ⟨w.heap.size + 1 + 1, 0, none⟩), .pointer (some ⟨w.heap.size + 1 + 1 + 1, 0, none⟩)], .agg #[.slice av xk.length cv, .int .u64 xa.c, .bool xa.o, .int .i64 (hi xa.s), .int .u64 (lo xa.s), .int .i64 xa.mn, .int .i64 xa.mx], .slice av0 xs.length cv0, .agg #[.slice av xk.length cv, .int .u64 xa.c, .bool xa.o, .int .i64 (hi xa.s), .int .u64 (lo xa.s), .int .i64 xa.mn, .int .i64 xa.mx], .agg #[.slice a4 xk.length c4, .int .u64 xa.c, .bool xa.o, .int .i64 (hi xa.s), .int .u64 (lo xa.s), .int .i64 xa.mn, .int .i64 xa.mx], .slice (some ⟨w4.heap.size, 0, none⟩) 1 1, .slice (some ⟨g6, 0, none⟩) (xs.length + 1) cap6, undef, undef, undef, undef, undef], defers := [] } w7 := by
      rintro w4 a4 c4 g6 cap6 w7 ⟨hv7, hE7, hM7, hk7, hb7⟩
      refine hKK _ _ ?_
      have hc7 := hv7.cell
      have hcM7 := hM7.cell
      have HLX2 : Hid ((xs ++ [(⟨.slice a4 xk.length c4, xk, xa⟩ : Ev)]).map evE = ents (pre ++ [⟨xb, .slice av xk.length cv, xk, xa, xh⟩])) := by
        unfold Hid ents; rw [List.map_append, List.map_append, HMAP.out]; rfl
      have HLP : Hid (xs.length = pre.length) := HLX.out.1
      have HE7 : Hid (EOwn w7 w.heap.size (.slice (some ⟨g6, 0, none⟩) (xs.length + 1) cap6) (xs ++ [⟨.slice a4 xk.length c4, xk, xa⟩])) := hE7
      clear hE7
      by_cases he : (xs.length : Int) + 1 = most
      · gi_wp2
        refine ⟨hk7, rfl, ⟨_, _, hv7, HE7.out, HLX2.out⟩, HB.out.trans hb7, ?_⟩
        have := HLP.out; simp; omega
      · gi_wp2
        refine ⟨hk7, hb7, ⟨_, _, hv7, HE7.out, HLX2.out⟩, hM7, HB.out.trans hb7, ?_⟩
        have := HLP.out; simp; omega
    refine wpIn_region_any (by kernel_rfl) ?_
    refine wpAnyIn_ready (rs := [0, 1]) (by kernel_rfl) (by simp) ?_
    refine AllReadyIn.cons rfl (fun K hK => ?_) (AllReadyIn.cons rfl (fun K hK => ?_) AllReadyIn.nil)
    · go_simp
      refine hK _ _ ?_
      refine wpAnyIn_ready (rs := [1]) (by kernel_rfl) (by simp) ?_
      refine AllReadyIn.cons rfl (fun K hK => ?_) AllReadyIn.nil
      go_simp
      refine hK _ _ ?_
      refine wpAnyIn_ready (rs := [2]) (by kernel_rfl) (by simp) ?_
      refine AllReadyIn.cons rfl (fun K hK => ?_) AllReadyIn.nil
      go_simp
      refine ⟨trivial, fun _ => by omega, ?_⟩
      refine CallsIn.inRound l ((callsIn_wide.2 (copied_any _ xk xa W.drew (HKR.out.below (Below.refl W.heap.size W).drew) (by omega) (by omega))).mono ?_)
      rintro e w4 ⟨kv4, rfl, ho4, hb4⟩
      obtain ⟨a4, c4, rfl, hl4⟩ := ho4.form
      clear hl4
      have HB4 : Hid (Below W.heap.size W w4) := (Below.refl W.heap.size W).drew.trans hb4
      have HO4 : Hid (Own w4 w.heap.size (.slice a4 xk.length c4) xk) := ho4.mono HB.out.size
      have hv4 : Boxed w4 (w.heap.size + 1) 22 (.slice av0 xs.length cv0) := boxed_kcS HV.out (Kc.of_below HB4.out (Nat.le_refl _))
      have hc4 := hv4.cell
      have HV4 : Hid (Boxed w4 (w.heap.size + 1) 22 (.slice av0 xs.length cv0)) := hv4
      have hc5 := (hv4.alloc (.cells #[.slice a4 xk.length c4, .int .u64 xa.c, .bool xa.o, .int .i64 (hi xa.s), .int .u64 (lo xa.s), .int .i64 xa.mn, .int .i64 xa.mx] 36)).cell
      clear ho4 hb4 hv4
      unfold env
      refine hK _ _ ?_
      refine wpAnyIn_ready (rs := [3]) (by kernel_rfl) (by simp) ?_
      refine AllReadyIn.cons rfl (fun K hK => ?_) AllReadyIn.nil
      go_simp
      refine hK _ _ ?_
      refine wpAnyIn_ready (rs := [4]) (by kernel_rfl) (by simp) ?_
      refine AllReadyIn.cons rfl (fun K hK => ?_) AllReadyIn.nil
      obtain ⟨v6, w6, hrun, g6, cap6, rfl, hv6, hf6, hFIN⟩ := APP w4 a4 c4 HB4.out HO4.out HV4.out
      have HFIN : Hid _ := hFIN
      clear hFIN
      rw [if_pos (by rfl)]
      refine wpIn_app_run _ _ _ _ rfl rfl _ _ _ (by rfl) (by rfl) hrun ?_
      go_simp
      refine hK _ _ ?_
      clear hrun
      refine wpAnyIn_ready (rs := [5]) (by kernel_rfl) (by simp) ?_
      refine AllReadyIn.cons rfl (fun K hK => ?_) AllReadyIn.nil
      go_simp
      refine hK _ _ ?_
      refine wpAnyIn_done (by kernel_rfl) ?_ _
      exact REST w4 a4 c4 g6 cap6 _ HFIN.out
    · go_simp
      refine hK _ _ ?_
      refine wpAnyIn_ready (rs := [0, 2]) (by kernel_rfl) (by simp) ?_
      refine AllReadyIn.cons rfl (fun K hK => ?_) (AllReadyIn.cons rfl (fun K hK => ?_) AllReadyIn.nil)
      · go_simp
        refine hK _ _ ?_
        refine wpAnyIn_ready (rs := [2]) (by kernel_rfl) (by simp) ?_
        refine AllReadyIn.cons rfl (fun K hK => ?_) AllReadyIn.nil
        go_simp
        refine ⟨trivial, fun _ => by omega, ?_⟩
        refine CallsIn.inRound l ((callsIn_wide.2 (copied_any _ xk xa W.drew (HKR.out.below (Below.refl W.heap.size W).drew) (by omega) (by omega))).mono ?_)
        rintro e w4 ⟨kv4, rfl, ho4, hb4⟩
        obtain ⟨a4, c4, rfl, hl4⟩ := ho4.form
        clear hl4
        have HB4 : Hid (Below W.heap.size W w4) := (Below.refl W.heap.size W).drew.trans hb4
        have HO4 : Hid (Own w4 w.heap.size (.slice a4 xk.length c4) xk) := ho4.mono HB.out.size
        have hv4 : Boxed w4 (w.heap.size + 1) 22 (.slice av0 xs.length cv0) := boxed_kcS HV.out (Kc.of_below HB4.out (Nat.le_refl _))
        have hc4 := hv4.cell
        have HV4 : Hid (Boxed w4 (w.heap.size + 1) 22 (.slice av0 xs.length cv0)) := hv4
        have hc5 := (hv4.alloc (.cells #[.slice a4 xk.length c4, .int .u64 xa.c, .bool xa.o, .int .i64 (hi xa.s), .int .u64 (lo xa.s), .int .i64 xa.mn, .int .i64 xa.mx] 36)).cell
        clear ho4 hb4 hv4
        unfold env
        refine hK _ _ ?_
        refine wpAnyIn_ready (rs := [3]) (by kernel_rfl) (by simp) ?_
        refine AllReadyIn.cons rfl (fun K hK => ?_) AllReadyIn.nil
        go_simp
        refine hK _ _ ?_
        refine wpAnyIn_ready (rs := [4]) (by kernel_rfl) (by simp) ?_
        refine AllReadyIn.cons rfl (fun K hK => ?_) AllReadyIn.nil
        obtain ⟨v6, w6, hrun, g6, cap6, rfl, hv6, hf6, hFIN⟩ := APP w4 a4 c4 HB4.out HO4.out HV4.out
        have HFIN : Hid _ := hFIN
        clear hFIN
        rw [if_pos (by rfl)]
        refine wpIn_app_run _ _ _ _ rfl rfl _ _ _ (by rfl) (by rfl) hrun ?_
        go_simp
        refine hK _ _ ?_
        clear hrun
        refine wpAnyIn_ready (rs := [5]) (by kernel_rfl) (by simp) ?_
        refine AllReadyIn.cons rfl (fun K hK => ?_) AllReadyIn.nil
        go_simp
        refine hK _ _ ?_
        refine wpAnyIn_done (by kernel_rfl) ?_ _
        exact REST w4 a4 c4 g6 cap6 _ HFIN.out
      · go_simp
        refine ⟨trivial, fun _ => by omega, ?_⟩
        refine CallsIn.inRound l ((callsIn_wide.2 (copied_any _ xk xa W.drew (HKR.out.below (Below.refl W.heap.size W).drew) (by omega) (by omega))).mono ?_)
        rintro e w4 ⟨kv4, rfl, ho4, hb4⟩
        obtain ⟨a4, c4, rfl, hl4⟩ := ho4.form
        clear hl4
        have HB4 : Hid (Below W.heap.size W w4) := (Below.refl W.heap.size W).drew.trans hb4
        have HO4 : Hid (Own w4 w.heap.size (.slice a4 xk.length c4) xk) := ho4.mono HB.out.size
        have hv4 : Boxed w4 (w.heap.size + 1) 22 (.slice av0 xs.length cv0) := boxed_kcS HV.out (Kc.of_below HB4.out (Nat.le_refl _))
        have hc4 := hv4.cell
        have HV4 : Hid (Boxed w4 (w.heap.size + 1) 22 (.slice av0 xs.length cv0)) := hv4
        have hc5 := (hv4.alloc (.cells #[.slice a4 xk.length c4, .int .u64 xa.c, .bool xa.o, .int .i64 (hi xa.s), .int .u64 (lo xa.s), .int .i64 xa.mn, .int .i64 xa.mx] 36)).cell
        clear ho4 hb4 hv4
        unfold env
        refine hK _ _ ?_
        refine wpAnyIn_ready (rs := [0, 3]) (by kernel_rfl) (by simp) ?_
        refine AllReadyIn.cons rfl (fun K hK => ?_) (AllReadyIn.cons rfl (fun K hK => ?_) AllReadyIn.nil)
        · go_simp
          refine hK _ _ ?_
          refine wpAnyIn_ready (rs := [3]) (by kernel_rfl) (by simp) ?_
          refine AllReadyIn.cons rfl (fun K hK => ?_) AllReadyIn.nil
          go_simp
          refine hK _ _ ?_
          refine wpAnyIn_ready (rs := [4]) (by kernel_rfl) (by simp) ?_
          refine AllReadyIn.cons rfl (fun K hK => ?_) AllReadyIn.nil
          obtain ⟨v6, w6, hrun, g6, cap6, rfl, hv6, hf6, hFIN⟩ := APP w4 a4 c4 HB4.out HO4.out HV4.out
          have HFIN : Hid _ := hFIN
          clear hFIN
          rw [if_pos (by rfl)]
          refine wpIn_app_run _ _ _ _ rfl rfl _ _ _ (by rfl) (by rfl) hrun ?_
          go_simp
          refine hK _ _ ?_
          clear hrun
          refine wpAnyIn_ready (rs := [5]) (by kernel_rfl) (by simp) ?_
          refine AllReadyIn.cons rfl (fun K hK => ?_) AllReadyIn.nil
          go_simp
          refine hK _ _ ?_
          refine wpAnyIn_done (by kernel_rfl) ?_ _
          exact REST w4 a4 c4 g6 cap6 _ HFIN.out
        · go_simp
          refine hK _ _ ?_
          refine wpAnyIn_ready (rs := [0]) (by kernel_rfl) (by simp) ?_
          refine AllReadyIn.cons rfl (fun K hK => ?_) AllReadyIn.nil
          go_simp
          refine hK _ _ ?_
          refine wpAnyIn_ready (rs := [4]) (by kernel_rfl) (by simp) ?_
          refine AllReadyIn.cons rfl (fun K hK => ?_) AllReadyIn.nil
          obtain ⟨v6, w6, hrun, g6, cap6, rfl, hv6, hf6, hFIN⟩ := APP w4 a4 c4 HB4.out HO4.out HV4.out
          have HFIN : Hid _ := hFIN
          clear hFIN
          rw [if_pos (by rfl)]
          refine wpIn_app_run _ _ _ _ rfl rfl _ _ _ (by rfl) (by rfl) hrun ?_
          go_simp
          refine hK _ _ ?_
          clear hrun
          refine wpAnyIn_ready (rs := [5]) (by kernel_rfl) (by simp) ?_
          refine AllReadyIn.cons rfl (fun K hK => ?_) AllReadyIn.nil
          go_simp
          refine hK _ _ ?_
          refine wpAnyIn_done (by kernel_rfl) ?_ _
          exact REST w4 a4 c4 g6 cap6 _ HFIN.out
  case done =>
    rintro D ys W hD hS2 ⟨⟨v, xs, hv, hE, hmap⟩, hM, hB, hlt⟩ hK
    have hc := hv.cell
    have HMAP : Hid _ := hmap
    have HE : Hid _ := hE
    clear hmap hE
    gi_wp2
    refine ⟨by simp, .inl ⟨_, _, rfl, run_takeDeferred hK, ?_⟩⟩
    have hs0 := HB0.out.size
    have hpk := Kc.put (n := w.heap.size) (.deferred none) hK rfl (by omega)
    refine ⟨_, results_tmp rfl _ _ _, v, xs, rfl, EOwn.kc HE.out hpk, ?_, hB.trans hpk.b⟩
    rw [HMAP.out, hS2, List.take_of_length_le]
    rw [hS2] at hlt
    unfold ents
    rw [List.length_map]
    omega
  case left =>
    rintro D ys c W hD ⟨m, hm⟩ ⟨rfl, ⟨v, xs, hv, hE, hmap⟩, hB, hlt⟩ hK
    have hc := hv.cell
    have HMAP : Hid _ := hmap
    have HE : Hid _ := hE
    clear hmap hE
    gi_wp2
    refine ⟨by simp, .inl ⟨_, _, rfl, run_takeDeferred hK, ?_⟩⟩
    have hs0 := HB0.out.size
    have hpk := Kc.put (n := w.heap.size) (.deferred none) hK rfl (by omega)
    refine ⟨_, results_tmp rfl _ _ _, v, xs, rfl, EOwn.kc HE.out hpk, ?_, hB.trans hpk.b⟩
    have hlen : ys.length = most.toNat := by omega
    rw [HMAP.out, ← hlen]
    unfold ents
    rw [← List.map_take]
    congr 1
    rw [hm, List.length_take]
    rcases Nat.le_total m (N.drop (plK (N.map Nd.k) key)).length with h | h
    · rw [Nat.min_eq_left h]
    · rw [Nat.min_eq_right h, List.take_of_length_le h, List.take_length]
end Go.Proofs.Ytopemhlkjicjpaa

/- The contracts of Seek, All and Get, over the entries. -/
namespace Go.Proofs.Ytopemhlkjicjpaa
open Go.RowKit

/-- The first entries from a key on. -/
def skF (E : List En) (key : Ks) (most : Int) : List En := (E.drop (plK (keysE E) key)).take most.toNat
theorem EOwn.below {A B : World} {base : Nat} {v : Value} {xs : List Ev} (h : EOwn A base v xs) (hb : Below A.heap.size A B) : EOwn B base v xs := h.kc (Kc.of_below hb (Nat.le_refl _))
theorem seek_any (L0 : Nat) (E : List En) (fr : Bool) (kv : Value) (key : Ks) (most : Int) (w : World) (base : Nat) (hS : SK w base L0 E fr) (hR : Reads w kv key) :
    Calls Try.prog 18 #[.pointer (some ⟨L0, 0, none⟩), kv, .int .i64 most] w fun e W' => ∃ v xs, e = .returned v ∧ EOwn W' w.heap.size v xs ∧ xs.map evE = skF E key most ∧ Below w.heap.size w W' := by
  by_cases hm : 1 ≤ most
  · obtain ⟨N, h1, rfl⟩ := hS
    refine (callsIn_wide.1 (seek_in 5 (by decide) L0 N _ fr kv key most hm w base h1 hR)).mono ?_
    rintro e W' ⟨v, xs, rfl, h2, h3, h4⟩
    refine ⟨v, xs, rfl, h2, ?_, h4⟩
    rw [h3]
    unfold skF
    rw [keys_ents]
    unfold ents
    rw [List.map_drop]
  · have hm1 : most < 1 := by omega
    have HSK : Hid (skF E key most = []) := by unfold Hid skF; rw [show most.toNat = 0 by omega, List.take_zero]
    obtain ⟨ak, ck, rfl, _⟩ := hR.form
    have HB : Hid (Below w.heap.size w (w.alloc (.cells #[.int .i64 most] 3))) := (Below.refl _ _).alloc (Nat.le_refl _) _
    clear hS hR
    go_enter Try.func18, Try.ntmps18
    go_wp2_with fail
    go_ret
    first
      | exact ⟨_, rfl, [], ⟨World.ownsRow_nil _ _ _ _, fun _ h => (by cases h)⟩, by rw [HSK.out]; rfl, HB.out⟩
      | exact ⟨_, [], rfl, ⟨World.ownsRow_nil _ _ _ _, fun _ h => (by cases h)⟩, by rw [HSK.out]; rfl, HB.out⟩
theorem plK_nil (N : List Ks) : plK N [] = 0 := by
  unfold plK
  cases N with
  | nil => rfl
  | cons x N =>
    rw [List.takeWhile_cons_of_neg]
    · rfl
    · cases x <;> simp [ltK, Lib.compareBytes]
theorem all_anyS (L0 : Nat) (E : List En) (fr : Bool) (w : World) (base : Nat) (hS : SK w base L0 E fr) :
    Calls Try.prog 10 #[.pointer (some ⟨L0, 0, none⟩)] w fun e W' => ∃ v xs, e = .returned v ∧ EOwn W' w.heap.size v xs ∧ xs.map evE = E ∧ Below w.heap.size w W' := by
  have HS : Hid (SK w base L0 E fr) := hS
  have HE : Hid (skF E [] (E.length : Int) = E) := by unfold Hid skF; rw [plK_nil, List.drop_zero, Int.toNat_natCast, List.take_length]
  clear hS
  go_enter Try.func10, Try.ntmps10
  go_wp2_with fail
  refine (len_any L0 E fr _ base HS.out).mono ?_
  rintro e w1 ⟨rfl, hw1⟩
  subst w1
  go_wp2_with fail
  refine (seek_any L0 E fr _ [] (E.length : Int) _ base HS.out (.inl ⟨rfl, _, _, rfl, fun _ => rfl⟩)).mono ?_
  rintro e w2 ⟨v, xs, rfl, h2, h3, h4⟩
  rw [HE.out] at h3
  have H2 : Hid _ := h2
  have H3 : Hid _ := h3
  have H4 : Hid _ := h4
  clear h2 h3 h4
  go_wp2_with fail
  go_ret
  first
    | exact ⟨v, xs, rfl, H2.out, H3.out, H4.out⟩
    | exact ⟨v, rfl, xs, H2.out, H3.out, H4.out⟩
theorem c7_len (x : Ev) : (c7 x).length = 7 := rfl
theorem flat7 : ∀ (xs : List Ev) (j i : Nat) (hj : j < xs.length), i < 7 → (xs.flatMap c7)[7 * j + i]? = (c7 xs[j])[i]?
  | [], j, i, hj, _ => by simp at hj
  | x :: xs, 0, i, _, hi => by
    rw [List.flatMap_cons, List.getElem?_append_left (by rw [c7_len]; omega)]; simp
  | x :: xs, j + 1, i, hj, hi => by
    rw [List.flatMap_cons, List.getElem?_append_right (by rw [c7_len]; omega), c7_len, show 7 * (j + 1) + i - 7 = 7 * j + i by omega]
    exact flat7 xs j i (by simpa using hj) hi
/-- What a slice of entries holds. -/
theorem EOwn.at {w : World} {base : Nat} {v : Value} {xs : List Ev} (h : EOwn w base v xs) : ∃ a cap, v = .slice a xs.length cap ∧ xs.length ≤ cap ∧ cap ≤ maxLen ∧ (0 < xs.length → ∃ g, a = some ⟨g, 0, none⟩ ∧ base ≤ g ∧ g < w.heap.size ∧ ∀ j (hj : j < xs.length) (i : Nat) (hi : i < 7), w.cell? ⟨g, 7 * j + i, none⟩ = some ((c7 xs[j])[i]'hi) ∧ w.frozen? ⟨g, 7 * j + i, none⟩ = false) := by
  have hlt := World.ownsRow.lt h.1
  rcases h.1.2 with ⟨h1, h2⟩ | ⟨g, cap, cur, hv, hg, hw, hc, hm, _⟩
  · exact ⟨none, 0, by rw [h1, h2], by omega, by simp, fun h0 => by omega⟩
  · have hr := h.1
    rw [hv] at hr
    refine ⟨_, cap, hv, hc, hm, fun _ => ⟨g, rfl, hg, (hlt g (by rw [hv]; rfl)).2, fun j hj i hi => ⟨?_, World.ownsRow.frozenAt hr _⟩⟩⟩
    rw [World.ownsRow.cellAt hr _ (by omega), flat7 xs j i hj hi, List.getElem?_eq_getElem hi]
end Go.Proofs.Ytopemhlkjicjpaa

/- The contract of word.Write: numbers as eight bytes each, the greatest first. -/
namespace Go.Proofs.Ytopemhlkjicjpaa
open Go.RowKit

/-- Byte i of eight, the greatest first. -/
def byteOf (x : Int) (i : Nat) : Int := x / 2 ^ (8 * (7 - i)) % 256
/-- The first k bytes of all numbers' bytes. -/
def bytesTo (zs : List Int) (k : Nat) : List Int := (List.range k).map fun j => byteOf (zs.getD (j / 8) 0) (j % 8)
theorem bytesTo_succ (zs : List Int) (k : Nat) : bytesTo zs (k + 1) = bytesTo zs k ++ [byteOf (zs.getD (k / 8) 0) (k % 8)] := by
  simp [bytesTo, List.range_succ]
theorem bytesTo_len (zs : List Int) (k : Nat) : (bytesTo zs k).length = k := by simp [bytesTo]
set_option maxRecDepth 100000 in
set_option maxHeartbeats 2000000 in
theorem wordWrite_any (b n : Nat) (zs : List Int) (hn : zs.length = n) (hn2 : n ≤ 1000) (hz : ∀ x ∈ zs, 0 ≤ x ∧ x < 18446744073709551616) (w : World) (hbw : b < w.heap.size)
    (hc : ∀ i, i < zs.length → w.cell? ⟨b, i, none⟩ = some (.int .u64 (zs.getD i 0)))
    (hmk : ∀ w, (Instr.makeSlice 23 (.int .i64 0) (.int .i64 (8 * (n : Int)))).run Try.prog w = .ok (.slice (some ⟨w.heap.size, 0, none⟩) 0 (8 * n)) (w.alloc (.cells (Array.replicate (8 * n) (.int .u8 0)) 5))) :
    Calls Try.prog 28 #[.slice (some ⟨b, 0, none⟩) n n] w fun e w' => ∃ v, e = .returned v ∧ w'.ownsRow w.heap.size 5 1 v (8 * n) ((bytesTo zs (8 * n)).map (Value.int .u8)) ∧ Below w.heap.size w w' := by
  obtain ⟨i0, hi, hz0, hz1, hz2⟩ := info_parts info5
  go_enter Try.func28, Try.ntmps28
  go_wp2_with fail
  have hown0 : (w.alloc (.cells (Array.replicate (8 * n) (.int .u8 0)) 5)).ownsRow w.heap.size 5 1 (.slice (some ⟨w.heap.size, 0, none⟩) 0 (8 * n)) 0 [] := by
    refine ⟨rfl, Or.inr ⟨w.heap.size, 8 * n, Array.replicate (8 * n) (.int .u8 0), rfl, Nat.le_refl _, ?_, Nat.zero_le _, ?_, ?_, ?_⟩⟩
    · show (w.heap.push _)[w.heap.size]? = _
      simp
    · unfold maxLen; omega
    · simp
    · simp
  clear hmk
  go_loopw [3, 13] (fun v i wr => ∃ k : Nat, k ≤ n ∧ i = .int .i64 k ∧ wr.ownsRow w.heap.size 5 1 v (8 * k) ((bytesTo zs (8 * k)).map (Value.int .u8)) ∧ Below w.heap.size w wr) (fun _ i _ => n - (intOf i).toNat)
  case atStart => exact ⟨0, Nat.zero_le _, rfl, hown0, (Below.refl _ _).alloc (by simp) _⟩
  case round =>
    obtain ⟨k, hk, rfl, hown, hbr⟩ := hrel
    clear hown0
    by_cases hlt : k < n
    · have hcell : wr.cell? ⟨b, k, none⟩ = some (.int .u64 (zs.getD k 0)) := (hbr.cell (p := ⟨b, k, none⟩) hbw).trans (hc k (by omega))
      have hzk := hz _ (getD_mem zs k (by omega))
      have HO : Hid _ := hown
      have HB : Hid _ := hbr
      have HE : Hid (zs.getD k 0 = zs.getD k 0) := rfl
      have hsz := hbr.size
      clear hown hbr hc
      generalize hx : zs.getD k 0 = x at *
      have HX : Hid (zs.getD k 0 = x) := hx
      clear hx
      go_wp2_with fail
      go_loopw [3, 17] (fun v i wq => ∃ m : Nat, m ≤ 8 ∧ i = .int .i64 m ∧ wq.ownsRow w.heap.size 5 1 v (8 * k + m) ((bytesTo zs (8 * k + m)).map (Value.int .u8)) ∧ Below w.heap.size w wq) (fun _ i _ => 8 - (intOf i).toNat)
      case atStart => exact ⟨0, by omega, rfl, HO.out, HB.out⟩
      case round =>
        obtain ⟨m, hm, rfl, hown, hbr⟩ := hrel
        clear HO HB
        by_cases hlm : m < 8
        · have hsz2 := hbr.size
          go_wp2_with (at_builtin; refine wpList_append_own _ rfl _ _ 23 rfl w.heap.size 5 i0 (.int .u8 0) 1 1 Try.underlying23 hi hz0 hz1 hz2 rfl (by decide) _ _ _ rfl (hown.alloc _) ⟨wr.heap.size, 0, none⟩ 1 1 [.int .u8 (x / 2 ^ (8 * (7 - m)) % 256)] rfl rfl ?c1 ?c2 ?c3 ?c4 ?c5 ?_)
          case c1 =>
            intro j u hj
            match j, hj with
            | 0, hj => simp at hj; subst hj; simp [Addr.add]
          case c2 => intro u hu; simp at hu; subst hu; rfl
          case c3 => unfold maxLen; omega
          case c4 => omega
          case c5 => simp; omega
          intro v' w1 hown' hgrow _
          have HO2 : Hid (w1.ownsRow w.heap.size 5 1 v' (8 * k + (m + 1)) ((bytesTo zs (8 * k + (m + 1))).map (Value.int .u8))) := by
            have e : bytesTo zs (8 * k + (m + 1)) = bytesTo zs (8 * k + m) ++ [byteOf x m] := by
              have := bytesTo_succ zs (8 * k + m)
              have e1 : (8 * k + m) / 8 = k := by omega
              have e2 : (8 * k + m) % 8 = m := by omega
              rw [e1, e2, HX.out] at this
              exact this
            rw [e, List.map_append]
            exact hown'
          have HB2 : Hid (Below w.heap.size w w1) := (hbr.alloc hbr.size _).grown hgrow (by simp; omega) (own_block hown)
          clear hown hown' hgrow hbr
          go_wp2_with fail
          go_roundw
          case rel => exact ⟨m + 1, by omega, by go_num, HO2.out, HB2.out⟩
          case measure => simp [intOf]; omega
        · have hm8 : m = 8 := by omega
          subst hm8
          have HO2 : Hid _ := hown
          have HB2 : Hid _ := hbr
          clear hown hbr
          go_wp2_with fail
          go_roundw
          case rel => exact ⟨k + 1, by omega, by go_num, HO2.out, HB2.out⟩
          case measure => simp [intOf]; omega
    · have hke : k = n := by omega
      subst hke
      have HO2 : Hid _ := hown
      have HB2 : Hid _ := hbr
      clear hown hbr
      go_wp2_with fail
      go_ret
      exact ⟨_, rfl, HO2.out, HB2.out⟩
end Go.Proofs.Ytopemhlkjicjpaa
