/- TA1 F1 FX V1, joined. -/
import Derived.Test.YtlpjdfgknmfmnaaTF6
import Derived.Test.YtlpjdfgknmfmnaaTF7
import Derived.Test.YtlpjdfgknmfmnaaRows
import Derived.RangeFuncLeaves
import Derived.RangeFuncOwn
import Derived.RangeFuncSeq
import Derived.RangeFuncIn
import Derived.RangeFuncRecord
import Derived.Below
/- table: mayBe. -/
namespace Go.Proofs.Ytlpjdfgknmfmnaa
open Go.RowKit

/-- An entry. -/
abbrev Et := List UInt8 × Ag
def e7 (kv : Value) (a : Ag) : List Value := [kv, .int .u64 a.c, .bool a.o, .int .i64 (hi a.s), .int .u64 (lo a.s), .int .i64 a.mn, .int .i64 a.mx]
/-- A slice of entries. -/
def TRd (w : World) (v : Value) (L : List Et) : Prop := ∃ a cap, v = .slice a L.length cap ∧ L.length ≤ cap ∧ cap ≤ maxLen ∧ ∀ j (hj : j < L.length), ∃ b off kv, a = some ⟨b, off, none⟩ ∧ b < w.heap.size ∧ (∀ i (hi : i < 7), w.cell? ⟨b, off + j * 7 + i, none⟩ = some ((e7 kv L[j].2)[i]'hi)) ∧ Reads w kv L[j].1 ∧ AgOk L[j].2
theorem TRd.below {w w' : World} {v : Value} {L : List Et} (h : TRd w v L) (hb : Below w.heap.size w w') : TRd w' v L := by
  obtain ⟨a, cap, h1, h2, h3, h4⟩ := h
  refine ⟨a, cap, h1, h2, h3, fun j hj => ?_⟩
  obtain ⟨b, off, kv, g1, g2, g3, g4, g5⟩ := h4 j hj
  exact ⟨b, off, kv, g1, Nat.lt_of_lt_of_le g2 hb.size, fun i hi => (hb.cell g2).trans (g3 i hi), g4.below hb, g5⟩
theorem TRd.at {w : World} {a : Option Addr} {n cap : Nat} {L : List Et} (h : TRd w (.slice a n cap) L) {j : Nat} (hj : j < L.length) {x : Et} (hx : x = L[j]) : ∃ b off kv, a = some ⟨b, off, none⟩ ∧ b < w.heap.size ∧ (∀ i (hi : i < 7), w.cell? ⟨b, off + j * 7 + i, none⟩ = some ((e7 kv x.2)[i]'hi)) ∧ Reads w kv x.1 ∧ AgOk x.2 := by
  obtain ⟨a', cap', e, _, _, h4⟩ := h
  simp only [Value.slice.injEq] at e
  obtain ⟨rfl, _, _⟩ := e
  subst hx
  exact h4 j hj
/-- What mayBe answers, behind a key. -/
def tmB : List UInt8 → List Et → Int
  | _, [] => 0
  | p, x :: l => if x.1.length < 1 ∨ 256 < x.1.length then 40 else if x.2.c = 0 ∨ rightB x.2 = false then 3 else if 0 ≤ Lib.compareBytes p x.1 then 50 else tmB x.1 l
def tmF (l : List Et) : Int := if 4096 < l.length then 2 else tmB [] l
set_option maxRecDepth 100000 in
set_option maxHeartbeats 4000000 in
theorem tmayBe_any (v : Value) (L : List Et) (w : World) (h : TRd w v L) : Calls Try.prog 15 #[v] w fun e w' => e = .returned (.int .i64 (tmF L)) ∧ Below w.heap.size w w' := by
  obtain ⟨a, cap, rfl, hc, hm⟩ : ∃ a cap, v = .slice a L.length cap ∧ L.length ≤ cap ∧ cap ≤ maxLen := by obtain ⟨a, cap, h1, h2, h3, _⟩ := h; exact ⟨a, cap, h1, h2, h3⟩
  unfold maxLen at hm
  have HR : Hid (TRd w (.slice a L.length cap) L) := h
  obtain ⟨N, HN⟩ : ∃ n, Hid (L.length = n) := ⟨_, rfl⟩
  rw [HN.out] at HR hc ⊢
  obtain ⟨R, HRe⟩ := hid_ex (tmF L)
  rw [← HRe.out]
  clear h
  go_enter Try.func15, Try.ntmps15
  by_cases h1 : 4096 < N
  · have h1' : (4096 : Int) < (N : Int) := by omega
    have HE : Hid (R = 2) := by unfold Hid; rw [HRe.out]; unfold tmF; rw [HN.out, if_pos h1]
    go_wp2_with fail
    go_ret
    exact ⟨by rw [HE.out]; rfl, Below.refl _ _⟩
  · have h1' : ¬ (4096 : Int) < (N : Int) := by omega
    have HE : Hid (R = tmB [] L) := by unfold Hid; rw [HRe.out]; unfold tmF; rw [HN.out, if_neg h1]
    clear HRe
    go_wp2_with fail
    go_loopw [3, 11] (fun o i wr => ∃ (j : Nat) (p : List UInt8), i = .int .i64 (j : Int) ∧ j ≤ N ∧ Hid (Reads wr o p) ∧ Hid (R = tmB p (L.drop j)) ∧ Hid (Below w.heap.size w wr)) (fun _ i _ => N - (intOf i).toNat)
    case atStart => exact ⟨0, [], rfl, by omega, .inl ⟨rfl, none, 0, rfl, fun _ => rfl⟩, HE, Below.refl _ _⟩
    case round =>
      obtain ⟨j, p, rfl, hj, HO, HT, HB⟩ := hrel
      by_cases hlt : j < N
      · have hlt' : (j : Int) < (N : Int) := by omega
        have hjl : j < L.length := by rw [HN.out]; exact hlt
        obtain ⟨x, Hx⟩ := hid_ex L[j]
        have Hdr : Hid (L.drop j = x :: L.drop (j + 1)) := by unfold Hid; rw [Hx.out]; exact List.drop_eq_getElem_cons hjl
        obtain ⟨b, off, kv, rfl, hbw, hcs, hrk, hag⟩ := (HR.out.below HB.out).at hjl Hx.out
        obtain ⟨k, A⟩ := x
        simp only at hcs hrk hag
        obtain ⟨ka, kc, rfl, hkm⟩ := hrk.form
        unfold maxLen at hkm
        obtain ⟨oa, oc, hov, _⟩ := HO.out.form
        subst hov
        obtain ⟨KL, HKL⟩ : ∃ n, Hid (k.length = n) := ⟨_, rfl⟩
        obtain ⟨PL, HPL⟩ : ∃ n, Hid (p.length = n) := ⟨_, rfl⟩
        rw [HKL.out] at hcs hrk hkm
        rw [HPL.out] at HO ⊢
        have HRk : Hid (Reads wr (.slice ka KL kc) k) := hrk
        have c0 := hcs 0 (by decide)
        have c1 := hcs 1 (by decide)
        have c2 := hcs 2 (by decide)
        have c3 := hcs 3 (by decide)
        have c4 := hcs 4 (by decide)
        have c5 := hcs 5 (by decide)
        have c6 := hcs 6 (by decide)
        simp only [e7, List.getElem_cons_succ, List.getElem_cons_zero, Nat.add_zero] at c0 c1 c2 c3 c4 c5 c6
        have HOn : Hid (([.slice ka KL kc, .int .u64 A.c, .bool A.o, .int .i64 (hi A.s), .int .u64 (lo A.s), .int .i64 A.mn, .int .i64 A.mx] : List Value).toArray.all (·.oneCell') = true) := by unfold Hid; kernel_rfl
        clear hcs hrk hag Hx
        go_wp2_with (refine stop_store 43 _ _ rfl ?_)
        refine Stop.of ?_
        refine wpList_storeN rfl _ _ _ rfl wr.heap.size 0 [.slice ka KL kc, .int .u64 A.c, .bool A.o, .int .i64 (hi A.s), .int .u64 (lo A.s), .int .i64 A.mn, .int .i64 A.mx] rfl rfl _ _ (heap_alloc_new _ _) (by simp) (by kernel_rfl) HOn.out ?_
        intro w2 hw2
        obtain ⟨hb2, hx2, hz2⟩ := stW_nw hw2 (by simp)
        have HB2 : Hid (Below w.heap.size w w2) := HB.out.trans (hb2.mono HB.out.size)
        have HRk2 : Hid (Reads w2 (.slice ka KL kc) k) := HRk.out.below hb2
        have HO2 : Hid (Reads w2 (.slice oa PL oc) p) := HO.out.below hb2
        have HX2 : Hid (w2.heap[wr.heap.size]? = some (.cells #[.slice ka KL kc, .int .u64 A.c, .bool A.o, .int .i64 (hi A.s), .int .u64 (lo A.s), .int .i64 A.mn, .int .i64 A.mx] 43)) := hx2
        clear hw2 hb2 hx2 c0 c1 c2 c3 c4 c5 c6
        have q0 := cell_rw HX2.out 0 (by simp)
        have q1 := cell_rw HX2.out 1 (by simp)
        have q2 := cell_rw HX2.out 2 (by simp)
        have q3 := cell_rw HX2.out 3 (by simp)
        have q4 := cell_rw HX2.out 4 (by simp)
        have q5 := cell_rw HX2.out 5 (by simp)
        have q6 := cell_rw HX2.out 6 (by simp)
        simp only [List.getElem_toArray, List.getElem_cons_succ, List.getElem_cons_zero] at q0 q1 q2 q3 q4 q5 q6
        by_cases g1 : KL < 1
        · have g1' : (KL : Int) < 1 := by omega
          have HQ : Hid (R = 40) := by unfold Hid; rw [HT.out, Hdr.out, tmB, if_pos (.inl (by rw [HKL.out]; exact g1))]
          go_wp2_with fail
          go_ret
          exact ⟨by rw [HQ.out]; rfl, HB2.out⟩
        · have g1' : ¬ (KL : Int) < 1 := by omega
          by_cases g2 : 256 < KL
          · have g2' : (256 : Int) < (KL : Int) := by omega
            have HQ : Hid (R = 40) := by unfold Hid; rw [HT.out, Hdr.out, tmB, if_pos (.inr (by rw [HKL.out]; exact g2))]
            go_wp2_with fail
            go_ret
            exact ⟨by rw [HQ.out]; rfl, HB2.out⟩
          · have g2' : ¬ (256 : Int) < (KL : Int) := by omega
            have d2 : decide ((256 : Int) < (KL : Int)) = false := decide_eq_false g2'
            have HT2 : Hid (R = if A.c = 0 ∨ rightB A = false then 3 else if 0 ≤ Lib.compareBytes p k then 50 else tmB k (L.drop (j + 1))) := by unfold Hid; rw [HT.out, Hdr.out, tmB, if_neg (by rw [HKL.out]; omega)]
            by_cases g3 : A.c = 0
            · have HQ : Hid (R = 3) := by unfold Hid; rw [HT2.out, if_pos (.inl g3)]
              go_wp2_with fail
              go_ret
              exact ⟨by rw [HQ.out]; rfl, HB2.out⟩
            · have g3' : (A.c == 0) = false := by simpa using g3
              have HRt : Hid (Calls Try.prog 48 #[.agg #[.int .u64 A.c, .bool A.o, .int .i64 (hi A.s), .int .u64 (lo A.s), .int .i64 A.mn, .int .i64 A.mx]] w2 _) := right_any A w2
              obtain ⟨rb, Hrb⟩ := hid_ex (rightB A)
              rw [← Hrb.out] at HRt HT2
              go_wp2_with fail
              refine HRt.out.mono ?_
              clear HRt
              rintro e w3 ⟨rfl, hb3⟩
              have HB3 : Hid (Below w.heap.size w w3) := HB2.out.trans (hb3.mono HB2.out.size)
              have HX3 : Hid (w3.heap[wr.heap.size]? = some (.cells #[.slice ka KL kc, .int .u64 A.c, .bool A.o, .int .i64 (hi A.s), .int .u64 (lo A.s), .int .i64 A.mn, .int .i64 A.mx] 43)) := (hb3.block _ hz2).trans HX2.out
              have HRk3 : Hid (Reads w3 (.slice ka KL kc) k) := HRk2.out.below hb3
              have HO3 : Hid (Reads w3 (.slice oa PL oc) p) := HO2.out.below hb3
              clear hb3 q0 q1 q2 q3 q4 q5 q6
              cases rb with
              | false =>
                have HQ : Hid (R = 3) := by unfold Hid; rw [HT2.out, if_pos (.inr rfl)]
                go_wp2_with fail
                go_ret
                exact ⟨by rw [HQ.out]; rfl, HB3.out⟩
              | true =>
                have q0 := cell_rw HX3.out 0 (by simp)
                simp only [List.getElem_toArray, List.getElem_cons_zero] at q0
                have HT3 : Hid (R = if 0 ≤ Lib.compareBytes p k then 50 else tmB k (L.drop (j + 1))) := by unfold Hid; rw [HT2.out, if_neg (by simp [g3])]
                have HCm : Hid (Calls Try.prog 49 #[.slice oa PL oc, .slice ka KL kc] w3 _) := cmp_any _ _ p k w3 HO3.out HRk3.out
                obtain ⟨C, HC⟩ := hid_ex (Lib.compareBytes p k)
                rw [← HC.out] at HCm HT3
                go_wp2_with fail
                refine HCm.out.mono ?_
                clear HCm
                rintro e w4 ⟨rfl, rfl⟩
                by_cases g4 : 0 ≤ C
                · have HQ : Hid (R = 50) := by unfold Hid; rw [HT3.out, if_pos g4]
                  go_wp2_with fail
                  go_ret
                  exact ⟨by rw [HQ.out]; rfl, HB3.out⟩
                · have HQ : Hid (R = tmB k (L.drop (j + 1))) := by unfold Hid; rw [HT3.out, if_neg g4]
                  go_wp2_with fail
                  go_roundw
                  case rel => exact ⟨j + 1, k, by go_num, by omega, HRk3, HQ, HB3⟩
                  case measure => simp [intOf]; omega
      · have hlt' : ¬ (j : Int) < (N : Int) := by omega
        have HQ : Hid (R = 0) := by unfold Hid; rw [HT.out, List.drop_eq_nil_of_le (by rw [HN.out]; omega)]; rfl
        go_wp2_with fail
        go_ret
        exact ⟨by rw [HQ.out]; rfl, HB.out⟩
end Go.Proofs.Ytlpjdfgknmfmnaa

/- A range over a function that tells something of what it hands over: a law of our own. -/
namespace Go.Proofs.Ytlpjdfgknmfmnaa
open Go.RowKit

/-- B has what A has in cells, and all that lies below n. -/
structure Kc (n : Nat) (A B : World) : Prop where
  b : Below n A B
  c : ∀ (k : Nat) (cs : Array Value) (t : TypeId) (fr : Nat × Nat), A.heap[k]? = some (Obj.cells cs t fr) → B.heap[k]? = some (Obj.cells cs t fr)
theorem Kc.of_below {n : Nat} {A B : World} (h : Below A.heap.size A B) (hn : n ≤ A.heap.size) : Kc n A B :=
  ⟨h.mono hn, fun k _ _ _ hk => (h.block k (Array.getElem?_eq_some_iff.1 hk).1).trans hk⟩
theorem Kc.put {n : Nat} {A : World} {l : Nat} {o : Obj} (o' : Obj) (h : A.heap[l]? = some o) (ho : o.isCells = false) (hn : n ≤ l) : Kc n A (A.putObj l o') := by
  refine ⟨(Below.refl n A).grown (grownBy_putObj' A l o') (by have := (Array.getElem?_eq_some_iff.1 h).1; omega) (fun k e => by cases e; exact hn), fun k cs t fr hk => ?_⟩
  by_cases e : k = l
  · subst e
    rw [h] at hk
    simp at hk
    subst hk
    simp [Obj.isCells] at ho
  · rw [World.putObj_heap_other e]; exact hk
variable {F : Fence} {n : Nat} {P : Program}
/-- What the function that is ranged over must do: it hands over what meets Pre, one behind the other, and in the end S. -/
def SeqP {α : Type} (F : Fence) (n : Nat) (P : Program) (g : Nat) (lb : Array Value) (encs : α → Array Value) (n₀ : Nat) (Pre : List α → α → World → Prop) (S : List α → Prop) (w : World) : Prop :=
  ∀ (l : Nat) (J : List α → World → Prop) (W : World), Kc n₀ w W → n₀ ≤ W.heap.size → (∀ pre A B, J pre A → Below A.heap.size A B → J pre B) →
    (∀ pre x W1, J pre W1 → Pre pre x W1 → n₀ ≤ W1.heap.size → YieldAt F (n - 1) P l (encs x) W1 fun e W' => e = .returned (.bool true) ∧ J (pre ++ [x]) W' ∧ Below n₀ W1 W') →
    J [] W → CallsIn F n P g (#[.func (.yield l) #[] #[]] ++ lb) W fun e W' => (∃ v, e = .returned v) ∧ ∃ xs, S xs ∧ J xs W'
/-- How a round that goes on ends. -/
def postP {α : Type} (n₀ : Nat) (I : List α → World → Prop) (xs : List α) (W : World) : Exit → Act → World → Prop
  | .normal, _, W' => KeepsOthers W W' ∧ Below n₀ W W' ∧ I xs W'
  | _, _, _ => False
theorem wpIn_range_pre {α : Type} {g : Operand} {ps : Array Tmp} {assign body : Code} {Q : Exit → Act → World → Prop} {a : Act} {w : World}
    (hro : F.round = none) (h1 : 1 ≤ n) {gf : Nat} {lb : Array Value} (hg : a.eval g = .func (.func gf) #[] lb) (hFg : F.fn gf) (eg : ∀ args w, (callFunc gf args).run P w = .ok (.enter gf args) w)
    {encs : α → Array Value} (hps : ∀ x, (encs x).size = ps.size) (I : List α → World → Prop) (Pre : List α → α → World → Prop) (S : List α → Prop)
    (n₀ : Nat) (hn₀ : n₀ ≤ w.heap.size) (hseq : SeqP F (n - 1) P gf lb encs n₀ Pre S w)
    (hI : ∀ pre A B, I pre A → Kc n₀ A B → I pre B) (hP : ∀ pre x A B, Pre pre x A → Kc n₀ A B → Pre pre x B) (h0 : I [] w) (a₁ : α → Act)
    (hassign : ∀ (l : Nat) (x : α) (W : World) (K : Act → World → Prop), K (a₁ x) W →
      assign.wpIn (F.inRound l) (n - 1 - 1) P (Exit.then K (fun _ _ _ => False)) { tmps := (ps.zip (encs x)).foldl (fun t (p, v) => t.setIfInBounds p v) a.tmps, defers := [] } W)
    (hbody : ∀ (l : Nat) (pre : List α) (x : α) (W : World), I pre W → Pre pre x W → n₀ ≤ W.heap.size → body.wpIn (F.inRound l) (n - 1 - 1) P (postP n₀ I (pre ++ [x]) W) (a₁ x) W)
    (hdone : ∀ (D : Nat) (xs : List α) (W : World), w.heap.size ≤ D → S xs → I xs W → W.heap[D]? = some (.deferred (some [])) → Q .normal { a with defers := { target := .collected D, args := #[] } :: a.defers } W) :
    (Code.rangeFunc g ps assign body).wpIn F n P Q a w := by
  refine wpIn_rangeFunc ?_
  intro fn hfn
  rw [hro]
  have hen := run_enterLoop_outer (P := P) (w := w) fn a.tmps ps assign body
  generalize hd : w.heap.size = d at *
  generalize hr0 : ({ state := .ready, pending := none, fn := fn, tmps := a.tmps, params := ps, assign := assign, body := body, defers := d } : Loop) = r0 at *
  have e1 : r0.fn = fn := by rw [← hr0]
  have e2 : r0.params = ps := by rw [← hr0]
  have e3 : r0.state = .ready := by rw [← hr0]
  have e4 : r0.tmps = a.tmps := by rw [← hr0]
  have e5 : r0.assign = assign := by rw [← hr0]
  have e6 : r0.body = body := by rw [← hr0]
  have e7 : r0.pending = none := by rw [← hr0]
  generalize hW : (w.alloc (.deferred (some []))).alloc (.loop r0) = W0 at *
  have hB : Below d w W0 := by
    rw [← hW]
    exact ((Below.refl d w).alloc (by omega) _).alloc (by simp; omega) _
  have hz : W0.heap.size = d + 2 := by rw [← hW]; simp; omega
  have hD0 : W0.heap[d]? = some (.deferred (some [])) := by
    rw [← hW, Below.heap_alloc _ _ _ (by simp; omega), ← hd]; exact World.alloc_heap_new w _
  have hL0 : W0.heap[d + 1]? = some (.loop r0) := by
    have := World.alloc_heap_new (w.alloc (.deferred (some []))) (.loop r0)
    rw [World.size_alloc, hd, hW] at this
    exact this
  refine ⟨d + 1, _, W0, { target := .fn (.func gf) lb, args := #[.func (.yield (d + 1)) #[] #[]] }, W0, gf, #[.func (.yield (d + 1)) #[] #[]] ++ lb, W0, hen, ?_, ?_, ?_, fun _ => h1, ?_⟩
  · simp only [resolve, hg]; simp [go_sem]
  · intro f' hf'; simp [Target.leads] at hf'; subst hf'; exact hFg
  · simp [invoke, go_sem, eg]
  · have hKw : Kc n₀ w W0 := ⟨hB.mono hn₀, fun k _ _ _ hk => (hB.block k (by have := (Array.getElem?_eq_some_iff.1 hk).1; omega)).trans hk⟩
    have hI0 : I [] W0 := hI [] w W0 h0 hKw
    refine (hseq (d + 1) (fun pre W => I pre W ∧ W.heap[d + 1]? = some (.loop r0) ∧ W.heap[d]? = some (.deferred (some [])) ∧ d ≤ W.heap.size) W0 hKw (by omega) ?_ ?_ ⟨hI0, hL0, hD0, by omega⟩).mono ?_
    · rintro pre A B ⟨q1, q2, q3, q4⟩ hb
      have hs := hb.size
      exact ⟨hI pre A B q1 (Kc.of_below hb (by omega)), (hb.block _ (Array.getElem?_eq_some_iff.1 q2).1).trans q2, (hb.block _ (Array.getElem?_eq_some_iff.1 q3).1).trans q3, by omega⟩
    · rintro pre x W ⟨q1, q2, q3, q4⟩ hpx hdw
      have hl := (Array.getElem?_eq_some_iff.1 q2).1
      have hy := run_yield (P := P) (args := encs x) q2 (by rw [e2]; exact hps x)
      rw [e1, e2, e4, e5, e6] at hy
      refine ⟨fn, _, assign, body, hy, roundIn_of_wpIn hfn (hassign _ x W _ ⟨_, run_beginRound q2 e3, ?_⟩)⟩
      have k1 := Kc.put (n := n₀) (.loop { r0 with state := .busy }) q2 rfl (by omega)
      have l1 : (W.putObj (d + 1) (.loop { r0 with state := .busy })).heap[d + 1]? = some (.loop { r0 with state := .busy }) := World.putObj_heap_same hl
      have d1 : (W.putObj (d + 1) (.loop { r0 with state := .busy })).heap[d]? = some (.deferred (some [])) := (World.putObj_heap_other (by omega)).trans q3
      refine wpIn_mono (hbody _ pre x _ (hI _ _ _ q1 k1) (hP _ _ _ _ hpx k1) (by simp; omega)) ?_
      intro e a3 W3 hp
      cases e with
      | normal =>
        obtain ⟨m1, m2, m3⟩ := hp
        have l3 := m1.same _ _ l1 rfl
        have d3 := m1.same _ _ d1 rfl
        have hend := run_endRound (P := P) none l3
        have hl3 := (Array.getElem?_eq_some_iff.1 l3).1
        have e9 : ({ ({ r0 with state := .busy } : Loop) with state := if (none : Option Code).isNone then .ready else .done, pending := none } : Loop) = r0 := by
          rw [← hr0]; rfl
        rw [e9] at hend
        have k3 := Kc.put (n := n₀) (.loop r0) l3 rfl (by omega)
        exact ⟨_, _, hend, rfl, ⟨hI _ _ _ m3 k3, World.putObj_heap_same hl3, (World.putObj_heap_other (by omega)).trans d3, by have := m1.size; simp at this ⊢; omega⟩, (k1.b.trans m2).trans k3.b⟩
      | ret => exact hp.elim
      | exit id => exact hp.elim
      | goto t => exact hp.elim
      | panic ch => exact hp.elim
      | outgrown => exact hp.elim
    · rintro e W2 ⟨⟨v, rfl⟩, xs, hS, q1, q2, q3, q4⟩
      have hend := run_endLoop (P := P) q2 (by rw [e3]; simp)
      rw [e7] at hend
      refine ⟨none, _, hend, ?_⟩
      exact hdone d xs _ (by omega) hS (hI _ _ _ q1 (Kc.put _ q2 rfl (by omega))) ((World.putObj_heap_other (by omega)).trans q3)
end Go.Proofs.Ytlpjdfgknmfmnaa

/- A range over a function whose body may leave early: a law of our own. -/
namespace Go.Proofs.Ytlpjdfgknmfmnaa
open Go.RowKit

variable {F : Fence} {n : Nat} {P : Program}
/-- What the function that is ranged over must do, if rounds may say no more. -/
def SeqX {α : Type} (F : Fence) (n : Nat) (P : Program) (g : Nat) (lb : Array Value) (encs : α → Array Value) (n₀ : Nat) (Pre : List α → α → World → Prop) (S Sp : List α → Prop) (w : World) : Prop :=
  ∀ (l : Nat) (J Jx : List α → World → Prop) (W : World), Kc n₀ w W → n₀ ≤ W.heap.size → (∀ pre A B, J pre A → Below A.heap.size A B → J pre B) → (∀ pre A B, Jx pre A → Below A.heap.size A B → Jx pre B) →
    (∀ pre x W1, J pre W1 → Pre pre x W1 → n₀ ≤ W1.heap.size → YieldAt F (n - 1) P l (encs x) W1 fun e W' => (e = .returned (.bool true) ∧ J (pre ++ [x]) W' ∧ Below n₀ W1 W') ∨ (e = .returned (.bool false) ∧ Jx (pre ++ [x]) W')) →
    J [] W → CallsIn F n P g (#[.func (.yield l) #[] #[]] ++ lb) W fun e W' => (∃ v, e = .returned v) ∧ ((∃ xs, S xs ∧ J xs W') ∨ ∃ xs, Sp xs ∧ Jx xs W')
/-- How a round ends. -/
def postX {α : Type} (n₀ : Nat) (I : List α → World → Prop) (Ix : Code → List α → World → Prop) (xs : List α) (W : World) : Exit → Act → World → Prop
  | .normal, _, W' => KeepsOthers W W' ∧ Below n₀ W W' ∧ I xs W'
  | .ret, _, W' => KeepsOthers W W' ∧ Ix .ret xs W'
  | .exit id, _, W' => KeepsOthers W W' ∧ Ix (.exit id) xs W'
  | _, _, _ => False
theorem wpIn_range_x {α : Type} {g : Operand} {ps : Array Tmp} {assign body : Code} {Q : Exit → Act → World → Prop} {a : Act} {w : World}
    (hro : F.round = none) (h1 : 1 ≤ n) {gf : Nat} {lb : Array Value} (hg : a.eval g = .func (.func gf) #[] lb) (hFg : F.fn gf) (eg : ∀ args w, (callFunc gf args).run P w = .ok (.enter gf args) w)
    {encs : α → Array Value} (hps : ∀ x, (encs x).size = ps.size) (I : List α → World → Prop) (Ix : Code → List α → World → Prop) (Pre : List α → α → World → Prop) (S Sp : List α → Prop)
    (n₀ : Nat) (hn₀ : n₀ ≤ w.heap.size) (hseq : SeqX F (n - 1) P gf lb encs n₀ Pre S Sp w)
    (hI : ∀ pre A B, I pre A → Kc n₀ A B → I pre B) (hIx : ∀ c pre A B, Ix c pre A → Kc n₀ A B → Ix c pre B) (hP : ∀ pre x A B, Pre pre x A → Kc n₀ A B → Pre pre x B) (h0 : I [] w) (a₁ : α → Act)
    (hassign : ∀ (l : Nat) (x : α) (W : World) (K : Act → World → Prop), K (a₁ x) W →
      assign.wpIn (F.inRound l) (n - 1 - 1) P (Exit.then K (fun _ _ _ => False)) { tmps := (ps.zip (encs x)).foldl (fun t (p, v) => t.setIfInBounds p v) a.tmps, defers := [] } W)
    (hbody : ∀ (l : Nat) (pre : List α) (x : α) (W : World), I pre W → Pre pre x W → n₀ ≤ W.heap.size → body.wpIn (F.inRound l) (n - 1 - 1) P (postX n₀ I Ix (pre ++ [x]) W) (a₁ x) W)
    (hdone : ∀ (D : Nat) (xs : List α) (W : World), w.heap.size ≤ D → S xs → I xs W → W.heap[D]? = some (.deferred (some [])) → Q .normal { a with defers := { target := .collected D, args := #[] } :: a.defers } W)
    (hleft : ∀ (D : Nat) (xs : List α) (c : Code) (W : World), w.heap.size ≤ D → Sp xs → Ix c xs W → W.heap[D]? = some (.deferred (some [])) → c.wpIn F n P Q { a with defers := { target := .collected D, args := #[] } :: a.defers } W) :
    (Code.rangeFunc g ps assign body).wpIn F n P Q a w := by
  refine wpIn_rangeFunc ?_
  intro fn hfn
  rw [hro]
  have hen := run_enterLoop_outer (P := P) (w := w) fn a.tmps ps assign body
  generalize hd : w.heap.size = d at *
  generalize hr0 : ({ state := .ready, pending := none, fn := fn, tmps := a.tmps, params := ps, assign := assign, body := body, defers := d } : Loop) = r0 at *
  have e1 : r0.fn = fn := by rw [← hr0]
  have e2 : r0.params = ps := by rw [← hr0]
  have e3 : r0.state = .ready := by rw [← hr0]
  have e4 : r0.tmps = a.tmps := by rw [← hr0]
  have e5 : r0.assign = assign := by rw [← hr0]
  have e6 : r0.body = body := by rw [← hr0]
  have e7 : r0.pending = none := by rw [← hr0]
  generalize hW : (w.alloc (.deferred (some []))).alloc (.loop r0) = W0 at *
  have hB : Below d w W0 := by
    rw [← hW]
    exact ((Below.refl d w).alloc (by omega) _).alloc (by simp; omega) _
  have hz : W0.heap.size = d + 2 := by rw [← hW]; simp; omega
  have hD0 : W0.heap[d]? = some (.deferred (some [])) := by
    rw [← hW, Below.heap_alloc _ _ _ (by simp; omega), ← hd]; exact World.alloc_heap_new w _
  have hL0 : W0.heap[d + 1]? = some (.loop r0) := by
    have := World.alloc_heap_new (w.alloc (.deferred (some []))) (.loop r0)
    rw [World.size_alloc, hd, hW] at this
    exact this
  refine ⟨d + 1, _, W0, { target := .fn (.func gf) lb, args := #[.func (.yield (d + 1)) #[] #[]] }, W0, gf, #[.func (.yield (d + 1)) #[] #[]] ++ lb, W0, hen, ?_, ?_, ?_, fun _ => h1, ?_⟩
  · simp only [resolve, hg]; simp [go_sem]
  · intro f' hf'; simp [Target.leads] at hf'; subst hf'; exact hFg
  · simp [invoke, go_sem, eg]
  · have hKw : Kc n₀ w W0 := ⟨hB.mono hn₀, fun k _ _ _ hk => (hB.block k (by have := (Array.getElem?_eq_some_iff.1 hk).1; omega)).trans hk⟩
    have hI0 : I [] W0 := hI [] w W0 h0 hKw
    refine (hseq (d + 1) (fun pre W => I pre W ∧ W.heap[d + 1]? = some (.loop r0) ∧ W.heap[d]? = some (.deferred (some [])) ∧ d ≤ W.heap.size)
      (fun pre W => ∃ c, Ix c pre W ∧ W.heap[d + 1]? = some (.loop { r0 with state := .done, pending := some c }) ∧ W.heap[d]? = some (.deferred (some [])) ∧ d ≤ W.heap.size) W0 hKw (by omega) ?_ ?_ ?_ ⟨hI0, hL0, hD0, by omega⟩).mono ?_
    · rintro pre A B ⟨q1, q2, q3, q4⟩ hb
      have hs := hb.size
      exact ⟨hI pre A B q1 (Kc.of_below hb (by omega)), (hb.block _ (Array.getElem?_eq_some_iff.1 q2).1).trans q2, (hb.block _ (Array.getElem?_eq_some_iff.1 q3).1).trans q3, by omega⟩
    · rintro pre A B ⟨c, q1, q2, q3, q4⟩ hb
      have hs := hb.size
      exact ⟨c, hIx c pre A B q1 (Kc.of_below hb (by omega)), (hb.block _ (Array.getElem?_eq_some_iff.1 q2).1).trans q2, (hb.block _ (Array.getElem?_eq_some_iff.1 q3).1).trans q3, by omega⟩
    · rintro pre x W ⟨q1, q2, q3, q4⟩ hpx hdw
      have hl := (Array.getElem?_eq_some_iff.1 q2).1
      have hy := run_yield (P := P) (args := encs x) q2 (by rw [e2]; exact hps x)
      rw [e1, e2, e4, e5, e6] at hy
      refine ⟨fn, _, assign, body, hy, roundIn_of_wpIn hfn (hassign _ x W _ ⟨_, run_beginRound q2 e3, ?_⟩)⟩
      have k1 := Kc.put (n := n₀) (.loop { r0 with state := .busy }) q2 rfl (by omega)
      have l1 : (W.putObj (d + 1) (.loop { r0 with state := .busy })).heap[d + 1]? = some (.loop { r0 with state := .busy }) := World.putObj_heap_same hl
      have d1 : (W.putObj (d + 1) (.loop { r0 with state := .busy })).heap[d]? = some (.deferred (some [])) := (World.putObj_heap_other (by omega)).trans q3
      refine wpIn_mono (hbody _ pre x _ (hI _ _ _ q1 k1) (hP _ _ _ _ hpx k1) (by simp; omega)) ?_
      have left : ∀ (c : Code) (W3 : World), KeepsOthers (W.putObj (d + 1) (.loop { r0 with state := .busy })) W3 → Ix c (pre ++ [x]) W3 →
          ∃ w', (Instr.endRound (d + 1) (some c)).run P W3 = .ok (.bool false) w' ∧ ∃ c, Ix c (pre ++ [x]) w' ∧ w'.heap[d + 1]? = some (.loop { r0 with state := .done, pending := some c }) ∧ w'.heap[d]? = some (.deferred (some [])) ∧ d ≤ w'.heap.size := by
        intro c W3 m1 m3
        have l3 := m1.same _ _ l1 rfl
        have d3 := m1.same _ _ d1 rfl
        have hend := run_endRound (P := P) (some c) l3
        have hl3 := (Array.getElem?_eq_some_iff.1 l3).1
        have k3 := Kc.put (n := n₀) (.loop { r0 with state := .done, pending := some c }) l3 rfl (by omega)
        exact ⟨_, hend, c, hIx _ _ _ _ m3 k3, World.putObj_heap_same hl3, (World.putObj_heap_other (by omega)).trans d3, by have := m1.size; simp at this ⊢; omega⟩
      intro e a3 W3 hp
      cases e with
      | normal =>
        obtain ⟨m1, m2, m3⟩ := hp
        have l3 := m1.same _ _ l1 rfl
        have d3 := m1.same _ _ d1 rfl
        have hend := run_endRound (P := P) none l3
        have hl3 := (Array.getElem?_eq_some_iff.1 l3).1
        have e9 : ({ ({ r0 with state := .busy } : Loop) with state := if (none : Option Code).isNone then .ready else .done, pending := none } : Loop) = r0 := by
          rw [← hr0]; rfl
        rw [e9] at hend
        have k3 := Kc.put (n := n₀) (.loop r0) l3 rfl (by omega)
        exact ⟨_, _, hend, .inl ⟨rfl, ⟨hI _ _ _ m3 k3, World.putObj_heap_same hl3, (World.putObj_heap_other (by omega)).trans d3, by have := m1.size; simp at this ⊢; omega⟩, (k1.b.trans m2).trans k3.b⟩⟩
      | ret =>
        obtain ⟨w', g1, g2⟩ := left _ _ hp.1 hp.2
        exact ⟨_, w', g1, .inr ⟨rfl, g2⟩⟩
      | exit id =>
        obtain ⟨w', g1, g2⟩ := left _ _ hp.1 hp.2
        exact ⟨_, w', g1, .inr ⟨rfl, g2⟩⟩
      | goto t => exact hp.elim
      | panic ch => exact hp.elim
      | outgrown => exact hp.elim
    · rintro e W2 ⟨⟨v, rfl⟩, ⟨xs, hS, q1, q2, q3, q4⟩ | ⟨xs, hS, c, q1, q2, q3, q4⟩⟩
      · have hend := run_endLoop (P := P) q2 (by rw [e3]; simp)
        rw [e7] at hend
        refine ⟨none, _, hend, ?_⟩
        exact hdone d xs _ (by omega) hS (hI _ _ _ q1 (Kc.put _ q2 rfl (by omega))) ((World.putObj_heap_other (by omega)).trans q3)
      · have hend := run_endLoop (P := P) q2 (by simp)
        refine ⟨some c, _, hend, ?_⟩
        exact hleft d xs c _ (by omega) hS (hIx _ _ _ _ q1 (Kc.put _ q2 rfl (by omega))) ((World.putObj_heap_other (by omega)).trans q3)
end Go.Proofs.Ytlpjdfgknmfmnaa

/- The sum's mathematics: the register as a natural number, of any length. -/
namespace Go.Proofs.Ytlpjdfgknmfmnaa

/-- One digit leaves the register. -/
def stp (c : Nat) : Nat := if c % 2 = 1 then (c / 2) ^^^ 2197175160 else c / 2
/-- So many digits leave it. -/
def stps : Nat → Nat → Nat
  | 0, c => c
  | n + 1, c => stps n (stp c)
/-- The register behind a byte. -/
def byt (c : Nat) (x : UInt8) : Nat := stps 8 (c ^^^ x.toNat)
/-- The register behind bytes. -/
def reg (c : Nat) : List UInt8 → Nat
  | [] => c
  | x :: l => reg (byt c x) l
theorem reg_nil (c : Nat) : reg c [] = c := rfl
/-- The sum of what goes on. -/
def mor (s : Nat) (l : List UInt8) : Nat := 4294967295 - reg (4294967295 - s) l
/-- The value of bytes, the least one first. -/
def vle : List UInt8 → Nat
  | [] => 0
  | x :: l => x.toNat + 256 * vle l
/-- A number as four bytes, the least one first. -/
def four (n : Nat) : List UInt8 := [UInt8.ofNat n, UInt8.ofNat (n / 256), UInt8.ofNat (n / 65536), UInt8.ofNat (n / 16777216)]

theorem xor_lt32 {a b : Nat} (ha : a < 4294967296) (hb : b < 4294967296) : a ^^^ b < 4294967296 := Nat.xor_lt_two_pow (n := 32) ha hb
theorem stp_lt {c : Nat} (h : c < 4294967296) : stp c < 4294967296 := by
  unfold stp; split
  · exact xor_lt32 (by omega) (by omega)
  · omega
theorem stps_lt (n : Nat) : ∀ {c : Nat}, c < 4294967296 → stps n c < 4294967296 := by
  induction n with
  | zero => intro c h; exact h
  | succ n ih => intro c h; exact ih (stp_lt h)
theorem byt_lt {c : Nat} {x : UInt8} (h : c < 4294967296) : byt c x < 4294967296 := stps_lt 8 (xor_lt32 h (by have := x.toNat_lt; omega))
theorem reg_lt (l : List UInt8) : ∀ {c : Nat}, c < 4294967296 → reg c l < 4294967296 := by
  induction l with
  | nil => intro c h; exact h
  | cons x l ih => intro c h; exact ih (byt_lt h)
theorem stps_add (m n : Nat) : ∀ c, stps (m + n) c = stps n (stps m c) := by
  induction m with
  | zero => intro c; simp [stps]
  | succ m ih => intro c; rw [Nat.succ_add]; exact ih (stp c)
theorem stps_snoc (n : Nat) (c : Nat) : stps (n + 1) c = stp (stps n c) := by rw [stps_add]; rfl
theorem reg_append (a b : List UInt8) : ∀ c, reg c (a ++ b) = reg (reg c a) b := by
  induction a with
  | nil => intro c; rfl
  | cons x a ih => intro c; exact ih (byt c x)
theorem reg_snoc (a : List UInt8) (x : UInt8) (c : Nat) : reg c (a ++ [x]) = byt (reg c a) x := by rw [reg_append]; rfl
theorem mor_lt (s : Nat) (l : List UInt8) : mor s l < 4294967296 := by unfold mor; omega
theorem mor_append {s : Nat} (a b : List UInt8) : mor s (a ++ b) = mor (mor s a) b := by
  unfold mor
  rw [reg_append]
  have := reg_lt a (c := 4294967295 - s) (by omega)
  congr 1
  have e : 4294967295 - (4294967295 - reg (4294967295 - s) a) = reg (4294967295 - s) a := by omega
  rw [e]
theorem mor_nil {s : Nat} (h : s < 4294967296) : mor s [] = s := by unfold mor; rw [reg_nil]; omega

/-- The digits turned. -/
theorem not32 {a : Nat} (h : a < 4294967296) : 4294967295 - a = 4294967295 ^^^ a := by
  have e : (BitVec.allOnes 32 ^^^ BitVec.ofNat 32 a).toNat = (~~~ BitVec.ofNat 32 a).toNat := by rw [BitVec.allOnes_xor]
  rw [BitVec.toNat_xor, BitVec.toNat_not, BitVec.toNat_allOnes, BitVec.toNat_ofNat, Nat.mod_eq_of_lt (by omega)] at e
  simpa using e.symm
end Go.Proofs.Ytlpjdfgknmfmnaa
