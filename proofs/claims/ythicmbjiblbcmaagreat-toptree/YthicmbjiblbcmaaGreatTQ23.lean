/- RI MG15 MG16 MG18 MO1, joined. -/
import Derived.Test.YthicmbjiblbcmaaGreatTQ7
import Derived.Test.YthicmbjiblbcmaaGreatTQ12
import Derived.Test.YthicmbjiblbcmaaGreatTQ13
import Derived.Test.YthicmbjiblbcmaaGreatTQ22
import Derived.Lib.SmallJoins
import Derived.BigQuiet
import Derived.Deep.QuietTactic
import Derived.Deep.MidRow
/- A drawn region by what each of its operations yields, in whatever order they come: one goal for each operation. -/
namespace Go.Proofs.YthicmbjiblbcmaaGreat
open Go.RowKit

/-- A frame with open slots. -/
def tmOf (D : List Nat) (f : Nat → Value) : Nat → List Value → List Value
  | _, [] => []
  | k, x :: xs => cond (D.contains k) (f k) x :: tmOf D f (k + 1) xs
def frF (D : List Nat) (a0 : Act) (f : Nat → Value) : Act := ⟨(tmOf D f 0 a0.tmps.toList).toArray, a0.defers⟩
/-- Where an operation's value lies. -/
def dstO (o : Oper) (j : Nat) : Nat := match o.dst with | some d => d | none => 1000 + j
def dstN (ops : Array Oper) (j : Nat) : Nat := match ops[j]? with | some o => dstO o j | none => 0
/-- What it waits for. -/
def depsO (md : Region.Mode) (o : Oper) : List Nat := (o.after.toList.filter fun e => Region.binds md e).map (·.on)
section
variable {P : Program} {ops : Array Oper} {Q : Exit → Act → World → Prop} (D : List Nat) (a0 : Act) (w0 : World) (R : World → World → Prop) (V : Nat → Value → World → Prop)
/-- Each of these operations, once, wherever it comes. -/
def AllSt (P : Program) (ops : Array Oper) (Q : Exit → Act → World → Prop) (is : List Nat) : Prop :=
  ∀ i ∈ is, ∀ o, ops[i]? = some o → ∀ f w, Below w0.heap.size w0 w → (∀ j ∈ depsO .any o, V j (f (dstN ops j)) w) →
    wpOp P ops Q i (fun a' w' => ∃ v, a' = (frF D a0 f).put o.dst v ∧ Below w0.heap.size w w' ∧ R w w' ∧ V i v w') (frF D a0 f) w
variable {D a0 w0 R V}
theorem AllSt.nil : AllSt D a0 w0 R V P ops Q [] := fun i h => by cases h
theorem AllSt.cons {i : Nat} {o : Oper} {ds : List Nat} {is : List Nat} (ho : ops[i]? = some o) (hds : depsO .any o = ds)
    (h : ∀ (f : Nat → Value) (w : World) (K : Act → World → Prop), Hid (Below w0.heap.size w0 w) → (∀ j ∈ ds, V j (f (dstN ops j)) w) →
      Shut (∀ v w', Below w0.heap.size w w' → R w w' → V i v w' → K ((frF D a0 f).put o.dst v) w') →
      if Region.wanted o (yielded ops (frF D a0 f).tmps) = true then Oper.wp P o (frF D a0 f) w K Q else K ((frF D a0 f).put o.dst undef) w)
    (hs : AllSt D a0 w0 R V P ops Q is) : AllSt D a0 w0 R V P ops Q (i :: is) := fun j hj o' ho' f w hB hd => by
  rcases List.mem_cons.1 hj with rfl | hj
  · rw [ho] at ho'
    obtain rfl : o = o' := by simpa using ho'
    exact wpOp_step ho (fun K' hK => h f w K' hB (hds ▸ hd) (fun v w' h1 h2 h3 => hK _ _ ⟨v, rfl, h1, h2, h3⟩))
  · exact hs j hj o' ho' f w hB hd
end
end Go.Proofs.YthicmbjiblbcmaaGreat

/- What the fixed calls of layer 14's 'alive' come to. -/
namespace Go.Proofs.YthicmbjiblbcmaaGreat
open Go.RowKit Go.Joins

/-- What is kept from one operation of a region to the next. -/
structure Rm (w w' : World) : Prop where
  s : w.heap.size ≤ w'.heap.size
  c : ∀ a v, w.cell? a = some v → w'.cell? a = some v
  h : ∀ g s, w.shape? g = some s → w'.shape? g = some s
theorem Rm.of_below {w w' : World} (h : Below w.heap.size w w') : Rm w w' := ⟨h.size, fun _ _ q => (h.cell (cell_block q).1).trans q, fun g s q => by
  have hl : g < w.heap.size := by
    rcases Nat.lt_or_ge g w.heap.size with h' | h'
    · exact h'
    · unfold World.shape? at q; rw [Array.getElem?_eq_none h'] at q; cases q
  unfold World.shape? at q ⊢
  rw [h.block g hl]; exact q⟩
end Go.Proofs.YthicmbjiblbcmaaGreat

/- The contract of Great. -/
namespace Go.Proofs.YthicmbjiblbcmaaGreat
open Go.RowKit

theorem eReads_key {w : World} {a : Option Addr} {n cap : Nat} {L : List En} (h : EReads w (.slice a n cap) L) {k : Nat} (hk : k < L.length) : ∃ b off sa sc, a = some ⟨b, off, none⟩ ∧ w.cell? ⟨b, off + k * 7, none⟩ = some (.slice sa L[k].1.length sc) := by
  obtain ⟨b, off, cap', hv, _⟩ := eReads_some h (by omega)
  simp at hv
  obtain ⟨rfl, rfl, rfl⟩ := hv
  obtain ⟨kv, hc, hr, _⟩ := eReads_at h hk rfl
  obtain ⟨sa, sc, rfl, _⟩ := hr.form
  exact ⟨b, off, sa, sc, rfl, hc 0 (by decide)⟩
end Go.Proofs.YthicmbjiblbcmaaGreat

/- The contract of the reference's Same, where both lists hold the same. -/
namespace Go.Proofs.YthicmbjiblbcmaaGreat
open Go.RowKit

/-- A slice reads these entries (nothing is told of their counts). -/
def ERd (w : World) (v : Value) (L : List En) : Prop :=
  ∃ a cap, v = .slice a L.length cap ∧ L.length ≤ cap ∧ cap ≤ maxLen ∧ (L = [] ∨ ∃ b off, a = some ⟨b, off, none⟩ ∧ b < w.heap.size ∧ ∀ j (hj : j < L.length), ∃ kv, (∀ i (hi : i < 7), w.cell? ⟨b, off + j * 7 + i, none⟩ = some ((c7 ⟨kv, L[j].1, L[j].2⟩)[i]'hi)) ∧ Reads w kv L[j].1)
theorem ERd.below {w w' : World} {v : Value} {L : List En} (h : ERd w v L) (hb : Below w.heap.size w w') : ERd w' v L := by
  obtain ⟨a, cap, rfl, h1, h2, h3⟩ := h
  refine ⟨a, cap, rfl, h1, h2, ?_⟩
  rcases h3 with h3 | ⟨b, off, h4, h5, h6⟩
  · exact .inl h3
  · refine .inr ⟨b, off, h4, Nat.lt_of_lt_of_le h5 hb.size, fun j hj => ?_⟩
    obtain ⟨kv, g1, g2⟩ := h6 j hj
    exact ⟨kv, fun i hi => (hb.cell (p := ⟨b, off + j * 7 + i, none⟩) h5).trans (g1 i hi), g2.below hb⟩
theorem EReads.rd {w : World} {v : Value} {L : List En} (h : EReads w v L) : ERd w v L := by
  obtain ⟨a, cap, rfl, h1, h2, h3⟩ := h
  refine ⟨a, cap, rfl, h1, h2, ?_⟩
  rcases h3 with h3 | ⟨b, off, h4, h5, h6⟩
  · exact .inl h3
  · refine .inr ⟨b, off, h4, h5, fun j hj => ?_⟩
    obtain ⟨kv, g1, g2, g3⟩ := h6 j hj
    exact ⟨kv, fun i hi => by rw [show off + j * 7 + i = off + (7 * j + i) by omega]; exact g1 i hi, g2⟩
theorem EOwn.rd {w : World} {base : Nat} {v : Value} {xs : List Ev} (h : EOwn w base v xs) : ERd w v (xs.map evE) := by
  obtain ⟨a, cap, rfl, h1, h2, h3⟩ := h.at
  refine ⟨a, cap, by simp, by simpa using h1, h2, ?_⟩
  rcases Nat.eq_zero_or_pos xs.length with h0 | h0
  · exact .inl (by rw [List.length_eq_zero_iff.1 h0]; rfl)
  · obtain ⟨g, rfl, _, h5, h6⟩ := h3 h0
    refine .inr ⟨g, 0, rfl, h5, fun j hj => ?_⟩
    simp at hj
    have e : (xs.map evE)[j]'(by simpa using hj) = evE xs[j] := by simp
    rw [e]
    refine ⟨xs[j].kv, fun i hi => ?_, (h.2 _ (List.getElem_mem hj)).reads⟩
    rw [show 0 + j * 7 + i = 7 * j + i by omega]
    exact (h6 j hj i hi).1
set_option maxRecDepth 100000 in
set_option maxHeartbeats 2000000 in
theorem same_true (va vb : Value) (L : List En) (w : World) (hA : ERd w va L) (hB : ERd w vb L) :
    Calls Tryz.prog 10 #[va, vb] w fun e w' => e = .returned (.bool true) ∧ Below w.heap.size w w' := by
  obtain ⟨a, ca, rfl, hca, hma, hA3⟩ := hA
  obtain ⟨b, cb, rfl, hcb, hmb, hB3⟩ := hB
  unfold maxLen at hma hmb
  have HA3 : Hid _ := hA3
  have HB3 : Hid _ := hB3
  clear hA3 hB3
  go_enter Tryz.func10, Tryz.ntmps10
  go_wp2_with fail
  go_loopw [5] (fun i wr => ∃ k : Nat, k ≤ L.length ∧ i = .int .i64 (k : Int) ∧ Hid (Below w.heap.size w wr)) (fun i _ => L.length - (intOf i).toNat)
  case atStart => exact ⟨0, by omega, rfl, Below.refl _ _⟩
  case round =>
    obtain ⟨k, hk, rfl, HW⟩ := hrel
    by_cases hlt : k < L.length
    · obtain ⟨bA, oA, rfl, hbA, hA⟩ := HA3.out.resolve_left (fun h => by rw [h] at hlt; simp at hlt)
      obtain ⟨bB, oB, rfl, hbB, hB⟩ := HB3.out.resolve_left (fun h => by rw [h] at hlt; simp at hlt)
      obtain ⟨kv, hc, hR⟩ := hA k hlt
      obtain ⟨kv', hc', hR'⟩ := hB k hlt
      obtain ⟨X, HX⟩ := hid_ex L[k]
      rw [← HX.out] at hR hR' hc hc'
      have hq : ∀ i (hi : i < 7), wr.cell? ⟨bA, oA + k * 7 + i, none⟩ = some ((c7 ⟨kv, X.1, X.2⟩)[i]'hi) := fun i hi => (HW.out.cell (p := ⟨bA, _, none⟩) hbA).trans (hc i hi)
      have hq' : ∀ i (hi : i < 7), wr.cell? ⟨bB, oB + k * 7 + i, none⟩ = some ((c7 ⟨kv', X.1, X.2⟩)[i]'hi) := fun i hi => (HW.out.cell (p := ⟨bB, _, none⟩) hbB).trans (hc' i hi)
      obtain ⟨ak, ck, rfl, _⟩ := hR.form
      obtain ⟨al, cl, rfl, _⟩ := hR'.form
      have c0 := hq 0 (by decide)
      have c1 := hq (1 + 0) (by decide)
      have c2 := hq (1 + 1) (by decide)
      have c3 := hq (1 + 2) (by decide)
      have c4 := hq (1 + 3) (by decide)
      have c5 := hq (1 + 4) (by decide)
      have c6 := hq (1 + 5) (by decide)
      have d0 := hq' 0 (by decide)
      have d1 := hq' (1 + 0) (by decide)
      have d2 := hq' (1 + 1) (by decide)
      have d3 := hq' (1 + 2) (by decide)
      have d4 := hq' (1 + 3) (by decide)
      have d5 := hq' (1 + 4) (by decide)
      have d6 := hq' (1 + 5) (by decide)
      simp only [c7, List.getElem_cons_zero, List.getElem_cons_succ, Nat.add_zero, Nat.reduceAdd] at c0 c1 c2 c3 c4 c5 c6 d0 d1 d2 d3 d4 d5 d6
      have hq1 : ∀ n, (convert 49 9 (.slice ak X.1.length ck)).run Tryz.prog (wr.drewN n) = .ok (.string ⟨X.1.toArray⟩) (wr.drewN n) := fun n => reads_text (hR.below (below_drewN HW.out n))
      have hq2 : ∀ n, (convert 49 9 (.slice al X.1.length cl)).run Tryz.prog (wr.drewN n) = .ok (.string ⟨X.1.toArray⟩) (wr.drewN n) := fun n => reads_text (hR'.below (below_drewN HW.out n))
      clear hq hq' hc hc'
      go_wp2_with fail
      go_quiet (fail)
      have HW2 : Hid (Below w.heap.size w (wr.drewN nq)) := below_drewN HW.out nq
      clear hq1 hq2
      go_wp2_with fail
      go_roundw
      case rel => exact ⟨k + 1, by omega, by go_num, HW2⟩
      case measure => simp [intOf]; omega
    · go_wp2_with fail
      go_ret
      exact ⟨rfl, HW.out⟩
end Go.Proofs.YthicmbjiblbcmaaGreat

/- Rows of rows: those that a slice reads, with numbers in their reach; a row of slices of one's own; parts of rows. -/
namespace Go.Proofs.YthicmbjiblbcmaaGreat
open Go.RowKit Go.Joins

/-- A row of slices of one's own, and what they read. -/
def GOwnO (w0 w : World) (base : Nat) (v : Value) (Ls : List (List En)) : Prop := ∃ vs : List Value, w.ownsRow base 31 1 v Ls.length vs ∧ ∃ h : vs.length = Ls.length, ∀ j (hj : j < Ls.length), EReads w0 (vs[j]'(by omega)) Ls[j]
theorem GOwnO.nil (w0 w : World) (base : Nat) : GOwnO w0 w base (.slice none 0 0) [] := ⟨[], World.ownsRow_nil _ _ _ _, rfl, fun j hj => by simp at hj⟩
theorem GOwnO.form {w0 w : World} {base : Nat} {v : Value} {Ls : List (List En)} (h : GOwnO w0 w base v Ls) : ∃ a c, v = .slice a Ls.length c := by
  obtain ⟨vs, h1, _⟩ := h
  rcases h1.2 with ⟨h1, h2⟩ | ⟨g, cap, cur, hv, _⟩
  · exact ⟨none, 0, by rw [h1, h2]⟩
  · exact ⟨_, cap, hv⟩
theorem GOwnO.reads {w0 w : World} {base : Nat} {v : Value} {Ls : List (List En)} (h : GOwnO w0 w base v Ls) (hb : Below w0.heap.size w0 w) : RReads w v Ls := by
  obtain ⟨vs, h1, h2, h3⟩ := h
  have hlt := World.ownsRow.lt h1
  have h10 := h1
  rcases h1.2 with ⟨e1, e2⟩ | ⟨g, cap, cur, hv, hg, hw, hc, hm, _⟩
  · rw [e1]
    have : Ls = [] := List.length_eq_zero_iff.1 e2
    subst this
    exact ⟨none, 0, rfl, by simp, by simp, .inl rfl⟩
  · rw [hv] at h10
    refine ⟨_, cap, hv, hc, hm, ?_⟩
    rcases Nat.eq_zero_or_pos Ls.length with h0 | h0
    · exact .inl (List.length_eq_zero_iff.1 h0)
    · refine .inr ⟨g, 0, rfl, (hlt g (by rw [hv]; rfl)).2, fun j hj => ⟨vs[j]'(by omega), ?_, (h3 j hj).below hb⟩⟩
      rw [Nat.zero_add, World.ownsRow.cellAt h10 j (by omega), List.getElem?_eq_getElem (by omega)]
/-- One more. -/
theorem GOwnO.snoc {w0 w : World} {base : Nat} {v : Value} {Ls : List (List En)} {e : Value} {L : List En} {M : List (List En)} (hM : M = Ls ++ [L]) (vs : List Value) (h : w.ownsRow base 31 1 v (Ls.length + 1) (vs ++ [e])) (h2 : vs.length = Ls.length) (h3 : ∀ j (hj : j < Ls.length), EReads w0 (vs[j]'(by omega)) Ls[j]) (he : EReads w0 e L) : GOwnO w0 w base v M := by
  subst hM
  refine ⟨vs ++ [e], by simpa using h, by simp [h2], fun j hj => ?_⟩
  rcases Nat.lt_or_ge j Ls.length with hlt | hge
  · rw [List.getElem_append_left (by omega), List.getElem_append_left hlt]; exact h3 j hlt
  · have : j = Ls.length := by simp at hj; omega
    subst this
    rw [List.getElem_append_right (by omega), List.getElem_append_right (by omega)]
    simp [h2]; exact he
theorem RReads.sliced {w : World} {a : Option Addr} {cap : Nat} {L : List (List En)} (h : RReads w (.slice a L.length cap) L) {c d : Nat} (hc : c ≤ d) (hd : d ≤ L.length) : RReads w (Go.sliced a c d cap 1) ((L.take d).drop c) := by
  obtain ⟨a', cap', hv, h1, h2, h3⟩ := h
  simp at hv
  obtain ⟨rfl, rfl⟩ := hv
  unfold Go.sliced
  have hl : ((L.take d).drop c).length = d - c := by simp; omega
  refine ⟨_, cap - c, by rw [hl], by omega, by omega, ?_⟩
  rcases Nat.eq_zero_or_pos (d - c) with h0 | h0
  · exact .inl (List.length_eq_zero_iff.1 (by omega))
  · rcases h3 with rfl | ⟨b, off, rfl, h5, h6⟩
    · simp at hd; omega
    · rw [if_neg (by omega)]
      refine .inr ⟨b, off + c, by simp [Addr.add], h5, fun j hj => ?_⟩
      obtain ⟨ev, g1, g2⟩ := h6 (c + j) (by omega)
      refine ⟨ev, by rw [Nat.add_assoc]; exact g1, ?_⟩
      have e : ((L.take d).drop c)[j]'hj = L[c + j]'(by omega) := by simp
      rw [e]; exact g2
/-- All of rows that are rows. -/
theorem all_ok (v : Value) (rs : List (List En)) (w : World) (hR : RReads w v rs) (hl1 : rs.length ≤ 10000) (hl2 : ∀ r ∈ rs, r.length ≤ 100000) (hl3 : ∀ r ∈ rs, ∀ x ∈ r, x.1.length ≤ 100000) (hz : rowsF rs = 0) (A : List En) (hA : A = allF rs) :
    Calls Tryz.prog 14 #[v] w fun e w' => ∃ a cap, e = .returned (.tuple #[.slice a A.length cap, .int .i64 0]) ∧ EReads w' (.slice a A.length cap) A ∧ Below w.heap.size w w' := by
  subst hA
  refine (all_some v rs w hR hl1 hl2 hl3).mono ?_
  rintro e w2 ⟨hb2, ⟨hne, rfl⟩ | ⟨_, l, xs, rfl, ho, hm, hc⟩⟩
  · exact absurd hz hne
  · have h9 := ho.reads hc
    rw [hm] at h9
    obtain ⟨a, cap, rfl, _⟩ := h9.form
    exact ⟨a, cap, rfl, h9, hb2⟩
end Go.Proofs.YthicmbjiblbcmaaGreat
