/- FCt ML1 S1 ML2 ML3, joined. -/
import Derived.Test.YtilbffgpniomcaaGreatDoorLD1
import Derived.Test.YtilbffgpniomcaaGreatDoorLD5
import Derived.Test.YtilbffgpniomcaaGreatDoorLD14
import Derived.Test.YtilbffgpniomcaaGreatDoorLD15
import Derived.Test.YtilbffgpniomcaaGreatDoorLD17
import Derived.Lib.Bytealg
import Derived.Laws.Externs
import Derived.Shelf.Abstract
/- Frames one behind the other, cut anywhere: the pure half of F6, for seats that have no list of slices. -/
namespace Go.Proofs.YtilbffgpniomcaaGreatDoor
open Go.RowKit

def cat : List (List UInt8) → List UInt8
  | [] => []
  | l :: L => frm l ++ cat L
def en (L : List (List UInt8)) (k : Nat) : Nat := (cat (L.take k)).length
def pr (l : List UInt8) : List UInt8 × Nat := (l, l.length + 8)
theorem en_zero (L : List (List UInt8)) : en L 0 = 0 := rfl
theorem en_cons (l : List UInt8) (L : List (List UInt8)) (k : Nat) : en (l :: L) (k + 1) = l.length + 8 + en L k := by
  unfold en; rw [List.take_succ_cons, cat, List.length_append, frm_len]
theorem cat_append (A B : List (List UInt8)) : cat (A ++ B) = cat A ++ cat B := by
  induction A with
  | nil => rfl
  | cons a A ih => rw [List.cons_append, cat, cat, ih, List.append_assoc]
theorem cat_snoc (L : List (List UInt8)) (k : Nat) (h : k < L.length) : cat (L.take (k + 1)) = cat (L.take k) ++ frm L[k] := by
  rw [List.take_add_one, List.getElem?_eq_getElem h, cat_append]
  simp [cat]
theorem en_snoc (L : List (List UInt8)) (k : Nat) (h : k < L.length) : en L (k + 1) = en L k + (L[k].length + 8) := by
  unfold en; rw [cat_snoc L k h, List.length_append, frm_len]
theorem en_ge (L : List (List UInt8)) : ∀ k, k ≤ L.length → 8 * k ≤ en L k := by
  intro k
  induction k with
  | zero => intro _; simp [en_zero]
  | succ k ih => intro h; rw [en_snoc L k (by omega)]; have := ih (by omega); omega
theorem nx_cut (l : List UInt8) (hl : l.length ≤ 65535) (c : Nat) (hc : c < l.length + 8) : (nxF ((frm l).take c)).2.2 ≠ 0 := by
  have hlen : ((frm l).take c).length = c := by rw [List.length_take, frm_len]; omega
  unfold nxF
  by_cases h4 : c < 4
  · rw [if_pos (by omega)]; simp
  · have e4 : ((frm l).take c).take 4 = four l.length := by
      rw [List.take_take, Nat.min_eq_left (by omega)]; unfold frm; rw [List.append_assoc]; rfl
    rw [e4, vle_four' _ (by omega), if_neg (by omega), if_neg (by omega), if_pos (by omega)]; simp
theorem alF_stop (f : Nat) (l : List UInt8) (h : (nxF l).2.2 ≠ 0) : alF f l = [] := by
  cases f with
  | zero => rfl
  | succ f => rw [alF, if_neg h]
theorem al_cut : ∀ (k : Nat) (L : List (List UInt8)) (c f : Nat), k ≤ L.length → (∀ l ∈ L, l.length ≤ 65535) → en L k ≤ c → (k = L.length ∨ c < en L (k + 1)) → k ≤ f → alF f ((cat L).take c) = (L.take k).map pr
  | 0, [], c, f, _, _, _, _, _ => by
    rw [cat, List.take_nil]; exact alF_stop _ _ (by simp [nxF])
  | 0, l :: L, c, f, _, hl, _, h, _ => by
    have hc : c < l.length + 8 := by
      rcases h with h | h
      · simp at h
      · rw [en_cons, en_zero] at h; omega
    rw [cat, List.take_append_of_le_length (by rw [frm_len]; omega)]
    exact alF_stop _ _ (nx_cut l (hl l (List.mem_cons_self ..)) c hc)
  | k + 1, [], _, _, h, _, _, _, _ => by simp at h
  | k + 1, l :: L, c, f, h1, hl, h2, h3, h4 => by
    obtain ⟨f, rfl⟩ : ∃ f', f = f' + 1 := ⟨f - 1, by omega⟩
    rw [en_cons] at h2
    rw [cat, List.take_append, List.take_of_length_le (by rw [frm_len]; omega), alF_frm f l _ (hl l (List.mem_cons_self ..)), frm_len, List.take_succ_cons, List.map_cons,
      al_cut k L (c - (l.length + 8)) f (by simpa using h1) (fun x hx => hl x (List.mem_cons_of_mem _ hx)) (by omega) (by
        rcases h3 with h3 | h3
        · exact .inl (by simpa using h3)
        · rw [en_cons] at h3; exact .inr (by omega)) (by omega)]
    rfl
end Go.Proofs.YtilbffgpniomcaaGreatDoor

/- manifest: what its files say, plainly. -/
namespace Go.Proofs.YtilbffgpniomcaaGreatDoor
open Go.RowKit Go.Shelf

theorem four_vle1 : ∀ (t : List UInt8), t.length = 4 → four (vle t) = t
  | [a, b, c, d], _ => by
    have ha := a.toNat_lt
    have hb := b.toNat_lt
    have hc := c.toNat_lt
    have hd := d.toNat_lt
    simp only [four, vle, List.cons.injEq, and_true]
    refine ⟨?_, ?_, ?_, ?_⟩ <;> (apply UInt8.toNat_inj.1; rw [UInt8.toNat_ofNat']; omega)
/-- The frames of bytes. -/
def fmS (b : List UInt8) : List (List UInt8) := (alF (b.length + 1) b).map (·.1)
theorem nxF_len {l : List UInt8} (h : (nxF l).2.2 = 0) : (nxF l).1.length ≤ l.length := by
  unfold nxF at h ⊢
  by_cases h1 : l.length < 4
  · rw [if_pos h1] at h; simp at h
  · rw [if_neg h1] at h ⊢
    by_cases h2 : 65535 < vle (l.take 4)
    · rw [if_pos h2] at h; simp at h
    · rw [if_neg h2] at h ⊢
      by_cases h3 : l.length < vle (l.take 4) + 8
      · rw [if_pos h3] at h; simp at h
      · rw [if_neg h3] at h ⊢
        by_cases h4 : vle ((l.drop (4 + vle (l.take 4))).take 4) ≠ mor 0 (l.take (4 + vle (l.take 4)))
        · rw [if_pos h4] at h; simp at h
        · rw [if_neg h4]; simp; omega
theorem alF_len : ∀ (k : Nat) (l : List UInt8), ∀ x ∈ alF k l, x.1.length ≤ l.length
  | 0, _, x, h => by simp [alF] at h
  | k + 1, l, x, h => by
    rw [alF] at h
    by_cases e : (nxF l).2.2 = 0
    · rw [if_pos e] at h
      rcases List.mem_cons.1 h with rfl | h
      · exact nxF_len e
      · have := alF_len k _ x h
        simp at this
        omega
    · rw [if_neg e] at h; simp at h
theorem alF_cnt : ∀ (k : Nat) (l : List UInt8), (alF k l).length ≤ k
  | 0, _ => by simp [alF]
  | k + 1, l => by
    rw [alF]
    split
    · have := alF_cnt k (l.drop (nxF l).2.1)
      simp only [List.length_cons]; omega
    · simp
theorem fmS_cnt (b : List UInt8) : (fmS b).length ≤ b.length + 1 := by unfold fmS; rw [List.length_map]; exact alF_cnt _ _
/-- The state ahead of all edits. -/
def st0 : St := ⟨[], 1, 2, 0⟩
theorem st0_ok : okSt st0 := by unfold okSt st0 okRs; simp
/-- What edits make of a state. -/
def rpF : List (List UInt8) → St → Bool → St × Bool
  | [], s, m => (s, m)
  | d :: ds, s, m => match edR d with
    | none => (s, m)
    | some x => match (apS s x).1 with
      | none => (s, m)
      | some t => rpF ds t true
theorem rpF_no {d : List UInt8} (ds : List (List UInt8)) (s : St) (m : Bool) (h : edR d = none) : rpF (d :: ds) s m = (s, m) := by rw [rpF, h]
theorem rpF_stop {d : List UInt8} (ds : List (List UInt8)) (s : St) (m : Bool) {x : Ed} (h : edR d = some x) (h2 : (apS s x).1 = none) : rpF (d :: ds) s m = (s, m) := by rw [rpF, h]; simp only; rw [h2]
theorem rpF_on {d : List UInt8} (ds : List (List UInt8)) (s : St) (m : Bool) {x : Ed} {t : St} (h : edR d = some x) (h2 : (apS s x).1 = some t) : rpF (d :: ds) s m = rpF ds t true := by rw [rpF, h]; simp only; rw [h2]
/-- The state that a log's bytes make. -/
def rpS (b : List UInt8) : Option St := if (rpF (fmS b) st0 false).2 = true then some (rpF (fmS b) st0 false).1 else none
/-- The number that a pointer's bytes name. -/
def ptF (b : List UInt8) : Option Int :=
  if 1 ≤ (rsF (nxF b).1 0 0).1 ∧ (rsF (nxF b).1 0 0).1 ≤ 1099511627776 ∧ frm (sh (rsF (nxF b).1 0 0).1) = b then some ((rsF (nxF b).1 0 0).1 : Int) else none
theorem nxF_frm {l : List UInt8} (h : (nxF l).2.2 = 0) : l.take (nxF l).2.1 = frm (nxF l).1 ∧ (nxF l).2.1 = (nxF l).1.length + 8 ∧ (nxF l).1.length ≤ 65535 := by
  unfold nxF at h ⊢
  by_cases h1 : l.length < 4
  · rw [if_pos h1] at h; simp at h
  · rw [if_neg h1] at h ⊢
    by_cases h2 : 65535 < vle (l.take 4)
    · rw [if_pos h2] at h; simp at h
    · rw [if_neg h2] at h ⊢
      by_cases h3 : l.length < vle (l.take 4) + 8
      · rw [if_pos h3] at h; simp at h
      · rw [if_neg h3] at h ⊢
        by_cases h4 : vle ((l.drop (4 + vle (l.take 4))).take 4) ≠ mor 0 (l.take (4 + vle (l.take 4)))
        · rw [if_pos h4] at h; simp at h
        · rw [if_neg h4]
          have h4' := Classical.byContradiction h4
          have f1 := four_vle1 (l.take 4) (by simp; omega)
          obtain ⟨n, hn⟩ : ∃ n, n = vle (l.take 4) := ⟨_, rfl⟩
          rw [← hn] at h2 h3 h4' f1 ⊢
          have dl : ((l.drop 4).take n).length = n := by simp; omega
          have f2 := four_vle1 ((l.drop (4 + n)).take 4) (by simp; omega)
          simp only
          refine ⟨?_, by rw [dl], by rw [dl]; omega⟩
          unfold frm
          rw [dl, f1]
          have e1 : l.take 4 ++ (l.drop 4).take n = l.take (4 + n) := by rw [List.take_add]
          rw [e1, ← h4', f2, show n + 8 = (4 + n) + 4 by omega, List.take_add (i := 4 + n)]
theorem pt_iff {b : List UInt8} {v : Int} : ptF b = some v ↔ 1 ≤ v ∧ v ≤ 1099511627776 ∧ b = frm (sh v.toNat) := by
  constructor
  · intro h
    unfold ptF at h
    split at h
    · rename_i c
      simp only [Option.some.injEq] at h
      subst h
      exact ⟨by omega, by omega, by rw [Int.toNat_natCast]; exact c.2.2.symm⟩
    · cases h
  · rintro ⟨h1, h2, rfl⟩
    obtain ⟨n, rfl⟩ : ∃ n : Nat, v = (n : Int) := ⟨v.toNat, by omega⟩
    rw [Int.toNat_natCast]
    have hl := sh_len10 (n := n) (by omega)
    have e0 : nxF (frm (sh n)) = (sh n, (sh n).length + 8, 0) := by
      have := nx_frm (sh n) [] (by omega)
      rwa [List.append_nil] at this
    have e := rsF_sh n [] 0 0 (by simp) (by simp; omega) (fun h => by omega)
    have e' : rsF (sh n) 0 0 = (n, (sh n).length, 0) := by simpa using e
    unfold ptF
    rw [e0]
    simp only
    rw [e', if_pos ⟨by omega, by omega, rfl⟩]
theorem pt_all {b : List UInt8} {v : Int} (h : ptF b = some v) : alF (b.length + 1) b = [(sh v.toNat, b.length)] ∧ rsF (sh v.toNat) 0 0 = (v.toNat, (sh v.toNat).length, 0) ∧ b.length ≤ 18 := by
  obtain ⟨h1, h2, rfl⟩ := pt_iff.1 h
  have hl := sh_len10 (n := v.toNat) (by omega)
  have e := rsF_sh v.toNat [] 0 0 (by simp) (by simp; omega) (fun h => by omega)
  refine ⟨?_, by simpa using e, by rw [frm_len]; omega⟩
  have e2 := alF_frm ((frm (sh v.toNat)).length) (sh v.toNat) [] (by omega)
  rw [List.append_nil] at e2
  rw [e2, frm_len]
  have e3 : alF ((sh v.toNat).length + 8) [] = [] := by
    rw [alF, if_neg (by simp [nxF])]
  rw [e3]
theorem pt_of {b d : List UInt8} {k V : Nat} (h : alF (b.length + 1) b = [(d, k)]) (hk : k = b.length) (hr : rsF d 0 0 = (V, d.length, 0)) (hV : V ≤ 1099511627776) : (ptF b).getD 0 = (V : Int) := by
  have h0 : (nxF b).2.2 = 0 := by
    apply Classical.byContradiction
    intro e
    rw [alF, if_neg e] at h
    cases h
  rw [alF, if_pos h0] at h
  simp only [List.cons.injEq, Prod.mk.injEq] at h
  obtain ⟨⟨g1, g2⟩, _⟩ := h
  obtain ⟨f1, _, _⟩ := nxF_frm h0
  rw [g1, g2, hk, List.take_length] at f1
  obtain ⟨u, q, r1, r2, r3, r4, r5, _, _⟩ := rsF_ok d 0 0 V d.length hr (by omega) (by simp)
  have e1 : d.length = q := by omega
  have e2 : V = u := by rw [r4]; simp
  have e3 : d = sh V := by rw [e2, r5, ← e1, List.take_length]
  by_cases hz : V = 0
  · cases hp : ptF b with
    | none => simp [hz]
    | some v =>
      exfalso
      obtain ⟨p1, p2, p3⟩ := pt_iff.1 hp
      have := pt_all hp
      rw [alF, if_pos h0] at this
      simp only [List.cons.injEq, Prod.mk.injEq] at this
      have e4 : d = sh v.toNat := by rw [← g1]; exact this.1.1.1
      have := this.2.1
      rw [← e4, hr] at this
      simp only [Prod.mk.injEq] at this
      omega
  · have : ptF b = some (V : Int) := pt_iff.2 ⟨by omega, by omega, by rw [Int.toNat_natCast, ← e3]; exact f1⟩
    rw [this]
    rfl
end Go.Proofs.YtilbffgpniomcaaGreatDoor

/- The contracts of bytes.Compare and bytes.Equal; the order of bytes. -/
namespace Go.Proofs.YtilbffgpniomcaaGreatDoor
open Go.RowKit

theorem run_loadBytes (w : World) : ∀ (l : List UInt8) (b off : Nat) (acc : ByteArray), (∀ j (h : j < l.length), w.cell? ⟨b, off + j, none⟩ = some (bc l[j])) →
    (Extern.Bytes.loadBytes ⟨b, off, none⟩ l.length acc).run Tryz.prog w = .ok ⟨acc.data ++ l.toArray⟩ w := by
  intro l
  induction l with
  | nil => intro b off acc _; simp [Extern.Bytes.loadBytes, Sem.run_pure]
  | cons x l ih =>
    intro b off acc h
    have h0 := h 0 (by simp)
    simp only [Nat.add_zero, List.getElem_cons_zero] at h0
    have e1 : (⟨b, off, none⟩ : Addr).add 1 = ⟨b, off + 1, none⟩ := by simp [Addr.add]
    have := ih b (off + 1) (acc.push x) (fun j hj => by
      have := h (j + 1) (by simpa using hj)
      simpa [Nat.add_assoc, Nat.add_comm 1 j] using this)
    have e2 : ((x.toNat : Int).toNat).toUInt8 = x := by simp
    unfold bc at h0
    simp only [List.length_cons, Extern.Bytes.loadBytes, Sem.run_bind, run_load, h0, Result.andThen, e1, e2, this]
    congr 1
    simp [ByteArray.push]
theorem run_bytesOf {w : World} {v : Value} {l : List UInt8} (h : Reads w v l) : (Extern.Bytes.bytesOf v).run Tryz.prog w = .ok ⟨l.toArray⟩ w := by
  rcases h with ⟨rfl, a, cap, rfl, _⟩ | ⟨b, off, cap, rfl, h2, h3, h4, h5, h6⟩
  · cases a with
    | none => simp [Extern.Bytes.bytesOf, Sem.run_pure]; rfl
    | some a => simp [Extern.Bytes.bytesOf, Extern.Bytes.loadBytes, Sem.run_pure]; rfl
  · have := run_loadBytes w l b off ByteArray.empty h6
    simp only [Extern.Bytes.bytesOf]
    rw [this]; simp
theorem run_cmp {w : World} {va vb : Value} {a b : List UInt8} (ha : Reads w va a) (hb : Reads w vb b) : (Extern.BytealgCompare.compare #[va, vb]).run Tryz.prog w = .ok (.int .i64 (Lib.compareBytes a b)) w := by
  change Sem.run Tryz.prog (do pure (goInt (Extern.BytealgCompare.cmp (← Extern.Bytes.bytesOf va) (← Extern.Bytes.bytesOf vb)))) w = _
  simp only [Sem.run_bind, run_bytesOf ha, run_bytesOf hb, Sem.run_pure, Result.andThen]
  rw [Lib.cmp_eq]
  rfl
theorem equal_any (va vb : Value) (a b : List UInt8) (w : World) (ha : Reads w va a) (hb : Reads w vb b) :
    Calls Tryz.prog 72 #[va, vb] w fun e w' => e = .returned (.bool (decide (a = b))) ∧ w' = w := by
  have h1 := reads_text ha
  have h2 := reads_text hb
  obtain ⟨a1, c1, rfl, _⟩ := ha.form
  obtain ⟨a2, c2, rfl, _⟩ := hb.form
  go_enter Tryz.func72, Tryz.ntmps72
  go_wp2_with fail
  go_ret
  exact ⟨congrArg (fun x => Ending.returned (Value.bool x)) (by rw [Bool.eq_iff_iff]; simp), rfl⟩
end Go.Proofs.YtilbffgpniomcaaGreatDoor

/- manifest: pointed, replayed. -/
namespace Go.Proofs.YtilbffgpniomcaaGreatDoor
open Go.RowKit Go.Shelf

/-- A slice of slices of bytes. -/
def DsR (w : World) (v : Value) (ds : List (List UInt8)) : Prop :=
  ∃ a cap, v = .slice a ds.length cap ∧ ds.length ≤ maxLen ∧ ∀ j (hj : j < ds.length), ∃ g u, a = some ⟨g, 0, none⟩ ∧ g < w.heap.size ∧ w.cell? ⟨g, j, none⟩ = some u ∧ Reads w u ds[j]
theorem DsR.form {w : World} {v : Value} {ds : List (List UInt8)} (h : DsR w v ds) : ∃ a cap, v = .slice a ds.length cap ∧ ds.length ≤ maxLen := by
  obtain ⟨a, cap, h1, h2, _⟩ := h
  exact ⟨a, cap, h1, h2⟩
theorem DsR.at {w : World} {a : Option Addr} {n cap : Nat} {ds : List (List UInt8)} (h : DsR w (.slice a n cap) ds) {j : Nat} (hj : j < ds.length) {d : List UInt8} (hd : d = ds[j]) : ∃ g u, a = some ⟨g, 0, none⟩ ∧ g < w.heap.size ∧ w.cell? ⟨g, j, none⟩ = some u ∧ Reads w u d := by
  subst hd
  obtain ⟨a', cap', e, _, h3⟩ := h
  cases e
  exact h3 j hj
theorem DsR.below {w w' : World} {v : Value} {ds : List (List UInt8)} (h : DsR w v ds) (hb : Below w.heap.size w w') : DsR w' v ds := by
  obtain ⟨a, cap, h1, h2, h3⟩ := h
  refine ⟨a, cap, h1, h2, fun j hj => ?_⟩
  obtain ⟨g, u, q1, q2, q3, q4⟩ := h3 j hj
  exact ⟨g, u, q1, Nat.lt_of_lt_of_le q2 hb.size, (hb.cell (p := ⟨g, j, none⟩) q2).trans q3, q4.below hb⟩
theorem row_formS {w : World} {base n size : Nat} {e : TypeId} {v : Value} {xs : List Value} (h : w.ownsRow base e size v n xs) : ∃ a c, v = .slice a n c := by
  rcases h.2 with ⟨h1, h2⟩ | ⟨g, cap, cur, h1, _⟩
  · exact ⟨none, 0, by rw [h1, h2]⟩
  · exact ⟨_, cap, h1⟩
theorem dsr_of {w : World} {base : Nat} {vl : Value} {xs : List Fr} (h : w.ownsRow base 22 1 vl xs.length (xs.map Fr.v)) (hx : ∀ x ∈ xs, Own w base x.v x.D) : DsR w vl (xs.map Fr.D) := by
  have h' : w.ownsRow base 22 1 vl (xs.map Fr.v).length (xs.map Fr.v) := by rw [List.length_map]; exact h
  rcases Nat.eq_zero_or_pos xs.length with h0 | h0
  · obtain ⟨a, c, hv⟩ := row_formS h
    have : xs = [] := List.length_eq_zero_iff.1 h0
    subst this
    exact ⟨a, c, hv, Nat.zero_le _, fun j hj => by simp at hj⟩
  · obtain ⟨g, cap, hv, _, hg, hc⟩ := row_at h' (by simpa using h0)
    have hm : xs.length ≤ maxLen := by
      rcases h.2 with ⟨_, q⟩ | ⟨g', cap', cur, _, _, _, q1, q2, _⟩
      · rw [q]; exact Nat.zero_le _
      · exact Nat.le_trans q1 q2
    refine ⟨_, cap, by simpa using hv, by simpa using hm, fun j hj => ?_⟩
    simp only [List.length_map] at hj
    refine ⟨g, xs[j].v, rfl, hg, by have := hc j (by simpa using hj); simpa using this, ?_⟩
    have := (hx xs[j] (List.getElem_mem hj)).reads
    simpa using this
theorem fm_of {xs : List Fr} {bs : List UInt8} (h : xs.map Fr.p = alF (bs.length + 1) bs) : xs.map Fr.D = fmS bs := by
  unfold fmS
  rw [← h, List.map_map]
  rfl
theorem jr_one (w : World) (n : Int) : JR (w.alloc (.cells #[.int .i64 n] 2)) (.slice (some ⟨w.heap.size, 0, none⟩) 1 1) [n] :=
  ⟨_, 1, rfl, by simp [maxLen], fun j hj => by
    have : j = 0 := by simp at hj; omega
    subst this
    exact ⟨w.heap.size, 0, rfl, by simp, (cellB (heap_alloc_new w _)).1⟩⟩
theorem shB_one (n : Int) : shB [n] = sh n.toNat := by unfold shB; simp
def PtP (b : List UInt8) (w : World) (e : Ending) (w' : World) : Prop := ∃ n ok, e = .returned (.tuple #[.int .i64 n, .bool ok]) ∧ ok = (ptF b).isSome ∧ (∀ v, ptF b = some v → n = v) ∧ Below w.heap.size w w'
set_option maxRecDepth 100000 in
set_option maxHeartbeats 1000000 in
theorem pointed_any (bv : Value) (b : List UInt8) (w : World) (h : Reads w bv b) : Calls Tryz.prog 37 #[bv] w (PtP b w) := by
  obtain ⟨ba, bcp, rfl, _⟩ := h.form
  have HRd : Hid (Reads w (.slice ba b.length bcp) b) := h
  obtain ⟨BL, HBL⟩ := hid_ex b.length
  rw [← HBL.out] at HRd ⊢
  clear h
  have HN := next_any _ b w HRd.out
  obtain ⟨D, HD⟩ := hid_ex (nxF b).1
  obtain ⟨K, HK⟩ := hid_ex (nxF b).2.1
  obtain ⟨E, HE⟩ := hid_ex (nxF b).2.2
  rw [← HD.out, ← HK.out, ← HE.out] at HN
  have HN' : Hid (Calls Tryz.prog 69 #[.slice ba BL bcp] w _) := HN
  clear HN
  go_enter Tryz.func37, Tryz.ntmps37
  go_wp2_with fail
  refine HN'.out.mono ?_
  rintro e w1 ⟨vd, rfl, hod, hb1⟩
  have HS := readShort_any vd D w1 hod.reads
  obtain ⟨da, dc, hvd, _⟩ := hod.form
  subst hvd
  obtain ⟨DL, HDL⟩ := hid_ex D.length
  rw [← HDL.out] at HS ⊢
  obtain ⟨V, HV⟩ := hid_ex (rsF D 0 0).1
  obtain ⟨U, HU⟩ := hid_ex (rsF D 0 0).2.1
  obtain ⟨E2, HE2⟩ := hid_ex (rsF D 0 0).2.2
  rw [← HV.out, ← HU.out, ← HE2.out] at HS
  have HS' : Hid (Calls Tryz.prog 70 #[.slice da DL dc] w1 _) := HS
  have HB1 : Hid (Below w.heap.size w w1) := hb1
  have HP : Hid (ptF b = if 1 ≤ V ∧ V ≤ 1099511627776 ∧ frm (sh V) = b then some (V : Int) else none) := by unfold Hid ptF; rw [← HD.out, ← HV.out]
  clear hod hb1 HS HN'
  go_wp2_with fail
  refine HS'.out.mono ?_
  rintro e w2 ⟨rfl, hb2⟩
  have HB2 : Hid (Below w.heap.size w w2) := HB1.out.trans (hb2.mono HB1.out.size)
  clear hb2 HS' HB1 HV HU HE2 HD HK HE HDL
  by_cases h1 : V < 1
  · have h1' : (V : Int) < 1 := by omega
    have HQ : Hid (ptF b = none) := by unfold Hid; rw [HP.out, if_neg (by omega)]
    go_wp2_with fail
    go_ret2
    exact ⟨0, false, rfl, by rw [HQ.out]; rfl, (fun v e => by rw [HQ.out] at e; cases e), HB2.out⟩
  · have h1' : ¬ (V : Int) < 1 := by omega
    by_cases h2 : 1099511627776 < V
    · have h2' : (1099511627776 : Int) < (V : Int) := by omega
      have HQ : Hid (ptF b = none) := by unfold Hid; rw [HP.out, if_neg (by omega)]
      go_wp2_with fail
      go_ret2
      exact ⟨0, false, rfl, by rw [HQ.out]; rfl, (fun v e => by rw [HQ.out] at e; cases e), HB2.out⟩
    · have h2' : ¬ (1099511627776 : Int) < (V : Int) := by omega
      have d2' : decide ((1099511627776 : Int) < (V : Int)) = false := decide_eq_false h2'
      have hw : IntKind.i64.wrap (V : Int) = (V : Int) := Go.IntWalk.i64_in _ (by omega)
      have HS := short13_any (.slice (some ⟨w2.heap.size, 0, none⟩) 1 1) [(V : Int)] (by simp) (fun x hx => by simp only [List.mem_singleton] at hx; omega) (w2.alloc (.cells #[.int .i64 (V : Int)] 2)) (jr_one w2 V)
      rw [shB_one, Int.toNat_natCast] at HS
      have HS' : Hid (Calls Tryz.prog 47 #[.slice (some ⟨w2.heap.size, 0, none⟩) 1 1] (w2.alloc (.cells #[.int .i64 (V : Int)] 2)) _) := HS
      clear HS
      go_wp2_with fail
      refine HS'.out.mono ?_
      rintro e w3 ⟨v3, rfl, ho3, hb3⟩
      have HB3 : Hid (Below w.heap.size w w3) := (HB2.out.alloc HB2.out.size _).trans (hb3.mono (by have := HB2.out.size; simp; omega))
      have HFr := frame_any v3 (sh V) (by have := sh_len10 (n := V) (by omega); omega) w3 ho3.reads
      obtain ⟨a3, c3, hv3, _⟩ := ho3.form
      subst hv3
      obtain ⟨L3, HL3⟩ := hid_ex (sh V).length
      rw [← HL3.out] at HFr ⊢
      have HFr' : Hid (Calls Tryz.prog 71 #[.slice a3 L3 c3] w3 _) := HFr
      clear ho3 hb3 HFr HS'
      go_wp2_with fail
      refine HFr'.out.mono ?_
      rintro e w4 ⟨v4, rfl, ho4, hb4⟩
      have HB4 : Hid (Below w.heap.size w w4) := HB3.out.trans (hb4.mono HB3.out.size)
      have HEq := equal_any v4 (.slice ba BL bcp) (frm (sh V)) b w4 ho4.reads (HRd.out.below HB4.out)
      obtain ⟨a4, c4, hv4, _⟩ := ho4.form
      subst hv4
      obtain ⟨L4, HL4⟩ := hid_ex (frm (sh V)).length
      rw [← HL4.out] at HEq ⊢
      have HEq' : Hid (Calls Tryz.prog 72 #[.slice a4 L4 c4, .slice ba BL bcp] w4 _) := HEq
      clear ho4 hb4 HEq HFr'
      go_wp2_with fail
      refine HEq'.out.mono ?_
      rintro e w5 ⟨rfl, rfl⟩
      go_wp2_with fail
      go_ret2
      refine ⟨V, decide (frm (sh V) = b), rfl, ?_, fun v e => ?_, HB4.out⟩
      · rw [HP.out]
        by_cases hf : frm (sh V) = b
        · rw [if_pos ⟨by omega, by omega, hf⟩, decide_eq_true hf]; rfl
        · rw [if_neg (fun z => hf z.2.2), decide_eq_false hf]; rfl
      · rw [HP.out] at e
        split at e
        · simpa using e
        · cases e
end Go.Proofs.YtilbffgpniomcaaGreatDoor

/- manifest: replayed (written by mkml3.py). -/
namespace Go.Proofs.YtilbffgpniomcaaGreatDoor
open Go.RowKit Go.Shelf

def RpP (R : St × Bool) (w : World) (e : Ending) (w' : World) : Prop := ∃ v, e = .returned (.tuple #[.agg #[v, .int .i64 R.1.lo, .int .i64 R.1.ne, .int .i64 R.1.ma], .bool R.2]) ∧ UR w' v R.1.ru ∧ Below w.heap.size w w' ∧ ∀ Q, Q < w.heap.size → notP Q v R.1.ru
theorem edR_len {b : List UInt8} {x : Ed} (h : edR b = some x) : x.dr.length ≤ 64 ∧ x.ad.length ≤ 64 := by
  have := edW_rd h
  unfold edW at this
  split at this
  · cases this
  · omega
set_option maxRecDepth 100000 in
set_option maxHeartbeats 4000000 in
theorem replayed_any (bv : Value) (b : List UInt8) (hbl : b.length ≤ 1000000) (w : World) (h : Reads w bv b) : Calls Tryz.prog 39 #[bv] w (RpP (rpF (fmS b) st0 false) w) := by
  obtain ⟨ba, bcp, rfl, _⟩ := h.form
  have hAll := all_any _ b hbl (w.alloc (.cells #[.slice none 0 0, .int .i64 0, .int .i64 0, .int .i64 0] 33)) (h.below ((Below.refl _ _).alloc (Nat.le_refl _) _))
  obtain ⟨BL, HBL⟩ := hid_ex b.length
  rw [← HBL.out] at hAll ⊢
  rw [HBL.out] at hAll
  obtain ⟨KS, HKS⟩ := hid_ex (ksum (alF (b.length + 1) b))
  rw [← HKS.out, ← HBL.out] at hAll
  have HAll : Hid (Calls Tryz.prog 75 #[.slice ba BL bcp] (w.alloc (.cells #[.slice none 0 0, .int .i64 0, .int .i64 0, .int .i64 0] 33)) _) := hAll
  obtain ⟨R, HR⟩ := hid_ex (rpF (fmS b) st0 false)
  rw [← HR.out]
  clear h hAll
  go_enter Tryz.func39, Tryz.ntmps39
  go_wp2_with fail
  refine HAll.out.mono ?_
  rintro e W1 ⟨vl, xs, rfl, hxs, hrow, hown, hb1⟩
  have hD : DsR W1 vl (fmS b) := by rw [HBL.out] at hxs; rw [← fm_of hxs]; exact dsr_of hrow hown
  obtain ⟨ds, Hds⟩ := hid_ex (fmS b)
  rw [← Hds.out] at hD HR
  obtain ⟨fa, fcp, hvl, hfm⟩ := hD.form
  subst hvl
  obtain ⟨FL, HFL⟩ : ∃ n, Hid (ds.length = n) := ⟨_, rfl⟩
  rw [HFL.out] at hD hfm ⊢
  unfold maxLen at hfm
  have HD : Hid (DsR W1 (.slice fa FL fcp) ds) := hD
  have HB1 : Hid (Below w.heap.size w W1) := ((Below.refl _ _).alloc (Nat.le_refl _) _).trans (hb1.mono (by simp))
  have hz1 : w.heap.size < W1.heap.size := by have := hb1.size; simp at this; omega
  have HA1 : Hid (W1.heap[w.heap.size]? = some (.cells #[.slice none 0 0, .int .i64 0, .int .i64 0, .int .i64 0] 33)) := (hb1.block _ (by simp)).trans (heap_alloc_new _ _)
  clear hrow hown hb1 hxs hD HAll HKS Hds
  go_wp2_with (refine stop_store 33 _ _ rfl ?_)
  refine Stop.of ?_
  refine wpList_storeN rfl _ _ _ rfl W1.heap.size 0 [.slice none 0 0, .int .i64 1, .int .i64 2, .int .i64 0] rfl rfl _ _ (heap_alloc_new _ _) (by simp) (by kernel_rfl) (by kernel_rfl) ?_
  intro W2 hW2
  obtain ⟨hb2, hp2, _⟩ := stW_nw hW2 (by simp)
  have HB2 : Hid (Below W1.heap.size W1 W2) := hb2
  have HP2 : Hid (W2.heap[W1.heap.size]? = some (.cells #[.slice none 0 0, .int .i64 1, .int .i64 2, .int .i64 0] 33)) := hp2
  obtain ⟨P, HPe⟩ := hid_ex W1.heap.size
  rw [← HPe.out]
  clear hW2 hb2 hp2
  go_wp2_with fail
  go_loopw [7, 21] (fun mv iv wr => ∃ (j SL sc : Nat) (sa : Option Addr) (s : St) (m : Bool), mv = .bool m ∧ iv = .int .i64 (j : Int) ∧ j ≤ FL ∧ Hid (s.ru.length = SL) ∧ Hid (UR wr (.slice sa SL sc) s.ru) ∧ Hid (notP P (.slice sa SL sc) s.ru ∧ ∀ Q, Q ≤ w.heap.size → notP Q (.slice sa SL sc) s.ru) ∧ Hid (okSt s ∧ R = rpF (ds.drop j) s m) ∧ Hid (wr.heap[P]? = some (.cells #[.slice sa SL sc, .int .i64 s.lo, .int .i64 s.ne, .int .i64 s.ma] 33)) ∧ Hid (Below P W1 wr)) (fun _ iv _ => FL - (intOf iv).toNat)
  case atStart => exact ⟨0, 0, 0, none, st0, false, rfl, rfl, by omega, rfl, ur_nil _, ⟨fun h => by simp [st0] at h, fun _ _ h => by simp [st0] at h⟩, ⟨st0_ok, HR.out⟩, by unfold Hid; rw [HPe.out]; exact HP2.out, by unfold Hid; rw [HPe.out]; exact HB2.out⟩
  case round =>
    clear HP2 HB2 HR
    obtain ⟨j, SL, sc, sa, s, m, rfl, rfl, hj, HSL, HU, HN, HI, HP, HB⟩ := hrel
    have hPz : P < wr.heap.size := (Array.getElem?_eq_some_iff.1 HP.out).1
    have HPz : Hid (P = W1.heap.size) := HPe.out
    have hwP : w.heap.size < P := by rw [HPe.out]; exact hz1
    have HA : Hid (wr.heap[w.heap.size]? = some (.cells #[.slice none 0 0, .int .i64 0, .int .i64 0, .int .i64 0] 33)) := (HB.out.block _ hwP).trans HA1.out
    have HBw : Hid (Below w.heap.size w wr) := HB1.out.trans (HB.out.mono (by omega))
    have HOn : Hid (([.slice sa SL sc, .int .i64 s.lo, .int .i64 s.ne, .int .i64 s.ma] : List Value).toArray.all (·.oneCell') = true) := by unfold Hid; kernel_rfl
    obtain ⟨p0, p1, p2, p3⟩ := four13 HP.out
    by_cases hlt : j < FL
    · have hlt' : (j : Int) < (FL : Int) := by omega
      have hjl : j < ds.length := by rw [HFL.out]; exact hlt
      obtain ⟨d, Hd⟩ := hid_ex ds[j]
      have Hdr : Hid (ds.drop j = d :: ds.drop (j + 1)) := by unfold Hid; rw [Hd.out]; exact List.drop_eq_getElem_cons hjl
      obtain ⟨g, u, hfa, hg, hc, hrd⟩ := (HD.out.below (by rw [HPe.out] at HB; exact HB.out)).at hjl Hd.out
      obtain ⟨ua, uc, hu, hum⟩ := hrd.form
      subst hu
      subst hfa
      have HRd := read13c_any _ d wr hrd
      obtain ⟨UL, HUL⟩ := hid_ex d.length
      rw [← HUL.out] at HRd hc
      have HRd' : Hid (Calls Tryz.prog 76 #[.slice ua UL uc] wr _) := HRd
      clear HRd hrd hum
      go_wp2_with fail
      refine HRd'.out.mono ?_
      clear HRd' hc
      rintro e W3 ⟨dv, av, rfl, hed, hb3, hcu⟩
      obtain ⟨da, dc, hdv, hdm⟩ := hed.d.form
      obtain ⟨aa, ac, hav, ham⟩ := hed.a.form
      subst hdv
      subst hav
      obtain ⟨X, HX⟩ := hid_ex ((edR d).getD edZ)
      obtain ⟨EE, HEE⟩ := hid_ex (edE (edR d))
      rw [← HX.out] at hed hdm ham hcu ⊢
      rw [← HEE.out]
      obtain ⟨DL, HDL⟩ : ∃ n, Hid (X.dr.length = n) := ⟨_, rfl⟩
      obtain ⟨AL, HAL⟩ : ∃ n, Hid (X.ad.length = n) := ⟨_, rfl⟩
      rw [HDL.out, HAL.out] at hed
      rw [HAL.out] at hcu
      rw [HDL.out, HAL.out]
      have HEd : Hid (EdR W3 (.slice da DL dc) (.slice aa AL ac) X) := hed
      have HCu : Hid (CapU (.slice aa AL ac)) := hcu
      have HB3 : Hid (Below wr.heap.size wr W3) := hb3
      have hz3 := hb3.size
      have HOn2 : Hid (([.slice da DL dc, .slice aa AL ac, .int .i64 X.lo, .int .i64 X.ne, .int .i64 X.ma] : List Value).toArray.all (·.oneCell') = true) := by unfold Hid; kernel_rfl
      clear hed hcu hb3 hdm ham
      go_wp2_with (refine stop_store 52 _ _ rfl ?_)
      refine Stop.of ?_
      refine wpList_storeN rfl _ _ _ rfl W3.heap.size 0 [.slice da DL dc, .slice aa AL ac, .int .i64 X.lo, .int .i64 X.ne, .int .i64 X.ma] rfl rfl _ _ (heap_alloc_new _ _) (by simp) (by kernel_rfl) HOn2.out ?_
      intro W4 hW4
      obtain ⟨hb4, hx4, hz4⟩ := stW_nw hW4 (by simp)
      have HB4 : Hid (Below wr.heap.size wr W4) := HB3.out.trans (hb4.mono hz3)
      have HU4 : Hid (UR W4 (.slice sa SL sc) s.ru) := HU.out.below HB4.out
      have HP4 : Hid (W4.heap[P]? = some (.cells #[.slice sa SL sc, .int .i64 s.lo, .int .i64 s.ne, .int .i64 s.ma] 33)) := (HB4.out.block _ hPz).trans HP.out
      have HA4 : Hid (W4.heap[w.heap.size]? = some (.cells #[.slice none 0 0, .int .i64 0, .int .i64 0, .int .i64 0] 33)) := (HB4.out.block _ (by omega)).trans HA.out
      have HBw4 : Hid (Below w.heap.size w W4) := HBw.out.trans (HB4.out.mono HBw.out.size)
      have HEd4 : Hid (EdR W4 (.slice da DL dc) (.slice aa AL ac) X) := HEd.out.below hb4
      have HX4 : Hid (W4.heap[W3.heap.size]? = some (.cells #[.slice da DL dc, .slice aa AL ac, .int .i64 X.lo, .int .i64 X.ne, .int .i64 X.ma] 52)) := hx4
      have HBP4 : Hid (Below P W1 W4) := HB.out.trans (HB4.out.mono (by omega))
      clear hW4 hb4 hx4 HEd HB3 p0 p1 p2 p3
      obtain ⟨p0, p1, p2, p3⟩ := four13 HP4.out
      cases hed : edR d with
      | none =>
        have hE : EE = 100 := by rw [HEE.out, hed]; rfl
        have HQ : Hid (R = (s, m)) := by unfold Hid; rw [HI.out.2, Hdr.out, rpF_no _ _ _ hed]
        subst hE
        clear HEE HX hed
        go_wp2_with (refine stop_store 33 _ _ rfl ?_)
        refine Stop.of ?_
        refine wpList_storeN rfl _ _ _ rfl w.heap.size 0 [.slice sa SL sc, .int .i64 s.lo, .int .i64 s.ne, .int .i64 s.ma] rfl rfl _ _ HA4.out (by simp) (by kernel_rfl) HOn.out ?_
        intro W9 hW9
        have HK9 := stW_all hW9 (by simp)
        have HB9 : Hid (Below w.heap.size w W9) := HBw4.out.trans (hW9.b _ (Nat.le_refl _))
        have HU9 : Hid (UR W9 (.slice sa SL sc) s.ru) := ⟨HU4.out.r.keepC fun h0 b off n c e => hW9.o b (HN.out.2 _ (Nat.le_refl _) h0 b off n c e), HU4.out.c, HU4.out.z⟩
        clear hW9
        go_wp2_with fail
        refine bodyPost_ret (results_c13 rfl _ _ w.heap.size _ rfl (run_loadVar_row _ w.heap.size _ _ _ (0, 0) _ HK9 Tryz.underlying33 rfl (by kernel_rfl))) rfl ?_
        exact ⟨_, by rw [HQ.out]; rfl, by rw [HQ.out]; exact HU9.out, HB9.out, by rw [HQ.out]; exact fun Q hQ => HN.out.2 Q (Nat.le_of_lt hQ)⟩
      | some x =>
        have hE : EE = 0 := by rw [HEE.out, hed]; rfl
        have hXx : X = x := by rw [HX.out, hed]; rfl
        subst hXx
        have HEr : Hid (edR d = some X) := hed
        subst hE
        clear HEE HX hed
        obtain ⟨q0, q1, q2, q3, q4⟩ := five HX4.out
        have HAp := apply13f_any _ _ _ s X W4 HU4.out HEd4.out.d ⟨HEd4.out.a, HCu.out.1, HCu.out.2⟩ (Nat.le_trans (edR_len HEr.out).2 (by decide))
        have HAp' : Hid (Calls Tryz.prog 28 #[.agg #[.slice sa SL sc, .int .i64 s.lo, .int .i64 s.ne, .int .i64 s.ma], .agg #[.slice da DL dc, .slice aa AL ac, .int .i64 X.lo, .int .i64 X.ne, .int .i64 X.ma]] W4 _) := HAp
        clear HAp
        go_wp2_with fail
        refine HAp'.out.mono ?_
        clear HAp' p0 p1 p2 p3 q0 q1 q2 q3 q4
        rintro e W5 ⟨v5, rfl, hu5, hb5, hn5⟩
        obtain ⟨a5, c5, hv5, _⟩ := hu5.r.form
        subst hv5
        obtain ⟨T, HT⟩ := hid_ex ((apS s X).1.getD stZ)
        obtain ⟨E5, HE5⟩ := hid_ex (apS s X).2
        rw [← HT.out] at hu5 hn5 ⊢
        rw [← HE5.out]
        obtain ⟨L5, HL5⟩ : ∃ n, Hid (T.ru.length = n) := ⟨_, rfl⟩
        rw [HL5.out] at hu5 hn5 ⊢
        have HU5 : Hid (UR W5 (.slice a5 L5 c5) T.ru) := hu5
        have HB5 : Hid (Below W4.heap.size W4 W5) := hb5
        have hz5 := hb5.size
        have HN5 : Hid (notP P (.slice a5 L5 c5) T.ru ∧ ∀ Q, Q ≤ w.heap.size → notP Q (.slice a5 L5 c5) T.ru) := ⟨hn5 P (by have := HB4.out.size; omega) HN.out.1, fun Q hQ => hn5 Q (by have := HB4.out.size; omega) (HN.out.2 Q hQ)⟩
        have HOn5 : Hid (([.slice a5 L5 c5, .int .i64 T.lo, .int .i64 T.ne, .int .i64 T.ma] : List Value).toArray.all (·.oneCell') = true) := by unfold Hid; kernel_rfl
        clear hu5 hb5 hn5
        go_wp2_with (refine stop_store 33 _ _ rfl ?_)
        refine Stop.of ?_
        refine wpList_storeN rfl _ _ _ rfl W5.heap.size 0 [.slice a5 L5 c5, .int .i64 T.lo, .int .i64 T.ne, .int .i64 T.ma] rfl rfl _ _ (heap_alloc_new _ _) (by simp) (by kernel_rfl) HOn5.out ?_
        intro W6 hW6
        obtain ⟨hb6, hx6, hz6⟩ := stW_nw hW6 (by simp)
        have HB46 : Hid (Below W4.heap.size W4 W6) := HB5.out.trans (hb6.mono hz5)
        have HU6 : Hid (UR W6 (.slice a5 L5 c5) T.ru) := HU5.out.below hb6
        have HU6s : Hid (UR W6 (.slice sa SL sc) s.ru) := HU4.out.below HB46.out
        have hP4z : P < W4.heap.size := by have := HB4.out.size; omega
        have HP6 : Hid (W6.heap[P]? = some (.cells #[.slice sa SL sc, .int .i64 s.lo, .int .i64 s.ne, .int .i64 s.ma] 33)) := (HB46.out.block _ hP4z).trans HP4.out
        have HA6 : Hid (W6.heap[w.heap.size]? = some (.cells #[.slice none 0 0, .int .i64 0, .int .i64 0, .int .i64 0] 33)) := (HB46.out.block _ (by omega)).trans HA4.out
        have HBw6 : Hid (Below w.heap.size w W6) := HBw4.out.trans (HB46.out.mono HBw4.out.size)
        have HBP6 : Hid (Below P W1 W6) := HBP4.out.trans (HB46.out.mono (by omega))
        have HX6 : Hid (W6.heap[W5.heap.size]? = some (.cells #[.slice a5 L5 c5, .int .i64 T.lo, .int .i64 T.ne, .int .i64 T.ma] 33)) := hx6
        clear hW6 hb6 hx6 HB5 HU5 HU4 HEd4 HX4
        rcases apS_cases s X with ⟨t, ht⟩ | ⟨c, ht, hc⟩
        · have hE : E5 = 0 := by rw [HE5.out, ht]
          have hTt : T = t := by rw [HT.out, ht]; rfl
          subst hTt
          have HQ : Hid (R = rpF (ds.drop (j + 1)) T true) := by unfold Hid; rw [HI.out.2, Hdr.out, rpF_on _ _ _ HEr.out (by rw [ht])]
          have HOk : Hid (okSt T) := (apS_ok ht).ok
          subst hE
          clear HE5 HT ht
          obtain ⟨p0, p1, p2, p3⟩ := four13 HX6.out
          go_wp2_with (refine stop_store 33 _ _ rfl ?_)
          refine Stop.of ?_
          refine wpList_storeN rfl _ _ _ rfl P 0 [.slice a5 L5 c5, .int .i64 T.lo, .int .i64 T.ne, .int .i64 T.ma] rfl rfl _ _ HP6.out (by simp) (by kernel_rfl) HOn5.out ?_
          intro W7 hW7
          have HK7 := stW_all hW7 (by simp)
          have HU7 : Hid (UR W7 (.slice a5 L5 c5) T.ru) := ⟨HU6.out.r.keepC fun h0 b off n c e => hW7.o b (HN5.out.1 h0 b off n c e), HU6.out.c, HU6.out.z⟩
          have HBP7 : Hid (Below P W1 W7) := HBP6.out.trans (hW7.b _ (Nat.le_refl _))
          clear hW7 p0 p1 p2 p3
          go_wp2_with fail
          go_roundw
          case rel => exact ⟨j + 1, L5, c5, a5, T, true, rfl, by go_num, by omega, HL5, HU7, HN5, ⟨HOk.out, HQ.out⟩, HK7, HBP7⟩
          case measure => simp [intOf]; omega
        · have hE : E5 = c := by rw [HE5.out, ht]
          have HQ : Hid (R = (s, m)) := by unfold Hid; rw [HI.out.2, Hdr.out, rpF_stop _ _ _ HEr.out (by rw [ht])]
          have hc0 : ¬ c = 0 := by omega
          have hc' : (c != 0) = true := by simpa using hc0
          subst hE
          clear HT ht HE5
          obtain ⟨p0, p1, p2, p3⟩ := four13 HP6.out
          go_wp2_with (refine stop_store 33 _ _ rfl ?_)
          refine Stop.of ?_
          refine wpList_storeN rfl _ _ _ rfl w.heap.size 0 [.slice sa SL sc, .int .i64 s.lo, .int .i64 s.ne, .int .i64 s.ma] rfl rfl _ _ HA6.out (by simp) (by kernel_rfl) HOn.out ?_
          intro W9 hW9
          have HK9 := stW_all hW9 (by simp)
          have HB9 : Hid (Below w.heap.size w W9) := HBw6.out.trans (hW9.b _ (Nat.le_refl _))
          have HU9 : Hid (UR W9 (.slice sa SL sc) s.ru) := ⟨HU6s.out.r.keepC fun h0 b off n c e => hW9.o b (HN.out.2 _ (Nat.le_refl _) h0 b off n c e), HU6s.out.c, HU6s.out.z⟩
          clear hW9
          go_wp2_with fail
          refine bodyPost_ret (results_c13 rfl _ _ w.heap.size _ rfl (run_loadVar_row _ w.heap.size _ _ _ (0, 0) _ HK9 Tryz.underlying33 rfl (by kernel_rfl))) rfl ?_
          exact ⟨_, by rw [HQ.out]; rfl, by rw [HQ.out]; exact HU9.out, HB9.out, by rw [HQ.out]; exact fun Q hQ => HN.out.2 Q (Nat.le_of_lt hQ)⟩
    · have hlt' : ¬ (j : Int) < (FL : Int) := by omega
      have HQ : Hid (R = (s, m)) := by unfold Hid; rw [HI.out.2, List.drop_eq_nil_of_le (by rw [HFL.out]; omega)]; rfl
      go_wp2_with (refine stop_store 33 _ _ rfl ?_)
      refine Stop.of ?_
      refine wpList_storeN rfl _ _ _ rfl w.heap.size 0 [.slice sa SL sc, .int .i64 s.lo, .int .i64 s.ne, .int .i64 s.ma] rfl rfl _ _ HA.out (by simp) (by kernel_rfl) HOn.out ?_
      intro W9 hW9
      have HK9 := stW_all hW9 (by simp)
      have HB9 : Hid (Below w.heap.size w W9) := HBw.out.trans (hW9.b _ (Nat.le_refl _))
      have HU9 : Hid (UR W9 (.slice sa SL sc) s.ru) := ⟨HU.out.r.keepC fun h0 b off n c e => hW9.o b (HN.out.2 _ (Nat.le_refl _) h0 b off n c e), HU.out.c, HU.out.z⟩
      clear hW9
      go_wp2_with fail
      refine bodyPost_ret (results_c13 rfl _ _ w.heap.size _ rfl (run_loadVar_row _ w.heap.size _ _ _ (0, 0) _ HK9 Tryz.underlying33 rfl (by kernel_rfl))) rfl ?_
      exact ⟨_, by rw [HQ.out]; rfl, by rw [HQ.out]; exact HU9.out, HB9.out, by rw [HQ.out]; exact fun Q hQ => HN.out.2 Q (Nat.le_of_lt hQ)⟩
end Go.Proofs.YtilbffgpniomcaaGreatDoor
