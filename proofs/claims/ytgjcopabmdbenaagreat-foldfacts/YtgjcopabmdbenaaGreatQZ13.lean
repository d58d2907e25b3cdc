/- MG4 MG5 MG6 MG7 MG8, joined. -/
import Derived.Test.YtgjcopabmdbenaaGreatQZ4
import Derived.Test.YtgjcopabmdbenaaGreatQZ12
import Derived.BigQuiet
import Derived.Deep.QuietTactic
/- A part sinks. -/
namespace Go.Proofs.YtgjcopabmdbenaaGreat
open Go.RowKit

/-- What calls on a heap leave alone: what lies below, what was made behind it, and all bytes. -/
structure Fr (lo hh : Nat) (A B : World) : Prop where
  b : Below lo A B
  h : ∀ k, hh ≤ k → k < A.heap.size → B.heap[k]? = A.heap[k]?
  u : ∀ (k : Nat) (cs : Array Value) (fr : Nat × Nat), A.heap[k]? = some (Obj.cells cs 5 fr) → B.heap[k]? = some (Obj.cells cs 5 fr)
theorem Fr.refl (lo hh : Nat) (A : World) : Fr lo hh A A := ⟨Below.refl _ _, fun _ _ _ => rfl, fun _ _ _ h => h⟩
theorem Fr.trans {lo hh : Nat} {A B C : World} (h : Fr lo hh A B) (k : Fr lo hh B C) : Fr lo hh A C :=
  ⟨h.b.trans k.b, fun i h1 h2 => (k.h i h1 (Nat.lt_of_lt_of_le h2 h.b.size)).trans (h.h i h1 h2), fun i cs fr q => k.u i cs fr (h.u i cs fr q)⟩
theorem Fr.of_below {lo hh : Nat} {A B : World} (h : Below A.heap.size A B) (hl : lo ≤ A.heap.size) : Fr lo hh A B :=
  ⟨h.mono hl, fun k _ hk => h.block k hk, fun k _ _ q => (h.block k (Array.getElem?_eq_some_iff.1 q).1).trans q⟩
theorem Fr.own {lo hh base : Nat} {A B : World} {v : Value} {l : List UInt8} (h : Fr lo hh A B) (ho : Own A base v l) : Own B base v l := own_kp ho h.u
/-- One part is stored. -/
def setP (w : World) (gp t : Nat) (p : Pt) : World := (w.setCell ⟨gp, t * 2, none⟩ (lv p)).setCell ⟨gp, t * 2 + 1, none⟩ (.int .i64 (p.r : Int))
theorem flat2_set : ∀ (P : List Pt) (t : Nat) (p : Pt), t < P.length → ((P.flatMap p2).set (t * 2) (lv p)).set (t * 2 + 1) (.int .i64 (p.r : Int)) = (P.set t p).flatMap p2
  | [], t, p, h => by simp at h
  | x :: P, 0, p, _ => by
    rw [List.flatMap_cons, List.set_cons_zero, List.flatMap_cons]
    rfl
  | x :: P, t + 1, p, h => by
    have ih := flat2_set P t p (by simpa using h)
    rw [List.flatMap_cons, List.set_cons_succ, List.flatMap_cons, ← ih, show (t + 1) * 2 + 1 = t * 2 + 1 + 2 by omega, show (t + 1) * 2 = t * 2 + 2 by omega]
    rfl
theorem setP_other (w : World) (gp t : Nat) (p : Pt) (k : Nat) (h : k ≠ gp) : (setP w gp t p).heap[k]? = w.heap[k]? := by
  unfold setP
  rw [Below.heap_setCell _ _ _ _ h, Below.heap_setCell _ _ _ _ h]
theorem setP_below {w : World} {gp t lo : Nat} {p : Pt} (h : lo ≤ gp) : Below lo w (setP w gp t p) := by
  unfold setP
  exact ((Below.refl _ _).setCell h _).setCell h _
theorem PtOk.other {A B : World} {lo hh gp : Nat} {p : Pt} (h : PtOk A lo hh p) (hk : ∀ k, k ≠ gp → B.heap[k]? = A.heap[k]?) {cs : Array Value} {T : TypeId} {fr : Nat × Nat} (hgp : A.heap[gp]? = some (.cells cs T fr)) (hT : T ≠ 46) (hU : T ≠ 5) : PtOk B lo hh p := by
  obtain ⟨cur, h1, h2⟩ := h.ce
  have hne : ∀ (k : Nat) (cs' : Array Value) (T' : TypeId) (fr' : Nat × Nat), T' ≠ T → A.heap[k]? = some (.cells cs' T' fr') → k ≠ gp := by
    rintro k cs' T' fr' hT' hk' rfl
    rw [hgp] at hk'
    simp at hk'
    exact hT' hk'.2.1.symm
  exact ⟨h.g1, h.g2, h.n1, h.n2, h.n3, ⟨cur, (hk _ (hne _ _ _ _ (Ne.symm hT) h1)).trans h1, h2⟩, fun x hx => own_kp (h.ky x hx) (fun k cs' fr' q => (hk _ (hne _ _ _ _ (Ne.symm hU) q)).trans q)⟩
theorem lePt_asymm (x y : Pt) (h : lePt x y) : ¬ lePt y x := ltT_asymm h
end Go.Proofs.YtgjcopabmdbenaaGreat

/- The least entry is forgotten. -/
namespace Go.Proofs.YtgjcopabmdbenaaGreat
open Go.RowKit

theorem sizeEn (w : World) : (sizeOf 46).run Tryz.prog w = .ok 7 w := by
  simp [sizeOf]
  rfl
theorem elemEn : Tryz.prog.elem 28 = 46 := by kernel_rfl
theorem undEn : Tryz.prog.underlying 28 = some (.slice (Tryz.prog.elem 28)) := by rw [elemEn]; exact Tryz.underlying28
/-- xs[1:] -/
theorem tail_sl (g o n cap : Nat) (hn : 0 < n) (hc : n ≤ cap) : ∃ a', (∀ w', (Instr.slice 28 (.slice (some ⟨g, o, none⟩) n cap) (some (.int .i64 1)) none none).run Tryz.prog w' = .ok (.slice a' (n - 1) (cap - 1)) w') ∧ (1 < n → a' = some ⟨g, o + 7, none⟩) := by
  refine ⟨(if cap = 1 then some ⟨g, o, none⟩ else (some (⟨g, o, none⟩ : Addr)).map (·.add (1 * 7))), fun w' => ?_, fun h => ?_⟩
  · rw [run_slice_l _ _ _ _ _ undEn _ _ (by omega) (by omega), elemEn, sizeEn]
    rfl
  · rw [if_neg (by omega)]
    simp [Addr.add]
theorem row_heap {A B : World} {lo sz g n cap : Nat} {T : TypeId} {xs : List Value} (h : A.ownsRow lo T sz (.slice (some ⟨g, 0, none⟩) n cap) n xs) (hb : B.heap[g]? = A.heap[g]?) : B.ownsRow lo T sz (.slice (some ⟨g, 0, none⟩) n cap) n xs := by
  obtain ⟨h1, h2⟩ := h
  refine ⟨h1, ?_⟩
  rcases h2 with ⟨h2, _⟩ | ⟨g', cap', cur, hv, hg, hw, r⟩
  · simp at h2
  · have hv' := hv
    simp at hv'
    obtain ⟨rfl, rfl⟩ := hv'
    exact .inr ⟨g, cap, cur, rfl, hg, hb.trans hw, r⟩
theorem row_take {A : World} {lo g n cap : Nat} {T : TypeId} {xs : List Value} (h : A.ownsRow lo T 2 (.slice (some ⟨g, 0, none⟩) n cap) n xs) (m : Nat) (hm : m ≤ n) : A.ownsRow lo T 2 (.slice (some ⟨g, 0, none⟩) m cap) m (xs.take (m * 2)) := by
  obtain ⟨h1, h2⟩ := h
  refine ⟨by simp; omega, ?_⟩
  rcases h2 with ⟨h2, _⟩ | ⟨g', cap', cur, hv, hg, hw, hc, hx, hs, ht⟩
  · simp at h2
  · have hv' := hv
    simp at hv'
    obtain ⟨rfl, rfl⟩ := hv'
    refine .inr ⟨g, cap, cur, rfl, hg, hw, by omega, hx, hs, ?_⟩
    rw [← ht, List.take_take, Nat.min_eq_left (by omega)]
theorem PtOk.heap {A B : World} {lo hh : Nat} {p : Pt} (h : PtOk A lo hh p) (hk : B.heap[p.g]? = A.heap[p.g]?) (hu : ∀ (k : Nat) (cs : Array Value) (fr : Nat × Nat), A.heap[k]? = some (Obj.cells cs 5 fr) → B.heap[k]? = some (Obj.cells cs 5 fr)) : PtOk B lo hh p := by
  obtain ⟨cur, h1, h2⟩ := h.ce
  exact ⟨h.g1, h.g2, h.n1, h.n2, h.n3, ⟨cur, hk.trans h1, h2⟩, fun x hx => own_kp (h.ky x hx) hu⟩
theorem typ_ne {A : World} {k m : Nat} {cs cs' : Array Value} {T T' : TypeId} {fr fr' : Nat × Nat} (h : A.heap[k]? = some (.cells cs T fr)) (h' : A.heap[m]? = some (.cells cs' T' fr')) (hT : T ≠ T') : k ≠ m := by
  rintro rfl
  rw [h] at h'
  simp at h'
  exact hT h'.2.1
theorem row_block {A : World} {lo sz g n cap : Nat} {T : TypeId} {xs : List Value} (h : A.ownsRow lo T sz (.slice (some ⟨g, 0, none⟩) n cap) n xs) : ∃ cur, A.heap[g]? = some (.cells cur T) := by
  rcases h.2 with ⟨q, _⟩ | ⟨g', c, cur, q, _, hw, _⟩
  · simp at q
  · simp at q
    obtain ⟨rfl, _⟩ := q
    exact ⟨cur, hw⟩
/-- A part without its first entry. -/
def tlP (p : Pt) : Pt := ⟨p.g, p.o + 7, p.cap - 1, p.xs.tail, p.r⟩
section
variable {w : World} {lo hh h gp cap : Nat} {p : Pt} {P : List Pt}
/-- The last part comes first. -/
def lastF (P : List Pt) : List Pt := match P.getLast? with | none => [] | some l => l :: P.dropLast
theorem lastF_perm (P : List Pt) : (lastF P).Perm P := by
  unfold lastF
  rcases List.eq_nil_or_concat P with rfl | ⟨L, b, rfl⟩
  · exact List.Perm.refl _
  · simp only [List.concat_eq_append, List.getLast?_append, List.getLast?_singleton, Option.some_or, List.dropLast_concat]
    exact (List.perm_append_singleton b L).symm
end
end Go.Proofs.YtgjcopabmdbenaaGreat

/- The contract of forget. -/
namespace Go.Proofs.YtgjcopabmdbenaaGreat
open Go.RowKit

theorem flat2_len : ∀ P : List Pt, (P.flatMap p2).length = P.length * 2
  | [] => rfl
  | p :: P => by rw [List.flatMap_cons, List.length_append, flat2_len P]; show 2 + _ = _; simp; omega
/-- What is stored when the first part has gone. -/
def dropW (w : World) (gp m : Nat) (av x y : Value) : World :=
  ((((w.setCell ⟨gp, 0, none⟩ av).setCell ⟨gp, 0, none⟩ x).setCell ⟨gp, 1, none⟩ y).setCell ⟨gp, m * 2, none⟩ (.slice none 0 0)).setCell ⟨gp, m * 2 + 1, none⟩ (.int .i64 0)
theorem dropW_other (w : World) (gp m : Nat) (av x y : Value) (k : Nat) (h : k ≠ gp) : (dropW w gp m av x y).heap[k]? = w.heap[k]? := by
  unfold dropW
  rw [Below.heap_setCell _ _ _ _ h, Below.heap_setCell _ _ _ _ h, Below.heap_setCell _ _ _ _ h, Below.heap_setCell _ _ _ _ h, Below.heap_setCell _ _ _ _ h]
theorem dropW_below {w : World} {gp m lo : Nat} {av x y : Value} (h : lo ≤ gp) : Below lo w (dropW w gp m av x y) := by
  unfold dropW
  exact (((((Below.refl _ _).setCell h _).setCell h _).setCell h _).setCell h _).setCell h _
/-- What is left of the parts. -/
def restP (p : Pt) (P : List Pt) : List Pt := if p.xs.length ≤ 1 then lastF P else tlP p :: P
theorem PtOk.fit {w : World} {lo hh : Nat} {p : Pt} (h : PtOk w lo hh p) : ∃ cur, w.heap[p.g]? = some (.cells cur 46) ∧ p.o + 7 ≤ cur.size := by
  obtain ⟨cur, h1, h2⟩ := h.ce
  refine ⟨cur, h1, ?_⟩
  have := h2 0 h.n1 6 (by decide)
  have h3 := (Array.getElem?_eq_some_iff.1 this).1
  omega
def zr7 : List Value := [.slice none 0 0, .int .u64 0, .bool false, .int .i64 0, .int .u64 0, .int .i64 0, .int .i64 0]
end Go.Proofs.YtgjcopabmdbenaaGreat

/- The contract of Next: the entries of the rows, one behind the other. -/
namespace Go.Proofs.YtgjcopabmdbenaaGreat
open Go.RowKit

theorem rest_perm (p : Pt) (P : List Pt) : (tags ((restP p P).map paP)).Perm (tags ((p.xs.tail.map evE, p.r) :: P.map paP)) := by
  unfold restP
  by_cases h : p.xs.length ≤ 1
  · rw [if_pos h]
    have e : p.xs.tail = [] := by
      cases hx : p.xs with
      | nil => rfl
      | cons x xs => rw [hx] at h; simp at h; simpa using h
    rw [e]
    have h1 : (tags ((lastF P).map paP)).Perm (tags (P.map paP)) := tags_perm ((lastF_perm P).map paP)
    exact h1
  · rw [if_neg h]
    exact List.Perm.refl _
theorem rest_good (p : Pt) (P : List Pt) (hg : GoodP ((p :: P).map paP)) : GoodP ((restP p P).map paP) := by
  unfold restP
  by_cases h : p.xs.length ≤ 1
  · rw [if_pos h]
    have : GoodP (P.map paP) := ⟨fun q hq => hg.ne q (List.mem_cons_of_mem _ hq), fun q hq => hg.so q (List.mem_cons_of_mem _ hq), by
      have := hg.nd
      rw [List.map_cons, List.map_cons, List.nodup_cons] at this
      exact this.2⟩
    exact this.perm ((lastF_perm P).map paP)
  · rw [if_neg h]
    refine ⟨fun q hq => ?_, fun q hq => ?_, ?_⟩
    · rcases List.mem_cons.1 hq with rfl | hq
      · show p.xs.tail.map evE ≠ []
        intro e
        have := congrArg List.length e
        simp at this
        omega
      · exact hg.ne q (List.mem_cons_of_mem _ hq)
    · rcases List.mem_cons.1 hq with rfl | hq
      · have h1 := hg.so (paP p) (List.mem_cons_self ..)
        show (keysE (p.xs.tail.map evE)).Pairwise ltK
        cases hx : p.xs with
        | nil => exact List.Pairwise.nil
        | cons x xs =>
          have h2 : (keysE ((x :: xs).map evE)).Pairwise ltK := by rw [← hx]; exact h1
          unfold keysE at h2 ⊢
          rw [List.map_cons, List.map_cons, List.pairwise_cons] at h2
          exact h2.2
      · exact hg.so q (List.mem_cons_of_mem _ hq)
    · exact hg.nd
theorem getD_lastF (P : List Pt) (i : Nat) (h0 : 0 < i) (hi : i < P.length) : (lastF P).getD i ptZ = P.getD (i - 1) ptZ := by
  rcases List.eq_nil_or_concat P with rfl | ⟨L, b, rfl⟩
  · simp at hi
  · simp only [List.concat_eq_append] at hi ⊢
    have e : lastF (L ++ [b]) = b :: L := by simp [lastF]
    rw [e]
    obtain ⟨j, rfl⟩ : ∃ j, i = j + 1 := ⟨i - 1, by omega⟩
    simp at hi
    simp [List.getD, hi, List.getElem?_append_left hi]
theorem rest_heap (p : Pt) (P : List Pt) (h : HQ lePt ptZ (p :: P) 0) : HQ lePt ptZ (restP p P) 1 := by
  unfold restP
  by_cases hc : p.xs.length ≤ 1
  · rw [if_pos hc]
    intro i h1 h2 h3
    have hl : (lastF P).length = P.length := (lastF_perm P).length_eq
    rw [hl] at h1
    rw [getD_lastF P i h2 h1, getD_lastF P ((i - 1) / 2) (by omega) (by omega)]
    have := h i (by simp; omega) h2 (Nat.zero_le _)
    obtain ⟨j, rfl⟩ : ∃ j, i = j + 1 := ⟨i - 1, by omega⟩
    obtain ⟨k, hk⟩ : ∃ k, (j + 1 - 1) / 2 = k + 1 := ⟨(j + 1 - 1) / 2 - 1, by omega⟩
    rw [hk] at this ⊢
    simpa [List.getD] using this
  · rw [if_neg hc]
    intro i h1 h2 h3
    have := h i (by simpa using h1) h2 (Nat.zero_le _)
    obtain ⟨j, rfl⟩ : ∃ j, i = j + 1 := ⟨i - 1, by omega⟩
    obtain ⟨k, hk⟩ : ∃ k, (j + 1 - 1) / 2 = k + 1 := ⟨(j + 1 - 1) / 2 - 1, by omega⟩
    rw [hk] at this ⊢
    simpa [List.getD] using this
theorem lePt_irrefl (x : Pt) : ¬ lePt x x := ltT_irrefl _
theorem nlePt_trans (x y c : Pt) (h1 : ¬ lePt y x) (h2 : ¬ lePt c y) : ¬ lePt c x := nltT_trans h1 h2
/-- The first part is the least one. -/
theorem HQ.first {p : Pt} {P : List Pt} (h : HQ lePt ptZ (p :: P) 0) : ∀ q ∈ P.map paP, ¬ ltP q (paP p) := by
  intro q hq
  obtain ⟨r, hr, rfl⟩ := List.mem_map.1 hq
  obtain ⟨i, hi, rfl⟩ := List.getElem_of_mem hr
  have := HQ.least h lePt_irrefl nlePt_trans (i + 1) (by simpa using hi)
  have h2 : ¬ lePt P[i] p := by simpa [List.getD, hi] using this
  exact h2
end Go.Proofs.YtgjcopabmdbenaaGreat

/- The contract of isRow. -/
namespace Go.Proofs.YtgjcopabmdbenaaGreat
open Go.RowKit

theorem keys_take (L : List En) (k : Nat) : keysE (L.take k) = (keysE L).take k := by unfold keysE; rw [List.map_take]
theorem pw_snoc {N : List Ks} {k : Nat} (hk : k < N.length) (h : (N.take k).Pairwise ltK) (hl : 0 < k → ltK (N[k - 1]'(by omega)) N[k]) : (N.take (k + 1)).Pairwise ltK := by
  rw [List.take_add_one, List.getElem?_eq_getElem hk]
  show (N.take k ++ [N[k]]).Pairwise ltK
  rw [List.pairwise_append]
  refine ⟨h, List.pairwise_singleton _ _, fun x hx y hy => ?_⟩
  obtain rfl : y = N[k] := by simpa using hy
  obtain ⟨i, hi, rfl⟩ := List.getElem_of_mem hx
  simp at hi
  rw [List.getElem_take]
  have h0 := hl (by omega)
  rcases Nat.lt_or_ge i (k - 1) with h1 | h1
  · have := List.pairwise_iff_getElem.1 h i (k - 1) (by simp; omega) (by simp; omega) h1
    rw [List.getElem_take, List.getElem_take] at this
    exact ltK_trans this h0
  · have e : i = k - 1 := by omega
    subst e; exact h0
def eF (L : List En) : Int := if L.all (fun x => rightB x.2) then 0 else 3
theorem rowF_bad {L : List En} {k : Nat} (hk : k < L.length) (h0 : 0 < k) (h : ¬ ltK (L[k - 1]'(by omega)).1 L[k].1) : rowF L = 50 := by
  unfold rowF
  rw [if_pos]
  intro hp
  have := List.pairwise_iff_getElem.1 hp (k - 1) k (by simp [keysE]; omega) (by simpa [keysE] using hk) (by omega)
  simp only [keysE, List.getElem_map] at this
  exact h this
theorem rowF_end {L : List En} (h : (keysE L).Pairwise ltK) : rowF L = eF L := by
  unfold rowF eF
  rw [if_neg (fun hn => hn h)]
theorem eF_snoc (L : List En) (x : En) : eF (L ++ [x]) = if rightB x.2 = true then eF L else 3 := by
  unfold eF
  have e : (L ++ [x]).all (fun x => rightB x.2) = (L.all (fun x => rightB x.2) && rightB x.2) := by simp
  rw [e]
  cases rightB x.2
  · simp
  · rw [Bool.and_true]; rfl
theorem eReads_at {w : World} {v : Value} {L : List En} (h : EReads w v L) {k : Nat} (hk : k < L.length) {b off : Nat} {cap n : Nat} (hv : v = .slice (some ⟨b, off, none⟩) n cap) : ∃ kv, (∀ i (hi : i < 7), w.cell? ⟨b, off + k * 7 + i, none⟩ = some ((c7 ⟨kv, L[k].1, L[k].2⟩)[i]'hi)) ∧ Reads w kv L[k].1 ∧ CnOk L[k].2 := by
  obtain ⟨a, cap', hv', h1, h2, h3⟩ := h
  rw [hv] at hv'
  simp at hv'
  obtain ⟨rfl, rfl, rfl⟩ := hv'
  rcases h3 with rfl | ⟨b', off', h4, h5, h6⟩
  · simp at hk
  · simp at h4
    obtain ⟨rfl, rfl⟩ := h4
    obtain ⟨kv, g1, g2, g3⟩ := h6 k hk
    exact ⟨kv, fun i hi => by rw [show off + k * 7 + i = off + (7 * k + i) by omega]; exact g1 i hi, g2, g3⟩
theorem eReads_some {w : World} {v : Value} {L : List En} (h : EReads w v L) (h0 : 0 < L.length) : ∃ b off cap, v = .slice (some ⟨b, off, none⟩) L.length cap ∧ b < w.heap.size := by
  obtain ⟨a, cap, rfl, h1, h2, h3⟩ := h
  rcases h3 with rfl | ⟨b, off, rfl, h5, h6⟩
  · simp at h0
  · exact ⟨b, off, cap, rfl, h5⟩
theorem eReads_cap {w : World} {a : Option Addr} {n cap : Nat} {L : List En} (h : EReads w (.slice a n cap) L) : n ≤ cap ∧ cap ≤ maxLen := by
  obtain ⟨a', cap', hv, h1, h2, _⟩ := h
  simp at hv
  obtain ⟨_, rfl, rfl⟩ := hv
  exact ⟨h1, h2⟩
end Go.Proofs.YtgjcopabmdbenaaGreat
