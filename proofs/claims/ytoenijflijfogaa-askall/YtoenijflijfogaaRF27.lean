/- FL19 FL20 FK1 AQR0 GAp, joined. -/
import Derived.Test.YtoenijflijfogaaRF3
import Derived.Test.YtoenijflijfogaaRF26
import Derived.Laws.AppendOwn
import Derived.Laws.AppendOwnNone
/- The contract of slices.symMergeCmpFunc of items: its third road (written by mkfl19.py). -/
namespace Go.Proofs.Ytoenijflijfogaa
open Go.RowKit Go.Shelf

end Go.Proofs.Ytoenijflijfogaa

/- The contract of slices.SortStableFunc of any number of items. -/
namespace Go.Proofs.Ytoenijflijfogaa
open Go.RowKit Go.Shelf

end Go.Proofs.Ytoenijflijfogaa

/- What is known of all that comes together: the pure half of FoldKeeps; the contract of law15's Many. -/
namespace Go.Proofs.Ytoenijflijfogaa
open Go.RowKit

/-- All that is known, from behind. -/
def smr (L : List En) : Ag := L.foldr (fun x a => mrg x.2 a) agZ
theorem smr_cons (x : En) (L : List En) : smr (x :: L) = mrg x.2 (smr L) := rfl
theorem smr_gd : ∀ {L : List En}, GdE L → Gd (smr L)
  | [], _ => Gd.zero
  | x :: L, h => by
    obtain ⟨h1, h2⟩ := GdE.cons.1 h
    exact h1.mrg (smr_gd h2)
theorem smr_ins {x : En} (hx : Gd x.2) : ∀ {L : List En}, GdE L → smr (ins x L) = mrg x.2 (smr L)
  | [], _ => rfl
  | y :: L, h => by
    obtain ⟨h1, h2⟩ := GdE.cons.1 h
    have hs := smr_gd h2
    rcases ltK_tri x.1 y.1 with q | q | q
    · rw [ins_lt q]; rfl
    · rw [ins_eq q, smr_cons, smr_cons]
      exact gd_assoc hx h1 hs
    · rw [ins_gt q, smr_cons, smr_cons, smr_ins hx h2, ← gd_assoc h1 hx hs, gd_comm h1 hx, gd_assoc hx h1 hs]
/-- All that is known, from the front: as a loop has it. -/
def sml (z : Ag) (L : List En) : Ag := L.foldl (fun a x => mrg a x.2) z
theorem sml_smr : ∀ {L : List En} {z : Ag}, Gd z → GdE L → sml z L = mrg z (smr L)
  | [], z, hz, _ => (gd_right hz).symm
  | x :: L, z, hz, h => by
    obtain ⟨h1, h2⟩ := GdE.cons.1 h
    show sml (mrg z x.2) L = _
    rw [sml_smr (hz.mrg h1) h2, smr_cons]
    exact gd_assoc hz h1 (smr_gd h2)
end Go.Proofs.Ytoenijflijfogaa

/- Layer 17: Rollup, plainly; a map of rows by their dimensions' bytes. -/
namespace Go.Proofs.Ytoenijflijfogaa
open Go.RowKit

/-- One dimension list stands ahead of another one. -/
def lj (a b : List ByteArray) : Prop := cmpL a b < 0
instance (a b : List ByteArray) : Decidable (lj a b) := inferInstanceAs (Decidable (_ < _))
theorem lj_iff {a b : List ByteArray} : lj a b ↔ Op.bytesLess (jn a) (jn b) = true := by
  unfold lj; rw [cmpL_less, decide_eq_true_iff]
theorem lj_irr (a : List ByteArray) : ¬ lj a a := by rw [lj_iff, less_irr]; simp
theorem lj_tr {a b c : List ByteArray} (h1 : lj a b) (h2 : lj b c) : lj a c := by
  rw [lj_iff] at *; exact less_tr _ _ _ h1 h2
theorem lj_tri (a b : List ByteArray) : lj a b ∨ a = b ∨ lj b a := by
  by_cases h : cmpL a b = 0
  · exact .inr (.inl ((cmpL_zero a b).1 h))
  · have h1 := jb_less a b [] []
    have h2 := jb_less b a [] []
    by_cases h3 : lj a b
    · exact .inl h3
    · refine .inr (.inr ?_)
      rw [lj_iff] at h3 ⊢
      cases h4 : Op.bytesLess (jn b) (jn a) with
      | true => rfl
      | false => exact absurd (less_tot _ _ (fun e => h ((cmpL_zero a b).2 (jn_inj e))) (by simpa using h3)) (by rw [h4]; simp)
theorem less_bb17 : ∀ a b : List UInt8, Op.bytesLess a b = Go.bytesBefore a b
  | [], [] => rfl
  | [], _ :: _ => rfl
  | _ :: _, [] => rfl
  | x :: a, y :: b => by
    have := less_bb17 a b
    simp only [Op.bytesLess, Go.bytesBefore, this]
theorem bb_lj (a b : List ByteArray) : Go.bytesBefore (jn a) (jn b) = decide (lj a b) := by
  rw [← less_bb17, cmpL_less]; rfl
/-- A row among others. -/
def insR (x : Rw) : List Rw → List Rw
  | [] => [x]
  | y :: L => if lj x.D y.D then x :: y :: L else if x.D = y.D then { x with a := mrg y.a x.a } :: L else y :: insR x L
def pR (m : Nat) (f t : Int) (x : Rw) : Rw := ⟨pt x.D m, f, (t - f).toNat, x.a⟩
def inR (f t : Int) (x : Rw) : Bool := decide (f ≤ x.f ∧ x.f < t)
/-- Rollup's rows. -/
def rollF (m : Nat) (f t : Int) (l : List Rw) : List Rw := (l.filter (inR f t)).foldl (fun L x => insR (pR m f t x) L) []
def SrtR (L : List Rw) : Prop := L.Pairwise fun a b => lj a.D b.D
theorem rollF_snoc (m : Nat) (f t : Int) (l : List Rw) (x : Rw) : rollF m f t (l ++ [x]) = if inR f t x = true then insR (pR m f t x) (rollF m f t l) else rollF m f t l := by
  unfold rollF
  rw [List.filter_append, List.foldl_append, List.filter_cons]
  split <;> rfl
theorem insR_mem {x y : Rw} : ∀ {L : List Rw}, y ∈ insR x L → y.D = x.D ∨ ∃ z ∈ L, y.D = z.D
  | [], h => by unfold insR at h; simp at h; exact .inl (by rw [h])
  | z :: L, h => by
    unfold insR at h
    split at h
    · rcases List.mem_cons.1 h with rfl | h
      · exact .inl rfl
      · exact .inr ⟨y, h, rfl⟩
    · split at h
      · rcases List.mem_cons.1 h with rfl | h
        · exact .inl rfl
        · exact .inr ⟨y, List.mem_cons_of_mem _ h, rfl⟩
      · rcases List.mem_cons.1 h with rfl | h
        · exact .inr ⟨y, List.mem_cons_self .., rfl⟩
        · rcases insR_mem h with h | ⟨u, hu, e⟩
          · exact .inl h
          · exact .inr ⟨u, List.mem_cons_of_mem _ hu, e⟩
theorem insR_srt {x : Rw} : ∀ {L : List Rw}, SrtR L → SrtR (insR x L)
  | [], _ => by unfold insR SrtR; simp
  | z :: L, h => by
    have h' := List.pairwise_cons.1 h
    unfold insR
    split
    · rename_i hl
      refine List.pairwise_cons.2 ⟨fun y hy => ?_, h⟩
      rcases List.mem_cons.1 hy with rfl | hy
      · exact hl
      · exact lj_tr hl (h'.1 y hy)
    · split
      · rename_i _ he
        refine List.pairwise_cons.2 ⟨fun y hy => ?_, h'.2⟩
        show lj x.D y.D
        rw [he]; exact h'.1 y hy
      · rename_i h1 h2
        refine List.pairwise_cons.2 ⟨fun y hy => ?_, insR_srt h'.2⟩
        rcases insR_mem hy with e | ⟨u, hu, e⟩
        · rw [e]; rcases lj_tri x.D z.D with q | q | q
          · exact absurd q h1
          · exact absurd q h2
          · exact q
        · rw [e]; exact h'.1 u hu
theorem rollF_srt (m : Nat) (f t : Int) (l : List Rw) : SrtR (rollF m f t l) := by
  unfold rollF
  have : ∀ (l L : List Rw), SrtR L → SrtR (l.foldl (fun L x => insR (pR m f t x) L) L) := by
    intro l
    induction l with
    | nil => intro L h; exact h
    | cons x l ih => intro L h; exact ih _ (insR_srt h)
  exact this _ _ List.Pairwise.nil
theorem insR_len (x : Rw) : ∀ L : List Rw, (insR x L).length ≤ L.length + 1
  | [] => by simp [insR]
  | z :: L => by
    have := insR_len x L
    unfold insR
    split
    · simp
    · split <;> simp <;> omega
theorem rollF_len (m : Nat) (f t : Int) (l : List Rw) : (rollF m f t l).length ≤ l.length := by
  unfold rollF
  have : ∀ (l L : List Rw), (l.foldl (fun L x => insR (pR m f t x) L) L).length ≤ L.length + l.length := by
    intro l
    induction l with
    | nil => intro L; simp
    | cons x l ih => intro L; have h1 := ih (insR (pR m f t x) L); have h2 := insR_len (pR m f t x) L; simp only [List.foldl_cons, List.length_cons] at *; omega
  have h := this (l.filter (inR f t)) []
  have h2 := List.length_filter_le (inR f t) l
  simp only [List.length_nil] at h
  omega
/-! rows in memory -/
def insI (x : It) : List It → List It
  | [] => [x]
  | y :: L => if lj x.D y.D then x :: y :: L else if x.D = y.D then { x with a := mrg y.a x.a } :: L else y :: insI x L
theorem itR_ins (x : It) : ∀ L : List It, (insI x L).map itR = insR (itR x) (L.map itR)
  | [] => rfl
  | y :: L => by
    have ih := itR_ins x L
    unfold insI insR
    rw [List.map_cons]
    show _ = if lj x.D y.D then _ else if x.D = y.D then _ else _
    by_cases h1 : lj x.D y.D
    · rw [if_pos h1, if_pos h1]; rfl
    · rw [if_neg h1, if_neg h1]
      by_cases h2 : x.D = y.D
      · rw [if_pos h2, if_pos h2]; rfl
      · rw [if_neg h2, if_neg h2, List.map_cons, ih]
theorem insI_all {p : It → Prop} {x : It} (hx : ∀ y, p y → p { x with a := mrg y.a x.a }) (hx0 : p x) : ∀ {L : List It}, (∀ y ∈ L, p y) → ∀ y ∈ insI x L, p y
  | [], _ => by intro y hy; simp [insI] at hy; rw [hy]; exact hx0
  | z :: L, h => by
    intro y hy
    have hL : ∀ y ∈ L, p y := fun y hy => h y (List.mem_cons_of_mem _ hy)
    unfold insI at hy
    split at hy
    · rcases List.mem_cons.1 hy with rfl | hy
      · exact hx0
      · exact h y hy
    · split at hy
      · rcases List.mem_cons.1 hy with rfl | hy
        · exact hx z (h z (List.mem_cons_self ..))
        · exact hL y hy
      · rcases List.mem_cons.1 hy with rfl | hy
        · exact h y (List.mem_cons_self ..)
        · exact insI_all hx hx0 hL y hy
/-- What is known of these dimensions so far. -/
def lookI (D : List ByteArray) (P : List It) : Option It := P.find? fun y => decide (y.D = D)
def aggI (D : List ByteArray) (P : List It) : Ag := match lookI D P with | some y => y.a | none => agZ
def v9 (y : It) : Value := .agg (c9 y).toArray
def kvI (y : It) : List UInt8 × Value := (jn y.D, v9 y)
def vlI (P : List It) : VL := P.map kvI
theorem vlook_I (D : List ByteArray) : ∀ P : List It, vLook (jn D) (vlI P) = (lookI D P).map v9
  | [] => rfl
  | y :: P => by
    have ih := vlook_I D P
    unfold vLook vlI lookI at ih ⊢
    rw [List.map_cons, List.find?_cons, List.find?_cons]
    by_cases h : y.D = D
    · have e1 : ((kvI y).1 == jn D) = true := by show (jn y.D == jn D) = true; rw [h]; simp
      rw [e1, decide_eq_true h]; rfl
    · have e1 : ((kvI y).1 == jn D) = false := by show (jn y.D == jn D) = false; simp; exact fun e => h (jn_inj e)
      rw [e1, decide_eq_false h]; exact ih
theorem vput_I {x : It} : ∀ {P : List It}, (P.map itR).Pairwise (fun a b => lj a.D b.D) → vPut (jn x.D, v9 { x with a := mrg (aggI x.D P) x.a }) (vlI P) = vlI (insI x P)
  | [], _ => by
    have e : mrg agZ x.a = x.a := by unfold mrg; rw [if_pos (show agZ.c = 0 from rfl)]
    show vPut (jn x.D, v9 { x with a := mrg agZ x.a }) [] = _
    rw [e]; rfl
  | z :: P, h => by
    have h' := List.pairwise_cons.1 (show ((itR z) :: P.map itR).Pairwise _ from h)
    have hgt : ∀ y ∈ P, lj z.D y.D := fun y hy => h'.1 (itR y) (List.mem_map_of_mem hy)
    have ih := vput_I (x := x) (P := P) h'.2
    have hne : ∀ {y : It}, y.D ≠ x.D → ((kvI y).1 == jn x.D) = false := fun {y} e => by
      show (jn y.D == jn x.D) = false; simp; exact fun e2 => e (jn_inj e2)
    unfold insI
    by_cases h1 : lj x.D z.D
    · rw [if_pos h1]
      have hall : ∀ y ∈ z :: P, y.D ≠ x.D := fun y hy e => by
        rcases List.mem_cons.1 hy with rfl | hy
        · rw [e] at h1; exact lj_irr _ h1
        · have := lj_tr h1 (hgt y hy); rw [e] at this; exact lj_irr _ this
      have hl : aggI x.D (z :: P) = agZ := by
        unfold aggI lookI
        rw [List.find?_eq_none.2 fun y hy => by simpa using hall y hy]
      rw [hl]
      have e : mrg agZ x.a = x.a := by unfold mrg; rw [if_pos (show agZ.c = 0 from rfl)]
      rw [e]
      unfold vPut
      rw [vDel_none (fun p hp => by
        obtain ⟨y, hy, rfl⟩ := List.mem_map.1 hp
        exact fun e2 => hall y hy (jn_inj e2))]
      show vIns _ (kvI z :: vlI P) = _
      unfold vIns
      have : Go.bytesBefore (jn x.D) (kvI z).1 = true := by show Go.bytesBefore (jn x.D) (jn z.D) = true; rw [bb_lj, decide_eq_true h1]
      rw [if_pos this]; rfl
    · rw [if_neg h1]
      have hnb : ¬ Go.bytesBefore (jn x.D) (kvI z).1 = true := by show ¬ Go.bytesBefore (jn x.D) (jn z.D) = true; rw [bb_lj]; simpa using h1
      by_cases h2 : x.D = z.D
      · rw [if_pos h2]
        have hl : aggI x.D (z :: P) = z.a := by unfold aggI lookI; rw [List.find?_cons, decide_eq_true h2.symm]
        rw [hl]
        unfold vPut vDel
        show vIns _ ((kvI z :: vlI P).filter _) = _
        have e1 : ((kvI z).1 == jn x.D) = true := by show (jn z.D == jn x.D) = true; rw [h2]; simp
        rw [List.filter_cons, show (!(kvI z).1 == jn x.D) = false by rw [e1]; rfl, if_neg (by simp)]
        have e2 : (vlI P).filter (fun p => !(p.1 == jn x.D)) = vlI P := vDel_none (fun p hp => by
          obtain ⟨y, hy, rfl⟩ := List.mem_map.1 hp
          intro e2
          have := hgt y hy
          rw [jn_inj e2, h2] at this; exact lj_irr _ this)
        rw [e2]
        cases P with
        | nil => rfl
        | cons y P =>
          show vIns _ (kvI y :: vlI P) = _
          unfold vIns
          have : Go.bytesBefore (jn x.D) (kvI y).1 = true := by
            show Go.bytesBefore (jn x.D) (jn y.D) = true
            rw [bb_lj, decide_eq_true (by rw [h2]; exact hgt y (List.mem_cons_self ..))]
          rw [if_pos this]; rfl
      · rw [if_neg h2]
        have hl : aggI x.D (z :: P) = aggI x.D P := by unfold aggI lookI; rw [List.find?_cons, decide_eq_false (fun e => h2 e.symm)]
        rw [hl]
        unfold vPut vDel at ih ⊢
        show vIns _ ((kvI z :: vlI P).filter _) = _
        rw [List.filter_cons, show (!(kvI z).1 == jn x.D) = true by rw [hne (fun e => h2 e.symm)]; rfl, if_pos rfl]
        show vIns _ (kvI z :: (vlI P).filter _) = kvI z :: vlI (insI x P)
        unfold vIns
        rw [if_neg hnb, ih]
end Go.Proofs.Ytoenijflijfogaa

/- Append to a row whose capacity may end ahead of its block, with where the new row lies; what a call touches, as a set of blocks. -/
namespace Go.Proofs.Ytoenijflijfogaa
open Go.RowKit

/-- Nothing that was there has turned but blocks of O. -/
structure Onl (O : Nat → Prop) (w w' : World) : Prop where
  os : w'.os = w.os
  tape : w'.tape = w.tape
  output : w'.output = w.output
  size : w.heap.size ≤ w'.heap.size
  block : ∀ k, k < w.heap.size → ¬ O k → w'.heap[k]? = w.heap[k]?
/-- O, and what is new. -/
def Grw (O : Nat → Prop) (w w' : World) (k : Nat) : Prop := O k ∨ (w.heap.size ≤ k ∧ k < w'.heap.size)
theorem Onl.refl (O : Nat → Prop) (w : World) : Onl O w w := ⟨rfl, rfl, rfl, Nat.le_refl _, fun _ _ _ => rfl⟩
theorem Onl.trans {O : Nat → Prop} {w w1 w2 : World} (h : Onl O w w1) (h' : Onl (Grw O w w1) w1 w2) : Onl O w w2 :=
  ⟨h'.os.trans h.os, h'.tape.trans h.tape, h'.output.trans h.output, Nat.le_trans h.size h'.size, fun k hk ho => (h'.block k (Nat.lt_of_lt_of_le hk h.size) (fun q => q.elim ho (fun r => by omega))).trans (h.block k hk ho)⟩
theorem Onl.mono {O O' : Nat → Prop} {w w' : World} (h : Onl O w w') (hO : ∀ k, O k → O' k) : Onl O' w w' := ⟨h.os, h.tape, h.output, h.size, fun k hk ho => h.block k hk (fun q => ho (hO k q))⟩
theorem Onl.then {O : Nat → Prop} {w w1 w2 : World} (h : Onl O w w1) (h' : Onl O w1 w2) : Onl O w w2 := h.trans (h'.mono fun _ q => .inl q)
theorem Onl.below {O : Nat → Prop} {w w' : World} {base : Nat} (h : Onl O w w') (hb : base ≤ w.heap.size) (hO : ∀ k, O k → base ≤ k) : Below base w w' := ⟨h.os, h.tape, h.output, h.size, fun k hk => h.block k (by omega) (fun q => by have := hO k q; omega)⟩
theorem onl_of_below {O : Nat → Prop} {w w' : World} (h : Below w.heap.size w w') : Onl O w w' := ⟨h.os, h.tape, h.output, h.size, fun k hk _ => h.block k hk⟩
theorem Grw.lt {O : Nat → Prop} {w w' : World} (h : ∀ k, O k → k < w.heap.size) (hs : w.heap.size ≤ w'.heap.size) : ∀ k, Grw O w w' k → k < w'.heap.size := fun k hk => hk.elim (fun q => Nat.lt_of_lt_of_le (h k q) hs) (fun q => q.2)
theorem Grw.trans {O : Nat → Prop} {w w1 w2 : World} (h1 : w.heap.size ≤ w1.heap.size) (h2 : w1.heap.size ≤ w2.heap.size) : ∀ k, Grw (Grw O w w1) w1 w2 k → Grw O w w2 k := fun k hk => by
  rcases hk with (q | q) | q
  · exact .inl q
  · exact .inr ⟨q.1, by omega⟩
  · exact .inr ⟨by omega, q.2⟩
theorem Onl.set {O : Nat → Prop} {w : World} {a : Addr} (h : O a.block) (v : Value) : Onl O w (w.setCell a v) := by
  have hb := (Below.refl 0 w).setCell (p := a) (Nat.zero_le _) v
  exact ⟨hb.os, hb.tape, hb.output, hb.size, fun k _ ho => Below.heap_setCell _ _ _ _ (fun e => ho (e ▸ h))⟩
theorem Onl.alloc {O : Nat → Prop} {w : World} (o : Obj) : Onl O w (w.alloc o) := onl_of_below ((Below.refl _ _).alloc (Nat.le_refl _) _)
theorem Onl.grown {O : Nat → Prop} {w w' : World} {row : Option Nat} (h : w.grownBy w' row) (hr : ∀ k, row = some k → O k) : Onl O w w' := ⟨h.os, h.tape, h.output, h.size, fun k hk ho => h.block k hk (fun e => ho (hr k e.symm))⟩
/-- A row of one's own, in a block that may go on behind its capacity. -/
def GOwn (w : World) (e : TypeId) (size : Nat) (v : Value) (n : Nat) (xs : List Value) : Prop :=
  xs.length = n * size ∧ ((v = .slice none 0 0 ∧ n = 0) ∨ ∃ g cap cur, v = .slice (some ⟨g, 0, none⟩) n cap ∧ w.heap[g]? = some (.cells cur e (0, 0)) ∧ n ≤ cap ∧ cap ≤ maxLen ∧ cap * size ≤ cur.size ∧ cur.toList.take (n * size) = xs)
theorem GOwn.nil (w : World) (e : TypeId) (size : Nat) : GOwn w e size (.slice none 0 0) 0 [] := ⟨by simp, .inl ⟨rfl, rfl⟩⟩
theorem GOwn.keep {w w' : World} {e : TypeId} {size : Nat} {v : Value} {n : Nat} {xs : List Value} (h : GOwn w e size v n xs) (hk : ∀ k, v.ownBlock = some k → w'.heap[k]? = w.heap[k]?) : GOwn w' e size v n xs := by
  refine ⟨h.1, ?_⟩
  rcases h.2 with h2 | ⟨g, cap, cur, rfl, h3, r⟩
  · exact .inl h2
  · exact .inr ⟨g, cap, cur, rfl, (hk g rfl).trans h3, r⟩
theorem GOwn.block {w : World} {e : TypeId} {size : Nat} {v : Value} {n : Nat} {xs : List Value} (h : GOwn w e size v n xs) {k : Nat} (hk : v.ownBlock = some k) : ∃ cur, w.heap[k]? = some (.cells cur e (0, 0)) := by
  rcases h.2 with ⟨rfl, _⟩ | ⟨g, cap, cur, rfl, h3, r⟩
  · simp [Value.ownBlock] at hk
  · obtain rfl : g = k := by simpa [Value.ownBlock] using hk
    exact ⟨cur, h3⟩
theorem GOwn.form {w : World} {e : TypeId} {size : Nat} {v : Value} {n : Nat} {xs : List Value} (h : GOwn w e size v n xs) : ∃ a cap, v = .slice a n cap ∧ n ≤ cap ∧ cap ≤ maxLen ∧ (∀ b, a = some b → b = ⟨b.block, 0, none⟩) ∧ (a = none → n = 0 ∧ cap = 0) := by
  rcases h.2 with ⟨rfl, rfl⟩ | ⟨g, cap, cur, rfl, h3, h4, h5, _⟩
  · exact ⟨none, 0, rfl, Nat.le_refl _, Nat.zero_le _, (fun b hb => by cases hb), (fun _ => ⟨rfl, rfl⟩)⟩
  · exact ⟨_, cap, rfl, h4, h5, fun b hb => by cases hb; rfl, fun hb => by cases hb⟩
theorem GOwn.cells {w : World} {e : TypeId} {size : Nat} {v : Value} {n : Nat} {xs : List Value} (h : GOwn w e size v n xs) {g : Nat} (hg : v.ownBlock = some g) : ∀ j u, xs[j]? = some u → w.cell? ((⟨g, 0, none⟩ : Addr).add j) = some u := by
  intro j u hj
  rcases h.2 with ⟨rfl, _⟩ | ⟨g', cap, cur, rfl, h3, h4, h5, h6, h7⟩
  · simp [Value.ownBlock] at hg
  · obtain rfl : g' = g := by simpa [Value.ownBlock] using hg
    have ea : (⟨g', 0, none⟩ : Addr).add j = ⟨g', j, none⟩ := by simp [Addr.add]; omega
    rw [ea]
    rw [← h7, List.getElem?_take] at hj
    split at hj
    · simp only [World.cell?, h3]
      rw [Array.getElem?_toList] at hj
      simpa using hj
    · cases hj
/-- Bytes: what the slice reads. -/
theorem gown_reads {w : World} {v : Value} {l : List UInt8} (h : GOwn w 5 1 v l.length (l.map bc)) : Reads w v l := by
  have hc := @GOwn.cells _ _ _ _ _ _ h
  rcases h.2 with ⟨rfl, h0⟩ | ⟨g, cap, cur, rfl, h3, h4, h5, h6, h7⟩
  · exact .inl ⟨List.length_eq_zero_iff.1 h0, none, 0, rfl, fun _ => rfl⟩
  · rcases Nat.eq_zero_or_pos l.length with h0 | h0
    · exact .inl ⟨List.length_eq_zero_iff.1 h0, _, cap, by rw [h0], fun q => by cases q⟩
    · refine .inr ⟨g, 0, cap, rfl, h0, h4, h5, (Array.getElem?_eq_some_iff.1 h3).1, fun j hj => ?_⟩
      have := hc (g := g) rfl j (bc l[j]) (by simp [hj])
      have ea : (⟨g, 0, none⟩ : Addr).add j = ⟨g, 0 + j, none⟩ := by simp [Addr.add]; omega
      rw [ea] at this
      exact this
/-- Where what is appended stands. -/
def GSrc (w : World) (size : Nat) (vx : Value) (m : Nat) (news : List Value) : Prop :=
  news.length = m * size ∧ ((vx = .slice none 0 0 ∧ m = 0) ∨ ∃ a c, vx = .slice (some a) m c ∧ ∀ j u, news[j]? = some u → w.cell? (a.add j) = some u)
theorem run_gapp {P : Program} {w : World} (t ty e : TypeId) (i : TypeInfo) (z : Value) (size bytes : Nat) (ht : P.underlying t = some (.slice e)) (hi : P.info? e = some i) (hz : i.zero = some z)
    (hsize : i.size = size) (hby : i.bytes = bytes) (hzs : z.cells.size = size)
    (v : Value) (n : Nat) (xs : List Value) (hown : GOwn w e size v n xs) (vx : Value) (m : Nat) (news : List Value) (hx : GSrc w size vx m news) (h1 : ∀ u ∈ news, u.oneCell' = true)
    (h63 : n + m ≤ maxLen) (hbytes : (n + m) * bytes ≤ 140737488355328) :
    ∃ v' w', (Builtin.append_ #[t, t] ty #[v, vx]).run P w = .ok v' w' ∧ GOwn w' e size v' (n + m) (xs ++ news) ∧ w.grownBy w' v.ownBlock ∧ (∀ k, v'.ownBlock = some k → v.ownBlock = some k ∨ (w.heap.size ≤ k ∧ k < w'.heap.size)) := by
  subst hsize
  subst hby
  have hsmall : n + m ≤ 9223372036854775807 := by simp only [maxLen] at h63; omega
  obtain ⟨hl, hx⟩ := hx
  have hlen : (xs ++ news).length = (n + m) * i.size := by rw [List.length_append, hown.1, hl, Nat.add_mul]
  have grown : ∀ (old : Nat), old < n + m → ∀ (row : Option Nat),
      GOwn (w.drew.alloc (.cells (xs.toArray ++ news.toArray ++ Builtin.zeroCells z.cells (grownCap w (n + m) old e - (n + m))) e)) e i.size
        (.slice (some ⟨w.heap.size, 0, none⟩) (n + m) (grownCap w (n + m) old e)) (n + m) (xs ++ news) ∧
      w.grownBy (w.drew.alloc (.cells (xs.toArray ++ news.toArray ++ Builtin.zeroCells z.cells (grownCap w (n + m) old e - (n + m))) e)) row := by
    intro old ho row
    have hge := grownCap_ge w (n + m) old e
    have hcm : grownCap w (n + m) old e ≤ maxLen := grownCap_le_maxLen w (n + m) old e h63
    refine ⟨⟨hlen, .inr ⟨w.heap.size, _, _, rfl, heap_alloc_new w.drew _, hge, hcm, ?_, ?_⟩⟩, ⟨rfl, rfl, rfl, by simp, fun k hk _ => Below.heap_alloc w.drew _ k hk⟩⟩
    · simp only [Array.size_append, List.size_toArray, size_zeroCells, hzs, hown.1, hl, ← Nat.add_mul]
      exact Nat.mul_le_mul_right _ (by omega)
    · simp only [Array.toList_append, List.append_assoc]
      rw [← List.append_assoc, ← hlen]
      exact List.take_left
  rcases hx with ⟨rfl, rfl⟩ | ⟨a, c, rfl, hnews⟩
  · have hn : news = [] := List.eq_nil_of_length_eq_zero (by simpa using hl)
    subst hn
    rw [Nat.add_zero, List.append_nil]
    refine ⟨v, w, ?_, hown, ⟨rfl, rfl, rfl, Nat.le_refl _, fun _ _ _ => rfl⟩, fun k hk => .inl hk⟩
    rcases hown.2 with ⟨rfl, rfl⟩ | ⟨g, cap, cur, rfl, hg, hnc, hcm, hcs, htake⟩
    · simp [Builtin.append_, run_underlying ht, sizeOf, typeInfo, hi, Builtin.lenOf, Builtin.firstCells]
    · have hst := run_storeCells_at P g (n * i.size) e [] 0 cur w hg (by have := Nat.mul_le_mul_right i.size hnc; simp; omega) (by simp)
      simp only [Nat.add_zero] at hst
      simp [Builtin.append_, run_underlying ht, sizeOf, typeInfo, hi, Builtin.lenOf, hnc, Builtin.firstCells, storeCells]
  · rcases hown.2 with ⟨rfl, rfl⟩ | ⟨g, cap, cur, rfl, hg, hnc, hcm, hcs, htake⟩
    · have hxn : xs = [] := List.eq_nil_of_length_eq_zero (by simpa using hown.1)
      subst hxn
      by_cases hm : m = 0
      · subst hm
        have hn : news = [] := List.eq_nil_of_length_eq_zero (by simpa using hl)
        subst hn
        refine ⟨.slice none 0 0, w, ?_, hown, ⟨rfl, rfl, rfl, Nat.le_refl _, fun _ _ _ => rfl⟩, fun k hk => by simp [Value.ownBlock] at hk⟩
        simp [Builtin.append_, run_underlying ht, sizeOf, typeInfo, hi, Builtin.lenOf, Builtin.firstCells, loadCells, loadCellsFrom]
      · have hr := run_append_nil (P := P) w t ty e i z ht hi hz a m c news hl hnews (by omega) (by omega) (by have hb := hbytes; simp only [Nat.zero_add] at hb; omega)
        have hgr := grown 0 (by omega) (Value.ownBlock (.slice none 0 0))
        simp only [Nat.zero_add, List.nil_append, Array.empty_append] at hgr ⊢
        exact ⟨_, _, hr, hgr.1, hgr.2, fun k hk => .inr (by simp [Value.ownBlock] at hk; simp; omega)⟩
    · by_cases hroom : n + m ≤ cap
      · have hfit : n * i.size + news.length ≤ cur.size := by rw [hl, ← Nat.add_mul]; exact Nat.le_trans (Nat.mul_le_mul_right _ hroom) hcs
        have hr := run_append_room (P := P) w t ty e i ht hi g n cap cur hg a m c news hl hnews h1 hroom hfit
        refine ⟨_, _, hr, ⟨hlen, .inr ⟨g, cap, _, rfl, setRow_heap w g cur _ e _ hg, hroom, hcm, ?_, ?_⟩⟩, ⟨rfl, rfl, rfl, by simp, fun k _ hk => setRow_other w g k _ (fun e => hk (by simp [Value.ownBlock, e]))⟩, fun k hk => .inl hk⟩
        · simp only [List.size_toArray, List.length_append, List.length_take, List.length_drop, Array.length_toList]
          omega
        · rw [htake, ← hlen]
          exact List.take_left
      · have holds : ∀ j u, xs[j]? = some u → w.cell? ((⟨g, 0, none⟩ : Addr).add j) = some u := hown.cells (g := g) rfl
        have hr := run_append_grow (P := P) w t ty e i z ht hi hz ⟨g, 0, none⟩ n cap xs hown.1 holds a m c news hl hnews (by omega) (by omega) (growslice_fits (by omega) hbytes)
        have hgr := grown cap (by omega) (Value.ownBlock (.slice (some ⟨g, 0, none⟩) n cap))
        exact ⟨_, _, hr, hgr.1, hgr.2, fun k hk => .inr (by simp [Value.ownBlock] at hk; simp; omega)⟩
/-- Bytes. -/
def BOwn (w : World) (v : Value) (l : List UInt8) : Prop := GOwn w 5 1 v l.length (l.map bc)
theorem BOwn.reads {w : World} {v : Value} {l : List UInt8} (h : BOwn w v l) : Reads w v l := gown_reads h
end Go.Proofs.Ytoenijflijfogaa
