/- The document's file system in memory: files, directories, what is pending, its plan. -/
import Derived.Test.YtijablmejjepaaaRG4
import Derived.Test.YtijablmejjepaaaRG6
import Derived.Test.YtijablmejjepaaaRG7
namespace Go.Proofs.Ytijablmejjepaaa
open Go.RowKit Go.Maps Go.Sort

/-- An act's cells. -/
def acV (a : SfA) : List Value := [.string ⟨a.gone.toArray⟩, .string ⟨a.name.toArray⟩, .int .i64 (rfN a.file)]
/-- The files' places. -/
def flP (fb : Nat → Nat) (n : Nat) : List Value := (List.range n).map fun i => .pointer (some ⟨fb i, 0, none⟩)
/-- Files: each in a block of its own: what is synced of its bytes, and the others. -/
structure RfFl (w : World) (O : Nat → Prop) (fb : Nat → Nat) (va vb : Nat → Value) (fls : List (List UInt8 × Nat)) : Prop where
  ob : ∀ i, i < fls.length → O (fb i)
  nd : ∀ i j, i < fls.length → j < fls.length → fb i = fb j → i = j
  hf : ∀ i f, fls[i]? = some f → w.heap[fb i]? = some (.cells #[va i, vb i] 79)
  ha : ∀ i f, fls[i]? = some f → BOwn w (va i) (f.1.take f.2)
  hb : ∀ i f, fls[i]? = some f → BOwn w (vb i) (f.1.drop f.2)
  oa : ∀ i, i < fls.length → ∀ k, (va i).ownBlock = some k → O k
  ov : ∀ i, i < fls.length → ∀ k, (vb i).ownBlock = some k → O k
  nv : ∀ i j, i < fls.length → j < fls.length → ∀ k, (vb i).ownBlock = some k → ((vb j).ownBlock = some k → i = j) ∧ (va j).ownBlock ≠ some k
/-- The plan: how many calls are still good, or -1. -/
def RfPl (s : SfS) (af ee : Int) : Prop := (s.fault = 0 ∧ af = -1) ∨ (s.fault ≠ 0 ∧ af = s.left ∧ ee = s.fault ∧ 0 ≤ s.left)
structure RfAt (w : World) (O : Nat → Prop) (g : Nat) (vf vd vo vp : Value) (af ee : Int) (fb : Nat → Nat) (va vb : Nat → Value) (s : SfS) : Prop where
  lt : ∀ k, O k → k < w.heap.size
  og : O g
  c : RfC w g s.room vf vd vo vp af ee
  pl : RfPl s af ee
  nf : GOwn w 77 1 vf s.fls.length (flP fb s.fls.length)
  hd : NOwn w vd s.dir
  ho : NOwn w vo s.old
  hp : GOwn w 82 3 vp s.pend.length (s.pend.flatMap acV)
  of : ∀ k, vf.ownBlock = some k → O k
  od : ∀ k, vd.ownBlock = some k → O k
  oo : ∀ k, vo.ownBlock = some k → O k
  op : ∀ k, vp.ownBlock = some k → O k
  fl : RfFl w O fb va vb s.fls
theorem RfFl.keep {w w' : World} {O O' : Nat → Prop} {fb : Nat → Nat} {va vb : Nat → Value} {fls : List (List UInt8 × Nat)} (h : RfFl w O fb va vb fls) (hO : ∀ k, O k → O' k)
    (hk : ∀ k (cur : Array Value) (T : TypeId), O k → w.heap[k]? = some (.cells cur T (0, 0)) → T = 79 ∨ T = 5 → w'.heap[k]? = w.heap[k]?) : RfFl w' O' fb va vb fls := by
  refine ⟨fun i hi => hO _ (h.ob i hi), h.nd, fun i f hf => ?_, fun i f hf => ?_, fun i f hf => ?_, fun i hi k hk' => hO _ (h.oa i hi k hk'), fun i hi k hk' => hO _ (h.ov i hi k hk'), h.nv⟩
  · have hi := (List.getElem?_eq_some_iff.1 hf).1
    exact (hk _ _ _ (h.ob i hi) (h.hf i f hf) (.inl rfl)).trans (h.hf i f hf)
  · have hi := (List.getElem?_eq_some_iff.1 hf).1
    refine (h.ha i f hf).keep fun k hk' => ?_
    obtain ⟨cur, hc⟩ := (h.ha i f hf).block hk'
    exact hk k cur _ (h.oa i hi k hk') hc (.inr rfl)
  · have hi := (List.getElem?_eq_some_iff.1 hf).1
    refine (h.hb i f hf).keep fun k hk' => ?_
    obtain ⟨cur, hc⟩ := (h.hb i f hf).block hk'
    exact hk k cur _ (h.ov i hi k hk') hc (.inr rfl)
/-- All its blocks stand. -/
theorem RfAt.keep {w w' : World} {O : Nat → Prop} {g : Nat} {vf vd vo vp : Value} {af ee : Int} {fb : Nat → Nat} {va vb : Nat → Value} {s : SfS} (h : RfAt w O g vf vd vo vp af ee fb va vb s) (hk : ∀ k, O k → w'.heap[k]? = w.heap[k]?) (hs : w.heap.size ≤ w'.heap.size) : RfAt w' O g vf vd vo vp af ee fb va vb s :=
  ⟨fun k hk' => Nat.lt_of_lt_of_le (h.lt k hk') hs, h.og, (hk _ h.og).trans h.c, h.pl, h.nf.keep (fun k hk' => hk k (h.of k hk')), GOwn.keep h.hd (fun k hk' => hk k (h.od k hk')), GOwn.keep h.ho (fun k hk' => hk k (h.oo k hk')), h.hp.keep (fun k hk' => hk k (h.op k hk')), h.of, h.od, h.oo, h.op, h.fl.keep (fun _ q => q) (fun k _ _ ho _ _ => hk k ho)⟩
theorem RfAt.wider {w : World} {O O' : Nat → Prop} {g : Nat} {vf vd vo vp : Value} {af ee : Int} {fb : Nat → Nat} {va vb : Nat → Value} {s : SfS} (h : RfAt w O g vf vd vo vp af ee fb va vb s) (hO : ∀ k, O k → O' k) (hl : ∀ k, O' k → k < w.heap.size) : RfAt w O' g vf vd vo vp af ee fb va vb s :=
  ⟨hl, hO _ h.og, h.c, h.pl, h.nf, h.hd, h.ho, h.hp, fun k hk => hO k (h.of k hk), fun k hk => hO k (h.od k hk), fun k hk => hO k (h.oo k hk), fun k hk => hO k (h.op k hk), h.fl.keep hO (fun _ _ _ _ _ _ => rfl)⟩
/-- Its own cells, its directories and what is pending are written; files stand. -/
theorem RfAt.re {w w' : World} {O O' : Nat → Prop} {g : Nat} {vf vd vo vp : Value} {af ee : Int} {fb : Nat → Nat} {va vb : Nat → Value} {s : SfS} (h : RfAt w O g vf vd vo vp af ee fb va vb s) (hO : ∀ k, O k → O' k) (hl : ∀ k, O' k → k < w'.heap.size)
    (hk : ∀ k, O k → k ≠ g → some k ≠ vp.ownBlock → w'.heap[k]? = w.heap[k]?) {vd' vo' vp' : Value} {af' ee' : Int} {D P : List (List UInt8 × Nat)} {A : List SfA} {L F : Int}
    (hc : RfC w' g s.room vf vd' vo' vp' af' ee') (hpl : RfPl { s with dir := D, old := P, pend := A, left := L, fault := F } af' ee') (hd : NOwn w' vd' D) (ho : NOwn w' vo' P) (hp : GOwn w' 82 3 vp' A.length (A.flatMap acV))
    (od : ∀ k, vd'.ownBlock = some k → O' k) (oo : ∀ k, vo'.ownBlock = some k → O' k) (op : ∀ k, vp'.ownBlock = some k → O' k) :
    RfAt w' O' g vf vd' vo' vp' af' ee' fb va vb { s with dir := D, old := P, pend := A, left := L, fault := F } := by
  have hpn : ∀ {k : Nat} {cur : Array Value} {T : TypeId} {fr : Nat × Nat}, w.heap[k]? = some (.cells cur T fr) → T ≠ 82 → some k ≠ vp.ownBlock := by
    intro k cur T fr hc hT e
    obtain ⟨c, hc'⟩ := h.hp.block e.symm
    rw [hc] at hc'
    simp at hc'
    exact hT hc'.2.1
  refine ⟨hl, hO _ h.og, hc, hpl, h.nf.keep fun k hk' => ?_, hd, ho, hp, fun k q => hO k (h.of k q), od, oo, op, h.fl.keep hO fun k cur T ho hc hT => ?_⟩
  · obtain ⟨cur, hc'⟩ := h.nf.block hk'
    exact hk k (h.of k hk') (ty_ne hc' h.c (by decide)) (hpn hc' (by decide))
  · refine hk k ho (ty_ne hc h.c ?_) (hpn hc ?_)
    · rcases hT with rfl | rfl <;> decide
    · rcases hT with rfl | rfl <;> decide
/-- The cells of a file system. -/
theorem RfAt.c1 {w : World} {O : Nat → Prop} {g : Nat} {vf vd vo vp : Value} {af ee : Int} {fb : Nat → Nat} {va vb : Nat → Value} {s : SfS} (h : RfAt w O g vf vd vo vp af ee fb va vb s) : w.cell? ⟨g, 1, none⟩ = some vf ∧ w.cell? ⟨g, 2, none⟩ = some vd ∧ w.cell? ⟨g, 3, none⟩ = some vo ∧ w.cell? ⟨g, 4, none⟩ = some vp ∧ w.cell? ⟨g, 0, none⟩ = some (.int .i64 s.room) :=
  ⟨cell_of h.c 1 _ rfl, cell_of h.c 2 _ rfl, cell_of h.c 3 _ rfl, cell_of h.c 4 _ rfl, cell_of h.c 0 _ rfl⟩
/-- A file's place in the row of files, its own two cells, its bytes. -/
theorem RfAt.file {w : World} {O : Nat → Prop} {g : Nat} {vf vd vo vp : Value} {af ee : Int} {fb : Nat → Nat} {va vb : Nat → Value} {s : SfS} (h : RfAt w O g vf vd vo vp af ee fb va vb s) {i : Nat} (hi : i < s.fls.length) :
    ∃ q cap, vf = .slice (some ⟨q, 0, none⟩) s.fls.length cap ∧ q < w.heap.size ∧ w.cell? ⟨q, i, none⟩ = some (.pointer (some ⟨fb i, 0, none⟩)) ∧ w.cell? ⟨fb i, 0, none⟩ = some (va i) ∧ w.cell? ⟨fb i, 1, none⟩ = some (vb i) ∧ fb i < w.heap.size ∧ BOwn w (va i) ((s.fl i).1.take (s.fl i).2) ∧ BOwn w (vb i) ((s.fl i).1.drop (s.fl i).2) := by
  have hfi : s.fls[i]? = some (s.fl i) := by unfold SfS.fl; rw [List.getD_eq_getElem?_getD, List.getElem?_eq_getElem hi]; rfl
  obtain ⟨a, cap, rfl, hc1, hc2, hc3, hc4⟩ := GOwn.form h.nf
  cases a with
  | none => have := (hc4 rfl).1; omega
  | some q =>
    obtain ⟨q, rfl⟩ : ∃ b : Nat, q = ⟨b, 0, none⟩ := ⟨_, hc3 q rfl⟩
    have hcell := GOwn.cells h.nf (g := q) rfl i (.pointer (some ⟨fb i, 0, none⟩)) (by unfold flP; rw [List.getElem?_map, List.getElem?_range hi]; rfl)
    have ea : (⟨q, 0, none⟩ : Addr).add i = ⟨q, i, none⟩ := by simp [Addr.add]; omega
    rw [ea] at hcell
    have hb := h.fl.hf i _ hfi
    exact ⟨q, cap, rfl, h.lt q (h.of q rfl), hcell, cell_of hb 0 _ rfl, cell_of hb 1 _ rfl, (Array.getElem?_eq_some_iff.1 hb).1, h.fl.ha i _ hfi, h.fl.hb i _ hfi⟩
/-- The document's file system, wherever it lies. -/
def Rf (w : World) (O : Nat → Prop) (p : Value) (s : SfS) : Prop := SfWf s ∧ ∃ g vf vd vo vp af ee fb va vb, p = .pointer (some ⟨g, 0, none⟩) ∧ RfAt w O g vf vd vo vp af ee fb va vb s
theorem Rf.lt {w : World} {O : Nat → Prop} {p : Value} {s : SfS} (h : Rf w O p s) : ∀ k, O k → k < w.heap.size := by
  obtain ⟨_, _, _, _, _, _, _, _, _, _, _, _, h⟩ := h
  exact h.lt
theorem Rf.keep {w w' : World} {O : Nat → Prop} {p : Value} {s : SfS} (h : Rf w O p s) (hk : ∀ k, O k → w'.heap[k]? = w.heap[k]?) (hs : w.heap.size ≤ w'.heap.size) : Rf w' O p s := by
  obtain ⟨h1, g, vf, vd, vo, vp, af, ee, fb, va, vb, rfl, h2⟩ := h
  exact ⟨h1, g, vf, vd, vo, vp, af, ee, fb, va, vb, rfl, h2.keep hk hs⟩
theorem Rf.below {w w' : World} {O : Nat → Prop} {p : Value} {s : SfS} (h : Rf w O p s) (hb : Below w.heap.size w w') : Rf w' O p s := h.keep (fun k hk => hb.block k (h.lt k hk)) hb.size
theorem Rf.wider {w : World} {O O' : Nat → Prop} {p : Value} {s : SfS} (h : Rf w O p s) (hO : ∀ k, O k → O' k) (hl : ∀ k, O' k → k < w.heap.size) : Rf w O' p s := by
  obtain ⟨h1, g, vf, vd, vo, vp, af, ee, fb, va, vb, rfl, h2⟩ := h
  exact ⟨h1, g, vf, vd, vo, vp, af, ee, fb, va, vb, rfl, h2.wider hO hl⟩
theorem Rf.other {w w' : World} {O O' : Nat → Prop} {p : Value} {s : SfS} (h : Rf w O p s) (ho : Onl O' w w') (hd : ∀ k, O k → ¬ O' k) : Rf w' O p s := h.keep (fun k hk => ho.block k (h.lt k hk) (hd k hk)) ho.size
/-- What a call tells and does. -/
def RfR (w : World) (O : Nat → Prop) (p : Value) (r : Int × SfS) (e : Ending) (w' : World) : Prop := e = .returned (.int .i64 r.1) ∧ Rf w' (Grw O w w') p r.2 ∧ Onl O w w'
end Go.Proofs.Ytijablmejjepaaa
