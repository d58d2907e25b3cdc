/- SF1 MF4 MF5 MF6 MF7, joined. -/
import Derived.Test.YtilbffgpniomcaaGreatDoorQQ1
import Derived.Test.YtilbffgpniomcaaGreatDoorQQ2
/- A file system in memory. -/
namespace Go.Proofs.YtilbffgpniomcaaGreatDoor
open Go.RowKit Go.Maps

/-- Files: each in a block of its own, its bytes in another one. -/
structure SfFl (w : World) (O : Nat → Prop) (bl : Nat → Nat) (vs : Nat → Value) (fls : List (List UInt8 × Nat)) : Prop where
  ob : ∀ i, i < fls.length → O (bl i)
  nd : ∀ i j, i < fls.length → j < fls.length → bl i = bl j → i = j
  hf : ∀ i f, fls[i]? = some f → w.heap[bl i]? = some (.cells #[vs i, .int .i64 (f.2 : Int)] 81)
  hb : ∀ i f, fls[i]? = some f → BOwn w (vs i) f.1
  ov : ∀ i, i < fls.length → ∀ k, (vs i).ownBlock = some k → O k
  nv : ∀ i j, i < fls.length → j < fls.length → ∀ k, (vs i).ownBlock = some k → (vs j).ownBlock = some k → i = j
/-- An act's cells. -/
def sfAv (bl : Nat → Nat) (a : SfA) : List Value := [.string ⟨a.gone.toArray⟩, .string ⟨a.name.toArray⟩, sfPv bl a.file]
structure FsAt (w : World) (O : Nat → Prop) (g m1 m2 : Nat) (pv : Value) (bl : Nat → Nat) (vs : Nat → Value) (s : SfS) : Prop where
  lt : ∀ k, O k → k < w.heap.size
  og : O g
  o1 : O m1
  o2 : O m2
  ne : m1 ≠ m2
  hg : w.heap[g]? = some (.cells #[.int .i64 s.room, .map (some m1), .map (some m2), pv, .int .i64 s.left, .int .i64 s.fault] 76)
  h1 : SfMap w m1 bl s.dir
  h2 : SfMap w m2 bl s.old
  hp : GOwn w 83 3 pv s.pend.length (s.pend.flatMap (sfAv bl))
  op : ∀ k, pv.ownBlock = some k → O k
  fl : SfFl w O bl vs s.fls
theorem ty_ne {w : World} {a b : Nat} {x y : Array Value} {T U : TypeId} {f f' : Nat × Nat} (ha : w.heap[a]? = some (.cells x T f)) (hb : w.heap[b]? = some (.cells y U f')) (h : T ≠ U) : a ≠ b := by
  intro e; subst e; rw [ha] at hb; simp at hb; exact h hb.2.1
theorem map_ne {w : World} {a b : Nat} {x : Array Value} {T : TypeId} {f : Nat × Nat} {es : Array MapEntry} {c : Nat} (ha : w.heap[a]? = some (.cells x T f)) (hb : w.heap[b]? = some (.map es c)) : a ≠ b := by
  intro e; subst e; rw [ha] at hb; cases hb
theorem SfFl.keep {w w' : World} {O O' : Nat → Prop} {bl : Nat → Nat} {vs : Nat → Value} {fls : List (List UInt8 × Nat)} (h : SfFl w O bl vs fls) (hO : ∀ k, O k → O' k)
    (hk : ∀ k (cur : Array Value) (T : TypeId), O k → w.heap[k]? = some (.cells cur T (0, 0)) → T = 81 ∨ T = 5 → w'.heap[k]? = w.heap[k]?) : SfFl w' O' bl vs fls := by
  refine ⟨fun i hi => hO _ (h.ob i hi), h.nd, fun i f hf => ?_, fun i f hf => ?_, fun i hi k hk' => hO _ (h.ov i hi k hk'), h.nv⟩
  · have hi := (List.getElem?_eq_some_iff.1 hf).1
    exact (hk _ _ _ (h.ob i hi) (h.hf i f hf) (.inl rfl)).trans (h.hf i f hf)
  · have hi := (List.getElem?_eq_some_iff.1 hf).1
    refine (h.hb i f hf).keep fun k hk' => ?_
    obtain ⟨cur, hc⟩ := (h.hb i f hf).block hk'
    exact hk k cur _ (h.ov i hi k hk') hc (.inr rfl)
/-- All its blocks stand. -/
theorem FsAt.keep {w w' : World} {O : Nat → Prop} {g m1 m2 : Nat} {pv : Value} {bl : Nat → Nat} {vs : Nat → Value} {s : SfS} (h : FsAt w O g m1 m2 pv bl vs s) (hk : ∀ k, O k → w'.heap[k]? = w.heap[k]?) (hs : w.heap.size ≤ w'.heap.size) : FsAt w' O g m1 m2 pv bl vs s :=
  ⟨fun k hk' => Nat.lt_of_lt_of_le (h.lt k hk') hs, h.og, h.o1, h.o2, h.ne, (hk _ h.og).trans h.hg, h.h1.keep (hk _ h.o1), h.h2.keep (hk _ h.o2), h.hp.keep (fun k hk' => hk k (h.op k hk')), h.op, h.fl.keep (fun _ q => q) (fun k _ _ ho _ _ => hk k ho)⟩
theorem FsAt.wider {w : World} {O O' : Nat → Prop} {g m1 m2 : Nat} {pv : Value} {bl : Nat → Nat} {vs : Nat → Value} {s : SfS} (h : FsAt w O g m1 m2 pv bl vs s) (hO : ∀ k, O k → O' k) (hl : ∀ k, O' k → k < w.heap.size) : FsAt w O' g m1 m2 pv bl vs s :=
  ⟨hl, hO _ h.og, hO _ h.o1, hO _ h.o2, h.ne, h.hg, h.h1, h.h2, h.hp, fun k hk => hO k (h.op k hk), h.fl.keep hO (fun _ _ _ _ _ _ => rfl)⟩
theorem FsAt.pvT {w : World} {O : Nat → Prop} {g m1 m2 : Nat} {pv : Value} {bl : Nat → Nat} {vs : Nat → Value} {s : SfS} (h : FsAt w O g m1 m2 pv bl vs s) {k : Nat} (hk : pv.ownBlock = some k) : ∃ cur, w.heap[k]? = some (.cells cur 83 (0, 0)) := h.hp.block hk
/-- The block of the struct is written. -/
theorem FsAt.setG {w w' : World} {O O' : Nat → Prop} {g m1 m2 : Nat} {pv : Value} {bl : Nat → Nat} {vs : Nat → Value} {s : SfS} (h : FsAt w O g m1 m2 pv bl vs s) (hO : ∀ k, O k → O' k) (hl : ∀ k, O' k → k < w'.heap.size)
    (hk : ∀ k, O k → k ≠ g → some k ≠ pv.ownBlock → w'.heap[k]? = w.heap[k]?) {pv' : Value} {P : List SfA} {L F : Int}
    (hg : w'.heap[g]? = some (.cells #[.int .i64 s.room, .map (some m1), .map (some m2), pv', .int .i64 L, .int .i64 F] 76))
    (hp : GOwn w' 83 3 pv' P.length (P.flatMap (sfAv bl))) (op : ∀ k, pv'.ownBlock = some k → O' k) : FsAt w' O' g m1 m2 pv' bl vs { s with pend := P, left := L, fault := F } := by
  have hpn : ∀ {k : Nat} {cur : Array Value} {T : TypeId} {fr : Nat × Nat}, w.heap[k]? = some (.cells cur T fr) → T ≠ 83 → some k ≠ pv.ownBlock := by
    intro k cur T fr hc hT e
    obtain ⟨c, hc'⟩ := h.pvT e.symm
    rw [hc] at hc'
    simp at hc'
    exact hT hc'.2.1
  have hmn : ∀ {k : Nat} {es : Array MapEntry} {c : Nat}, w.heap[k]? = some (.map es c) → some k ≠ pv.ownBlock := by
    intro k es c hc e
    obtain ⟨c', hc'⟩ := h.pvT e.symm
    rw [hc] at hc'
    cases hc'
  obtain ⟨e1, c1, q1⟩ := h.h1.isMap
  obtain ⟨e2, c2, q2⟩ := h.h2.isMap
  refine ⟨hl, hO _ h.og, hO _ h.o1, hO _ h.o2, h.ne, hg, h.h1.keep (hk _ h.o1 (map_ne h.hg q1).symm (hmn q1)), h.h2.keep (hk _ h.o2 (map_ne h.hg q2).symm (hmn q2)), hp, op, h.fl.keep hO fun k cur T ho hc hT => ?_⟩
  refine hk k ho (ty_ne hc h.hg ?_) (hpn hc ?_)
  · rcases hT with rfl | rfl <;> decide
  · rcases hT with rfl | rfl <;> decide
/-- The directory is written. -/
theorem FsAt.set1 {w w' : World} {O : Nat → Prop} {g m1 m2 : Nat} {pv : Value} {bl : Nat → Nat} {vs : Nat → Value} {s : SfS} (h : FsAt w O g m1 m2 pv bl vs s) (hs : w.heap.size ≤ w'.heap.size)
    (hk : ∀ k, O k → k ≠ m1 → w'.heap[k]? = w.heap[k]?) {l : List (List UInt8 × Nat)} (hm : SfMap w' m1 bl l) : FsAt w' O g m1 m2 pv bl vs { s with dir := l } := by
  obtain ⟨e1, c1, q1⟩ := h.h1.isMap
  refine ⟨fun k hk' => Nat.lt_of_lt_of_le (h.lt k hk') hs, h.og, h.o1, h.o2, h.ne, (hk _ h.og (map_ne h.hg q1)).trans h.hg, hm, h.h2.keep (hk _ h.o2 h.ne.symm), h.hp.keep fun k hk' => ?_, h.op, h.fl.keep (fun _ q => q) fun k cur T ho hc _ => hk k ho (map_ne hc q1)⟩
  obtain ⟨cur, hc⟩ := h.pvT hk'
  exact hk k (h.op k hk') (map_ne hc q1)
theorem FsAt.set2 {w w' : World} {O : Nat → Prop} {g m1 m2 : Nat} {pv : Value} {bl : Nat → Nat} {vs : Nat → Value} {s : SfS} (h : FsAt w O g m1 m2 pv bl vs s) (hs : w.heap.size ≤ w'.heap.size)
    (hk : ∀ k, O k → k ≠ m2 → w'.heap[k]? = w.heap[k]?) {l : List (List UInt8 × Nat)} (hm : SfMap w' m2 bl l) : FsAt w' O g m1 m2 pv bl vs { s with old := l } := by
  obtain ⟨e1, c1, q1⟩ := h.h2.isMap
  refine ⟨fun k hk' => Nat.lt_of_lt_of_le (h.lt k hk') hs, h.og, h.o1, h.o2, h.ne, (hk _ h.og (map_ne h.hg q1)).trans h.hg, h.h1.keep (hk _ h.o1 h.ne), hm, h.hp.keep fun k hk' => ?_, h.op, h.fl.keep (fun _ q => q) fun k cur T ho hc _ => hk k ho (map_ne hc q1)⟩
  obtain ⟨cur, hc⟩ := h.pvT hk'
  exact hk k (h.op k hk') (map_ne hc q1)
def updF {α : Type} (f : Nat → α) (i : Nat) (x : α) (j : Nat) : α := if j = i then x else f j
theorem updF_same {α : Type} (f : Nat → α) (i : Nat) (x : α) : updF f i x i = x := by simp [updF]
theorem updF_ne {α : Type} (f : Nat → α) {i j : Nat} (x : α) (h : j ≠ i) : updF f i x j = f j := by simp [updF, h]
def SfS.setF (s : SfS) (i : Nat) (f : List UInt8 × Nat) : SfS := { s with fls := s.fls.set i f }
/-- A file is written. -/
theorem FsAt.setI {w w' : World} {O O' : Nat → Prop} {g m1 m2 : Nat} {pv : Value} {bl : Nat → Nat} {vs : Nat → Value} {s : SfS} (h : FsAt w O g m1 m2 pv bl vs s) (hO : ∀ k, O k → O' k) (hl : ∀ k, O' k → k < w'.heap.size) {i : Nat} (hi : i < s.fls.length)
    (hk : ∀ k, O k → k ≠ bl i → some k ≠ (vs i).ownBlock → w'.heap[k]? = w.heap[k]?) {v : Value} {f : List UInt8 × Nat} (hf : w'.heap[bl i]? = some (.cells #[v, .int .i64 (f.2 : Int)] 81)) (hb : BOwn w' v f.1)
    (hv : ∀ k, v.ownBlock = some k → (vs i).ownBlock = some k ∨ (w.heap.size ≤ k ∧ O' k)) : FsAt w' O' g m1 m2 pv bl (updF vs i v) (s.setF i f) := by
  have hfi := h.fl.hf i _ (List.getElem?_eq_getElem hi)
  have hbi := h.fl.hb i _ (List.getElem?_eq_getElem hi)
  have hvn : ∀ {k : Nat} {cur : Array Value} {T : TypeId} {fr : Nat × Nat}, w.heap[k]? = some (.cells cur T fr) → T ≠ 5 → some k ≠ (vs i).ownBlock := by
    intro k cur T fr hc hT e
    obtain ⟨c, hc'⟩ := hbi.block e.symm
    rw [hc] at hc'
    simp at hc'
    exact hT hc'.2.1
  have hmn : ∀ {k : Nat} {es : Array MapEntry} {c : Nat}, w.heap[k]? = some (.map es c) → some k ≠ (vs i).ownBlock := by
    intro k es c hc e
    obtain ⟨c', hc'⟩ := hbi.block e.symm
    rw [hc] at hc'
    cases hc'
  obtain ⟨e1, c1, q1⟩ := h.h1.isMap
  obtain ⟨e2, c2, q2⟩ := h.h2.isMap
  have hvo : ∀ k, v.ownBlock = some k → O' k := fun k hk' => (hv k hk').elim (fun q => hO _ (h.fl.ov i hi k q)) (fun q => q.2)
  have hlen : (s.setF i f).fls.length = s.fls.length := by simp [SfS.setF]
  refine ⟨hl, hO _ h.og, hO _ h.o1, hO _ h.o2, h.ne, (hk _ h.og (ty_ne h.hg hfi (by decide)) (hvn h.hg (by decide))).trans h.hg, h.h1.keep (hk _ h.o1 (map_ne hfi q1).symm (hmn q1)), h.h2.keep (hk _ h.o2 (map_ne hfi q2).symm (hmn q2)), h.hp.keep fun k hk' => ?_, fun k hk' => hO k (h.op k hk'), ?_⟩
  · obtain ⟨cur, hc⟩ := h.pvT hk'
    exact hk k (h.op k hk') (ty_ne hc hfi (by decide)) (hvn hc (by decide))
  · refine ⟨fun j hj => hO _ (h.fl.ob j (hlen ▸ hj)), fun a b ha hb' => h.fl.nd a b (hlen ▸ ha) (hlen ▸ hb'), fun j fj hj => ?_, fun j fj hj => ?_, fun j hj k hk' => ?_, fun a b ha hb' k hk1 hk2 => ?_⟩
    · by_cases e : j = i
      · subst e
        have : fj = f := by simp [SfS.setF, hi] at hj; exact hj.symm
        subst this
        rw [updF_same]; exact hf
      · have hj' : s.fls[j]? = some fj := by simpa [SfS.setF, List.getElem?_set, Ne.symm e] using hj
        have hjl := (List.getElem?_eq_some_iff.1 hj').1
        rw [updF_ne _ _ e]
        have h0 := h.fl.hf j fj hj'
        exact (hk _ (h.fl.ob j hjl) (fun q => e (h.fl.nd j i hjl hi q)) (hvn h0 (by decide))).trans h0
    · by_cases e : j = i
      · subst e
        have : fj = f := by simp [SfS.setF, hi] at hj; exact hj.symm
        subst this
        rw [updF_same]; exact hb
      · have hj' : s.fls[j]? = some fj := by simpa [SfS.setF, List.getElem?_set, Ne.symm e] using hj
        have hjl := (List.getElem?_eq_some_iff.1 hj').1
        rw [updF_ne _ _ e]
        refine (h.fl.hb j fj hj').keep fun k hk' => ?_
        obtain ⟨cur, hc⟩ := (h.fl.hb j fj hj').block hk'
        exact hk k (h.fl.ov j hjl k hk') (ty_ne hc hfi (by decide)) (fun q => e (h.fl.nv j i hjl hi k hk' q.symm))
    · by_cases e : j = i
      · subst e; rw [updF_same] at hk'; exact hvo k hk'
      · rw [updF_ne _ _ e] at hk'; exact hO _ (h.fl.ov j (hlen ▸ hj) k hk')
    · have hal : a < s.fls.length := hlen ▸ ha
      have hbl : b < s.fls.length := hlen ▸ hb'
      have hx : ∀ a, a < s.fls.length → a ≠ i → (vs a).ownBlock = some k → v.ownBlock = some k → False := fun a ha' ea h1 h2 => by
        rcases hv k h2 with q | ⟨q, _⟩
        · exact ea (h.fl.nv a i ha' hi k h1 q)
        · have := h.lt k (h.fl.ov a ha' k h1); omega
      by_cases ea : a = i
      · by_cases eb : b = i
        · omega
        · subst ea
          rw [updF_same] at hk1
          rw [updF_ne _ _ eb] at hk2
          exact (hx b hbl eb hk2 hk1).elim
      · rw [updF_ne _ _ ea] at hk1
        by_cases eb : b = i
        · subst eb
          rw [updF_same] at hk2
          exact (hx a hal ea hk1 hk2).elim
        · rw [updF_ne _ _ eb] at hk2
          exact h.fl.nv a b hal hbl k hk1 hk2
end Go.Proofs.YtilbffgpniomcaaGreatDoor

/- manifest: Read's own 'next'. -/
namespace Go.Proofs.YtilbffgpniomcaaGreatDoor
open Go.RowKit

/-- The two boxes that it keeps. -/
def Bx (R D : Nat) (k : Nat) : Prop := k = R ∨ k = D
structure NxI (w : World) (O : Nat → Prop) (R D : Nat) (q : Bool × List UInt8) : Prop where
  r : ∃ v, w.heap[R]? = some (.cells #[v] 22) ∧ ∀ w', Onl O w w' → Reads w' v q.2
  d : w.heap[D]? = some (.cells #[.bool q.1] 4)
  ne : R ≠ D
  oR : O R
  oD : O D
theorem NxI.on {w w' : World} {O : Nat → Prop} {R D : Nat} {q : Bool × List UInt8} (h : NxI w O R D q) (ho : Onl O w w') (hR : w'.heap[R]? = w.heap[R]?) (hD : w'.heap[D]? = w.heap[D]?) : NxI w' O R D q := by
  obtain ⟨v, h1, h2⟩ := h.r
  exact ⟨⟨v, hR.trans h1, fun w2 ho2 => h2 w2 (ho.then ho2)⟩, hD.trans h.d, h.ne, h.oR, h.oD⟩
theorem NxI.below {w w' : World} {O : Nat → Prop} {R D : Nat} {q : Bool × List UInt8} (h : NxI w O R D q) (hb : Below w.heap.size w w') : NxI w' O R D q := by
  obtain ⟨v, h1, h2⟩ := h.r
  exact h.on (onl_of_below hb) (hb.block _ (Array.getElem?_eq_some_iff.1 h1).1) (hb.block _ (Array.getElem?_eq_some_iff.1 h.d).1)
theorem Bx.mono {w w' : World} {O : Nat → Prop} {R D : Nat} (h : Onl (Bx R D) w w') (hR : O R) (hD : O D) : Onl O w w' := h.mono fun k q => by
  rcases q with rfl | rfl
  · exact hR
  · exact hD
theorem cellB {w : World} {b : Nat} {v : Value} {T : TypeId} (h : w.heap[b]? = some (.cells #[v] T)) : w.cell? ⟨b, 0, none⟩ = some v ∧ w.frozen? ⟨b, 0, none⟩ = false := by simp [World.cell?, World.frozen?, h]
theorem setB {w : World} {b : Nat} {v u : Value} {T : TypeId} (h : w.heap[b]? = some (.cells #[v] T)) : (w.setCell ⟨b, 0, none⟩ u).heap[b]? = some (.cells #[u] T) := by
  rw [heap_setCell_same w b 0 #[v] T u h]; rfl
theorem rs_fits (b : List UInt8) : (rsF b 0 0).2.2 = 0 → (rsF b 0 0).2.1 ≤ b.length ∧ (rsF b 0 0).1 < 18446744073709551616 := fun h0 => by
  obtain ⟨u, k, g1, g2, g3, g4, g5, g6, g7⟩ := rsF_ok b 0 0 (rsF b 0 0).1 (rsF b 0 0).2.1 (by rw [← h0]) (by omega) (by simp)
  exact ⟨by omega, g7⟩
set_option maxRecDepth 100000 in
set_option maxHeartbeats 1000000 in
theorem next1_any (most : Nat) (hmo : most ≤ 9223372036854775807) (O : Nat → Prop) (R D : Nat) (q : Bool × List UInt8) (w : World) (h : NxI w O R D q) :
    Calls Tryz.prog 97 #[.int .u64 (most : Int), .pointer (some ⟨R, 0, none⟩), .pointer (some ⟨D, 0, none⟩)] w fun e w' => e = .returned (.int .i64 (stp most q).1) ∧ NxI w' O R D (stp most q).2 ∧ Onl (Bx R D) w w' := by
  obtain ⟨v, hR, hv⟩ := h.r
  have HH : Hid (NxI w O R D q) := h
  have HV : Hid (∀ w', Onl O w w' → Reads w' v q.2) := hv
  have hrd := hv w (Onl.refl _ _)
  obtain ⟨a, cap, rfl, hm⟩ := hrd.form
  have HC : Hid (Calls Tryz.prog 70 #[.slice a q.2.length cap] w fun e w' => e = .returned (.tuple #[.int .u64 (rsF q.2 0 0).1, .int .i64 (rsF q.2 0 0).2.1, .int .i64 (rsF q.2 0 0).2.2]) ∧ Below w.heap.size w w') := readShort_any _ q.2 w hrd
  have HRb : Hid (w.heap[R]? = some (.cells #[.slice a q.2.length cap] 22)) := hR
  have HDb : Hid (w.heap[D]? = some (.cells #[.bool q.1] 4)) := h.d
  have hne := h.ne
  have hoR := h.oR
  have hoD := h.oD
  obtain ⟨c0, f0⟩ := cellB hR
  have hft := rs_fits q.2
  have HS : Hid (stp most q = if (rsF q.2 0 0).2.2 ≠ 0 ∨ most < (rsF q.2 0 0).1 then (0, (true, q.2)) else (((rsF q.2 0 0).1 : Int), (q.1, q.2.drop (rsF q.2 0 0).2.1))) := by
    unfold Hid stp nxN
    by_cases c : (rsF q.2 0 0).2.2 ≠ 0 ∨ most < (rsF q.2 0 0).1
    · rw [if_pos c, if_pos c]
    · rw [if_neg c, if_neg c]
  obtain ⟨V, N, E, HT⟩ : ∃ V N E, Hid (rsF q.2 0 0 = (V, N, E)) := ⟨_, _, _, rfl⟩
  rw [HT.out] at HC HS hft
  simp only at HC HS hft
  clear h hv hR hrd HT
  go_enter Tryz.func97, Tryz.ntmps97
  go_wp2_with fail
  refine HC.out.mono ?_
  rintro e w1 ⟨rfl, hb1⟩
  have HB1 : Hid (Below w.heap.size w w1) := hb1
  have HR1 : Hid (w1.heap[R]? = some (.cells #[.slice a q.2.length cap] 22)) := (hb1.block _ (Array.getElem?_eq_some_iff.1 HRb.out).1).trans HRb.out
  have HD1 : Hid (w1.heap[D]? = some (.cells #[.bool q.1] 4)) := (hb1.block _ (Array.getElem?_eq_some_iff.1 HDb.out).1).trans HDb.out
  clear hb1 c0 f0
  obtain ⟨c0, f0⟩ := cellB HR1.out
  obtain ⟨d0, g0⟩ := cellB HD1.out
  by_cases hE : E = 0
  · subst hE
    obtain ⟨hN, hV⟩ := hft rfl
    by_cases hV2 : (most : Int) < (V : Int)
    · have HS2 : Hid (stp most q = (0, (true, q.2))) := by unfold Hid; rw [HS.out, if_pos (.inr (by omega))]
      clear HS hft
      go_wp2_with fail
      go_ret
      have hon : Onl (Bx R D) w (w1.setCell ⟨D, 0, none⟩ (.bool true)) := (onl_of_below HB1.out).then (Onl.set (a := ⟨D, 0, none⟩) (.inr rfl) _)
      refine ⟨by rw [HS2.out]; rfl, ?_, hon⟩
      rw [HS2.out]
      exact ⟨⟨_, (Go.heap_setCell_other _ _ _ _ hne).trans HR1.out, fun w2 ho => HV.out w2 ((Bx.mono hon hoR hoD).then ho)⟩, setB HD1.out, hne, hoR, hoD⟩
    · have HS2 : Hid (stp most q = ((V : Int), (q.1, q.2.drop N))) := by unfold Hid; rw [HS.out, if_neg (by simp; omega)]
      obtain ⟨a', cap', hsl, _⟩ := sl_from (HV.out w (Onl.refl _ _)) hN
      have HSl : Hid (∀ w', Onl O w w' → Reads w' (.slice a' (q.2.length - N) cap') (q.2.drop N)) := fun w' ho => by
        obtain ⟨a2, cap2, hsl2, hr2⟩ := sl_from (HV.out w' ho) hN
        have e := (hsl w').symm.trans (hsl2 w')
        simp only [Result.ok.injEq, Value.slice.injEq, true_and, and_true] at e
        obtain ⟨rfl, rfl⟩ := e
        exact hr2
      clear HS hft
      have hwr : IntKind.i64.wrap (V : Int) = (V : Int) := by simp [IntKind.wrap, IntKind.bits, IntKind.signed]; omega
      go_wp2_with fail
      go_ret
      have hon : Onl (Bx R D) w (w1.setCell ⟨R, 0, none⟩ (.slice a' (q.2.length - N) cap')) := (onl_of_below HB1.out).then (Onl.set (a := ⟨R, 0, none⟩) (.inl rfl) _)
      refine ⟨by rw [HS2.out]; rfl, ?_, hon⟩
      rw [HS2.out]
      exact ⟨⟨_, setB HR1.out, fun w2 ho => HSl.out w2 ((Bx.mono hon hoR hoD).then ho)⟩, (Go.heap_setCell_other _ _ _ _ (fun e => hne e.symm)).trans HD1.out, hne, hoR, hoD⟩
  · have hE' : (E != 0) = true := by simpa using hE
    have HS2 : Hid (stp most q = (0, (true, q.2))) := by unfold Hid; rw [HS.out, if_pos (.inl hE)]
    clear HS hft
    go_wp2_with fail
    go_ret
    have hon : Onl (Bx R D) w (w1.setCell ⟨D, 0, none⟩ (.bool true)) := (onl_of_below HB1.out).then (Onl.set (a := ⟨D, 0, none⟩) (.inr rfl) _)
    refine ⟨by rw [HS2.out]; rfl, ?_, hon⟩
    rw [HS2.out]
    exact ⟨⟨_, (Go.heap_setCell_other _ _ _ _ hne).trans HR1.out, fun w2 ho => HV.out w2 ((Bx.mono hon hoR hoD).then ho)⟩, setB HD1.out, hne, hoR, hoD⟩
end Go.Proofs.YtilbffgpniomcaaGreatDoor

/- manifest: Read's own 'number'. -/
namespace Go.Proofs.YtilbffgpniomcaaGreatDoor
open Go.RowKit

/-- The value of 'next'. -/
def nxV (R D : Nat) : Value := .func (.func 97) #[] #[.pointer (some ⟨R, 0, none⟩), .pointer (some ⟨D, 0, none⟩)]
set_option maxRecDepth 100000 in
set_option maxHeartbeats 1000000 in
theorem number2_any (O : Nat → Prop) (P R D : Nat) (T : TypeId) (q : Bool × List UInt8) (w : World) (h : NxI w O R D q) (hP : w.heap[P]? = some (.cells #[nxV R D] T)) :
    Calls Tryz.prog 98 #[.pointer (some ⟨P, 0, none⟩)] w fun e w' => e = .returned (.int .i64 (stp big q).1) ∧ NxI w' O R D (stp big q).2 ∧ Onl (Bx R D) w w' := by
  have HC : Hid (Calls Tryz.prog 97 #[.int .u64 9223372036854775807, .pointer (some ⟨R, 0, none⟩), .pointer (some ⟨D, 0, none⟩)] w fun e w' => e = .returned (.int .i64 (stp big q).1) ∧ NxI w' O R D (stp big q).2 ∧ Onl (Bx R D) w w') := next1_any big (by decide) O R D q w h
  obtain ⟨c0, f0⟩ := cellB hP
  obtain ⟨S, HS⟩ := hid_ex (stp big q)
  rw [← HS.out] at HC ⊢
  unfold nxV at c0
  clear h hP HS
  go_enter Tryz.func98, Tryz.ntmps98
  go_wp2_with fail
  refine HC.out.mono ?_
  rintro e w1 ⟨rfl, h1, h2⟩
  have H1 : Hid (NxI w1 O R D S.2) := h1
  have H2 : Hid (Onl (Bx R D) w w1) := h2
  clear h1 h2 c0 f0
  go_wp2_with fail
  go_ret
  exact ⟨rfl, H1.out, H2.out⟩
end Go.Proofs.YtilbffgpniomcaaGreatDoor

/- manifest: numbers in a row, and their bytes. -/
namespace Go.Proofs.YtilbffgpniomcaaGreatDoor
open Go.RowKit

/-- A slice of numbers. -/
def JR (w : World) (v : Value) (l : List Int) : Prop := ∃ a cap, v = .slice a l.length cap ∧ l.length ≤ maxLen ∧ ∀ j (hj : j < l.length), ∃ b off, a = some ⟨b, off, none⟩ ∧ b < w.heap.size ∧ w.cell? ⟨b, off + j, none⟩ = some (.int .i64 l[j])
theorem JR.form {w : World} {v : Value} {l : List Int} (h : JR w v l) : ∃ a cap, v = .slice a l.length cap ∧ l.length ≤ maxLen := by
  obtain ⟨a, cap, h1, h2, _⟩ := h
  exact ⟨a, cap, h1, h2⟩
theorem JR.below {w w' : World} {v : Value} {l : List Int} (h : JR w v l) (hb : Below w.heap.size w w') : JR w' v l := by
  obtain ⟨a, cap, h1, h2, h3⟩ := h
  refine ⟨a, cap, h1, h2, fun j hj => ?_⟩
  obtain ⟨b, off, q1, q2, q3⟩ := h3 j hj
  exact ⟨b, off, q1, Nat.lt_of_lt_of_le q2 hb.size, (hb.cell (p := ⟨b, off + j, none⟩) q2).trans q3⟩
theorem JR.at {w : World} {a : Option Addr} {n cap : Nat} {l : List Int} (h : JR w (.slice a n cap) l) {j : Nat} (hj : j < l.length) {x : Int} (hx : x = l[j]) : ∃ b off, a = some ⟨b, off, none⟩ ∧ b < w.heap.size ∧ w.cell? ⟨b, off + j, none⟩ = some (.int .i64 x) := by
  subst hx
  obtain ⟨a', cap', e, _, h3⟩ := h
  cases e
  exact h3 j hj
theorem shB_take {l : List Int} {j : Nat} (hj : j < l.length) {x : Int} (hx : x = l[j]) : shB (l.take (j + 1)) = shB (l.take j) ++ sh x.toNat := by
  rw [List.take_add_one, List.getElem?_eq_getElem hj, shB_app]
  subst hx
  simp [shB]
theorem sh_le10 : ∀ (k n : Nat), n < 128 ^ (k + 1) → (sh n).length ≤ k + 1
  | 0, n, h => by rw [sh_lo (by simpa using h)]; simp
  | k + 1, n, h => by
    rw [sh]
    split
    · simp
    · have := sh_le10 k (n / 128) (by rw [Nat.div_lt_iff_lt_mul (by decide)]; rw [Nat.pow_succ] at h; exact h)
      simp only [List.length_cons]; omega
theorem shB_len : ∀ (l : List Int), (∀ v ∈ l, 0 ≤ v ∧ v ≤ 9223372036854775807) → (shB l).length ≤ 10 * l.length
  | [], _ => by simp [shB]
  | v :: l, h => by
    have ih := shB_len l fun x hx => h x (List.mem_cons_of_mem _ hx)
    have hv := h v (List.mem_cons_self ..)
    have := sh_le10 9 v.toNat (by have : (128 : Nat) ^ (9 + 1) = 1180591620717411303424 := by decide
                                  omega)
    rw [shB_cons, List.length_append, List.length_cons]; omega
set_option maxRecDepth 100000 in
set_option maxHeartbeats 1000000 in
theorem short13_any (v : Value) (l : List Int) (hl : l.length ≤ 100000) (hb : ∀ x ∈ l, 0 ≤ x ∧ x ≤ 9223372036854775807) (w : World) (h : JR w v l) :
    Calls Tryz.prog 47 #[v] w fun e w' => ∃ v', e = .returned v' ∧ Own w' w.heap.size v' (shB l) ∧ Below w.heap.size w w' := by
  obtain ⟨a, cap, rfl, hm⟩ := h.form
  have HV : Hid (JR w (.slice a l.length cap) l) := h
  have HBn : Hid (∀ x ∈ l, 0 ≤ x ∧ x ≤ 9223372036854775807) := hb
  clear h hb
  go_enter Tryz.func47, Tryz.ntmps47
  go_wp2_with fail
  go_loopw [3, 8] (fun o i wr => ∃ j : Nat, i = .int .i64 (j : Int) ∧ j ≤ l.length ∧ Hid (Own wr w.heap.size o (shB (l.take j))) ∧ Hid (Below w.heap.size w wr)) (fun _ i _ => l.length - (intOf i).toNat)
  case atStart => exact ⟨0, rfl, by omega, Own.nil _ _, Below.refl _ _⟩
  case round =>
    obtain ⟨j, rfl, hj, HO, HB⟩ := hrel
    by_cases hlt : j < l.length
    · have hlt' : (j : Int) < (l.length : Int) := by omega
      obtain ⟨x, Hx⟩ := hid_ex l[j]
      obtain ⟨b, off, rfl, hbw, c0⟩ := (HV.out.below HB.out).at hlt Hx.out
      have hx := HBn.out x (by rw [Hx.out]; exact List.getElem_mem hlt)
      have HT : Hid (shB (l.take (j + 1)) = shB (l.take j) ++ sh x.toNat) := shB_take hlt Hx.out
      have hln : (shB (l.take j)).length ≤ 10 * l.length := by
        have h1 := shB_len (l.take j) fun y hy => HBn.out y (List.mem_of_mem_take hy)
        have h2 := List.length_take_le' j l
        omega
      have hl2 : (sh x.toNat).length ≤ 10 := sh_le10 9 x.toNat (by have : (128 : Nat) ^ (9 + 1) = 1180591620717411303424 := by decide
                                                                   omega)
      obtain ⟨n, rfl⟩ : ∃ n : Nat, x = (n : Int) := ⟨x.toNat, by omega⟩
      simp only [Int.toNat_natCast] at HT hl2
      have hwr : IntKind.u64.wrap (n : Int) = (n : Int) := by simp [IntKind.wrap, IntKind.bits, IntKind.signed]; omega
      obtain ⟨oa, oc, hov, _⟩ := HO.out.form
      obtain ⟨M, HM⟩ := hid_ex (shB (l.take j))
      rw [← HM.out] at HO hov hln HT
      subst hov
      clear HM
      go_wp2_with fail
      refine (short_any n (by omega) _).mono ?_
      rintro e w2 ⟨sv, rfl, hs, hb2⟩
      have HO2 : Hid (Own w2 w.heap.size (.slice oa M.length oc) M) := HO.out.below hb2
      have HSr : Hid (Reads w2 sv (sh n)) := Own.reads hs
      have HB2 : Hid (Below w.heap.size w w2) := HB.out.trans (hb2.mono HB.out.size)
      obtain ⟨sa, sc, hsv, _⟩ := HSr.out.form
      subst hsv
      clear hs hb2
      go_wp2_with (at_builtin; refine wpList_app rfl _ _ rfl w.heap.size _ _ M (sh n) _ rfl rfl rfl HO2.out HSr.out (by omega) HB2.out.size ?_; intro v3 w3 ho3 hb3; have HO3 : Hid (Own w3 w.heap.size v3 (shB (l.take (j + 1)))) := (by unfold Hid; rw [HT.out]; exact ho3); have HB3 : Hid (Below w.heap.size w w3) := HB2.out.trans hb3.out; clear ho3 hb3)
      go_roundw
      case rel => exact ⟨j + 1, by go_num, by omega, HO3, HB3⟩
      case measure => simp [intOf]; omega
    · have hlt' : ¬ (j : Int) < (l.length : Int) := by omega
      have HE : Hid (Own wr w.heap.size u3 (shB l)) := by
        have := HO.out
        rwa [List.take_of_length_le (by omega)] at this
      go_wp2_with fail
      go_ret
      exact ⟨_, rfl, HE.out, HB.out⟩
end Go.Proofs.YtilbffgpniomcaaGreatDoor

/- manifest: slices.Min of numbers. -/
namespace Go.Proofs.YtilbffgpniomcaaGreatDoor
open Go.RowKit

theorem okN_snoc {l : List Int} {j : Nat} (hj : j < l.length) {x : Int} (hx : x = l[j]) : okN (l.take (j + 1)) = (okN (l.take j) && decide (0 ≤ x)) := by
  unfold okN
  rw [List.take_add_one, List.getElem?_eq_getElem hj, List.all_append]
  subst hx
  simp
set_option maxRecDepth 100000 in
set_option maxHeartbeats 1000000 in
theorem min13_any (v : Value) (l : List Int) (h0 : 0 < l.length) (w : World) (h : JR w v l) :
    Calls Tryz.prog 66 #[v] w fun e w' => ∃ m : Int, e = .returned (.int .i64 m) ∧ decide (0 ≤ m) = okN l ∧ w' = w := by
  obtain ⟨a, cap, rfl, hm⟩ := h.form
  unfold maxLen at hm
  have HV : Hid (JR w (.slice a l.length cap) l) := h
  obtain ⟨x0, Hx0⟩ := hid_ex l[0]
  obtain ⟨b, off, rfl, hbw, c0⟩ := h.at h0 Hx0.out
  have hn1 : ¬ (l.length : Int) < 1 := by omega
  have hn0 : (0 : Int) < (l.length : Int) := by omega
  have HO1 : Hid (decide (0 ≤ x0) = okN (l.take 1)) := by
    unfold Hid
    have := okN_snoc (l := l) (j := 0) h0 Hx0.out
    rw [this]; simp [okN]
  rw [Nat.add_zero] at c0
  clear h
  go_enter Tryz.func66, Tryz.ntmps66
  go_wp2_with fail
  go_loopw [3, 4] (fun m i wr => ∃ (j : Nat) (mm : Int), m = .int .i64 mm ∧ i = .int .i64 (j : Int) ∧ j ≤ l.length ∧ Hid (decide (0 ≤ mm) = okN (l.take j)) ∧ wr = w) (fun _ i _ => l.length - (intOf i).toNat)
  case atStart => exact ⟨1, x0, rfl, rfl, by omega, HO1, rfl⟩
  case round =>
    obtain ⟨j, mm, rfl, rfl, hj, HO, rfl⟩ := hrel
    by_cases hlt : j < l.length
    · have hlt' : (j : Int) < (l.length : Int) := by omega
      obtain ⟨x, Hx⟩ := hid_ex l[j]
      obtain ⟨b2, off2, e2, _, c1⟩ := HV.out.at hlt Hx.out
      simp only [Option.some.injEq, Addr.mk.injEq] at e2
      obtain ⟨rfl, rfl, _⟩ := e2
      have HT : Hid (okN (l.take (j + 1)) = (decide (0 ≤ mm) && decide (0 ≤ x))) := by unfold Hid; rw [okN_snoc hlt Hx.out, HO.out]
      go_wp2_with fail
      go_roundw
      case rel => exact ⟨j + 1, _, rfl, by go_num, by omega, by unfold Hid; rw [HT.out, ← Bool.decide_and]; congr 1; apply propext; omega, trivial⟩
      case measure => simp [intOf]; omega
    · have hlt' : ¬ (j : Int) < (l.length : Int) := by omega
      have HE : Hid (decide (0 ≤ mm) = okN l) := by
        have := HO.out
        rwa [List.take_of_length_le (by omega)] at this
      go_wp2_with fail
      go_ret
      exact ⟨_, rfl, HE.out, rfl⟩
end Go.Proofs.YtilbffgpniomcaaGreatDoor
