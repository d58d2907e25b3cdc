/- FL15 FL16 R1g OR FA0, joined. -/
import Derived.Test.YthicmbjiblbcmaaGreatTQ15
import Derived.Test.YthicmbjiblbcmaaGreatTQ27
import Derived.BigQuiet
import Derived.Deep.QuietTactic
import Derived.Test.YthicmbjiblbcmaaGreatRows
import Derived.WalkKit
import Derived.ProofKit
import Derived.OpenShut
import Derived.Lib.SmallJoins
import Derived.Deep.SlicePairs
/- The contract of fold.Facts. -/
namespace Go.Proofs.YthicmbjiblbcmaaGreat
open Go.RowKit Go.Shelf

theorem take_fa {fs : List Fa} {R : Rl} {k : Nat} (hk : k < fs.length) : ((fs.take (k + 1)).map (fcI R)).flatMap c9 = ((fs.take k).map (fcI R)).flatMap c9 ++ c9 (fcI R fs[k]) := by
  rw [List.take_add_one, List.getElem?_eq_getElem hk, List.map_append, List.flatMap_append]
  simp
theorem FcI.snoc {R : Rl} {w w1 : World} {fs : List Fa} {k : Nat} {v v' : Value} {wr W : World} {o : Obj} (h : FcI R w w1 fs k v wr) (hk : k < fs.length) (hm : mayF fs[k] = true) (hown : W.ownsRow w1.heap.size 75 9 v' (k + 1) (((fs.take k).map (fcI R)).flatMap c9 ++ c9 (fcI R fs[k]))) (hg : (wr.alloc o).grownBy W v.ownBlock) : FcI R w w1 fs (k + 1) v' W := by
  refine ⟨by rw [take_fa hk]; exact hown, fun j hj hjk => ?_, ?_⟩
  · rcases Nat.lt_or_ge j k with h1 | h1
    · exact h.m j hj h1
    · have : j = k := by omega
      subst this; exact hm
  · exact (h.b.alloc h.b.size o).grown hg (by have := h.b.size; simp; omega) (fun t ht => (World.ownsRow.lt h.r t ht).1)
end Go.Proofs.YthicmbjiblbcmaaGreat

/- The contract of law15's Rules and alive. -/
namespace Go.Proofs.YthicmbjiblbcmaaGreat
open Go.RowKit Go.Shelf

def sz15 : Nat → Int | 0 => 1 | _ => 10
def ag15 : Nat → Int | 0 => 0 | _ => 20
def rl15 (b : Nat) : Rl := ⟨some ⟨b, 0, none⟩, 2, 2, sz15, ag15, 100⟩
theorem right15 (b : Nat) : RightP (rl15 b) := by
  refine ⟨by show (1 : Nat) ≤ 2; omega, by show (2 : Nat) ≤ 4; omega, rfl, fun i hi => ?_, by show (20 : Int) ≤ 100; decide, by show (100 : Int) ≤ 2199023255552; decide⟩
  have hi2 : i < 2 := hi
  match i, hi2 with
  | 0, _ => exact ⟨by show isS 1 = true; decide, by show isT 0 = true; decide, fun h => by omega⟩
  | 1, _ => exact ⟨by show isS 10 = true; decide, by show isT 20 = true; decide, fun _ => by show folB 1 0 10 20 = true; decide⟩
set_option maxRecDepth 100000 in
theorem rules_any (w : World) : Calls Tryz.prog 13 #[] w fun e w' => ∃ b, e = .returned (.agg #[.slice (some ⟨b, 0, none⟩) 2 2, .int .i64 100]) ∧ Lies (rl15 b) w'.heap.size w' ∧ Below w.heap.size w w' := by
  go_enter Tryz.func13, Tryz.ntmps13
  go_wp2_with fail
  refine bodyPost_ret (v := .agg #[.slice (some ⟨w.heap.size + 1, 0, none⟩) 2 2, .int .i64 100]) (by simp [results, Tryz.results13, go_sem]) rfl ⟨w.heap.size + 1, rfl, ?_, ((Below.refl _ _).alloc (Nat.le_refl _) _).alloc (by simp) _⟩
  refine ⟨by show 2 ≤ maxLen; decide, Nat.le_refl _, .inr ⟨w.heap.size + 1, 0, rfl, by simp, fun i hi => ?_⟩⟩
  have hi' : i < 2 := hi
  match i, hi' with
  | 0, _ => simp [go_sem, rl15, sz15, ag15]
  | 1, _ => simp [go_sem, rl15, sz15, ag15]
theorem eReads_none (w : World) : EReads w (.slice none 0 0) [] := ⟨none, 0, rfl, by simp, by simp, .inl rfl⟩
end Go.Proofs.YthicmbjiblbcmaaGreat

/- A cell that is there lies in a block that is there. -/
namespace Go.Proofs.YthicmbjiblbcmaaGreat
open Go.RowKit
end Go.Proofs.YthicmbjiblbcmaaGreat

/- Rules, as an argument by value: the value written out, and where the steps lie. -/
namespace Go.Proofs.YthicmbjiblbcmaaGreat
open Go.ChangeShapes Go.WideShapes Go.ChangeAt Go.RowKit Go.Joins Go.Deep

set_option maxRecDepth 100000 in
theorem openR {H : Type} {enc : TypeId × Value → H} {W : World} {r : Reach} {b0 base : Nat} {spare : Nat → Bool} {held : Bool} {v : Value} {d : DataW H} {p : List MemPlace}
    (hv : Value.okWide Tryz.prog W r b0 24 v) (h : DataW.Trod enc Tryz.prog W base spare held 24 v d p) :
    ∃ R : Rl, v = .agg #[.slice R.a R.len R.cap, .int .i64 R.kp] ∧ Lies R W.heap.size W := by
  obtain ⟨v0, v1, y0, y1, n, rfl, _, _, h0, h1⟩ := open_agg2 Tryz.underlying24 (by kernel_rfl) (by kernel_rfl) hv h
  obtain ⟨kp, e1, _, _⟩ := DataW.trod_int Tryz.underlying2 h1
  simp at e1
  subst e1
  rcases open_slice_pairs Tryz.underlying22 Tryz.underlying81 (by kernel_rfl) rfl rfl (by kernel_rfl) (by kernel_rfl) h0 with ⟨hcs, _⟩ | ⟨a, len, cap, m, k, V0, V1, D0, D1, P0, P1, hcs, _, hl, hm, hmm, _, hx⟩
  · simp at hcs
    subst hcs
    exact ⟨⟨none, 0, 0, fun _ => 0, fun _ => 0, kp⟩, rfl, Nat.zero_le _, Nat.le_refl _, .inl rfl⟩
  · simp at hcs
    subst hcs
    have hlm : len ≤ m := by rw [hmm]; split <;> omega
    have ints : ∀ i, i < m → ∃ x y, V0 i = .int .i64 x ∧ V1 i = .int .i64 y := by
      intro i hi
      obtain ⟨_, _, g0, g1⟩ := hx i hi
      obtain ⟨x, q0, _, _⟩ := DataW.trod_int Tryz.underlying2 g0
      obtain ⟨y, q1, _, _⟩ := DataW.trod_int Tryz.underlying2 g1
      simp at q0 q1
      exact ⟨x, y, q0, q1⟩
    let f : Nat → Int := fun i => intOf (V0 i)
    let g : Nat → Int := fun i => intOf (V1 i)
    refine ⟨⟨some a, len, cap, f, g, kp⟩, rfl, by show len ≤ maxLen; omega, Nat.le_refl _, ?_⟩
    rcases Nat.eq_zero_or_pos len with h00 | h00
    · exact .inl h00
    · right
      obtain ⟨c0, _, _, _⟩ := hx 0 (by omega)
      have e0 : a.add (0 * 2) = a := by simp [Addr.add]
      rw [e0] at c0
      obtain ⟨hb, hs⟩ := cell_block c0
      obtain ⟨b, off, spot⟩ := a
      simp only at hb hs
      subst hs
      refine ⟨b, off, rfl, hb, fun i hi => ?_⟩
      have hi' : i < len := hi
      obtain ⟨x, y, q0, q1⟩ := ints i (by omega)
      obtain ⟨d0, d1, _, _⟩ := hx i (by omega)
      have ea : (⟨b, off, none⟩ : Addr).add (i * 2) = ⟨b, off + i * 2, none⟩ := by simp [Addr.add]
      have eb : (⟨b, off, none⟩ : Addr).add (i * 2 + 1) = ⟨b, off + i * 2 + 1, none⟩ := by simp [Addr.add]; omega
      rw [ea] at d0
      rw [eb] at d1
      refine ⟨?_, ?_⟩
      · rw [d0, q0]; show _ = some (Value.int .i64 (intOf (V0 i))); rw [q0]; rfl
      · rw [d1, q1]; show _ = some (Value.int .i64 (intOf (V1 i))); rw [q1]; rfl
end Go.Proofs.YthicmbjiblbcmaaGreat

/- Entries and facts as arguments; what the laws of fold ask of its contracts. -/
namespace Go.Proofs.YthicmbjiblbcmaaGreat
open Go.ChangeShapes Go.WideShapes Go.ChangeAt Go.RowKit Go.Joins

theorem jb_short : ∀ (D : List ByteArray), (∀ s ∈ D, s.size ≤ 16) → (jb D).length ≤ 35 * D.length
  | [], _ => by simp [jb]
  | s :: D, h => by
    have h1 := jb_short D (fun t ht => h t (List.mem_cons_of_mem _ ht))
    have h2 := h s (List.mem_cons_self ..)
    have h3 := tx_len s.data.toList
    have h4 : s.data.toList.length = s.size := by simp
    rw [jb_cons]
    simp only [List.length_cons, List.length_append]
    omega
/-- A key of the rules is short. -/
theorem fit_short {R : Rl} {k : Ks} (h : FitK R k) : k.length ≤ 1000 := by
  obtain ⟨D, f, g, hr, _⟩ := h
  obtain ⟨h1, h2⟩ := rdF_taken hr
  obtain ⟨hm, _⟩ := right_facts h1
  have hmm := mayB_iff.1 hm
  have h3 := jb_short D hmm.2
  have h4 := hmm.1
  rw [← h2, kb_len]
  unfold jn
  rw [List.length_append]
  simp only [List.length_cons, List.length_nil]
  omega
theorem fit_gd {R : Rl} {L : List En} (h : FitL R L) (hc : ∀ x ∈ L, CnOk x.2) : GdE L := fun x hx => ⟨hc x hx, (h x hx).r, fun h0 => absurd h0 (h x hx).c⟩
/-- Fold where it may be. -/
theorem fold_ok (R : Rl) (wm : Int) (v : Value) (L : List En) (w : World) (hL : Lies R w.heap.size w) (hE : EReads w v L) (hl : L.length ≤ 100000) (hk : ∀ x ∈ L, x.1.length ≤ 1000) (hz : chkF R wm L = 0) (A : List En) (hA : A = foldF R wm L) :
    Calls Tryz.prog 12 #[.agg #[.slice R.a R.len R.cap, .int .i64 R.kp], .int .i64 wm, v] w fun e w' => ∃ a cap, e = .returned (.tuple #[.slice a A.length cap, .int .i64 0]) ∧ EReads w' (.slice a A.length cap) A ∧ Below w.heap.size w w' := by
  subst hA
  refine (fold_any R wm v L w hL hE hl hk).mono ?_
  rintro e w2 ⟨hb2, ⟨hne, rfl⟩ | ⟨_, l, rfl, hr⟩⟩
  · exact absurd hz hne
  · obtain ⟨a, cap, rfl, _⟩ := hr.form
    exact ⟨a, cap, rfl, hr, hb2⟩
end Go.Proofs.YthicmbjiblbcmaaGreat
