/- The contract of key.Read. -/
import Derived.Test.YtbcdmammedabmaaK10
import Derived.Test.YtbcdmammedabmaaK9
namespace Go.Proofs.Ytbcdmammedabmaa
open Go.RowKit

/-- What Read tells. -/
def rdF (l : List UInt8) : Option (List ByteArray × Int × Int) :=
  match pdF 5 l [] with
  | none => none
  | some (D, r) => if r.length = 9 then (if rightB D (rnF r).1 ((r.getD 8 0).toNat : Int) = true then some (D, (rnF r).1, ((r.getD 8 0).toNat : Int)) else none) else none
theorem rdF_none {l : List UInt8} (h : pdF 5 l [] = none) : rdF l = none := by unfold rdF; rw [h]
theorem rdF_some {l r : List UInt8} {D : List ByteArray} (h : pdF 5 l [] = some (D, r)) : rdF l = if r.length = 9 then (if rightB D (rnF r).1 ((r.getD 8 0).toNat : Int) = true then some (D, (rnF r).1, ((r.getD 8 0).toNat : Int)) else none) else none := by unfold rdF; rw [h]
theorem kfro {w w' : World} {x y z : Value} {t : TypeId} (h : Below (w.heap.size + 1) (w.alloc (.cells #[x, y, z] t)) w') : w'.frozen? ⟨w.heap.size, 0, none⟩ = false ∧ w'.frozen? ⟨w.heap.size, 1, none⟩ = false ∧ w'.frozen? ⟨w.heap.size, 2, none⟩ = false := by
  refine ⟨(h.frozen (p := ⟨w.heap.size, 0, none⟩) (by simp)).trans (by simp), (h.frozen (p := ⟨w.heap.size, 1, none⟩) (by simp)).trans (by simp), (h.frozen (p := ⟨w.heap.size, 2, none⟩) (by simp)).trans (by simp)⟩
theorem set3_below {B : Nat} {w w' : World} {b : Nat} {x y z : Value} (h : Below B w w') (hb : B ≤ b) : Below B w (((w'.setCell ⟨b, 0, none⟩ x).setCell ⟨b, 1, none⟩ y).setCell ⟨b, 2, none⟩ z) := ((h.setCell hb x).setCell hb y).setCell hb z
theorem SReads.set {w : World} {v : Value} {L : List ByteArray} {b o : Nat} {x : Value} (h : SReads w v L) (hb : ∀ k, v.ownBlock = some k → b < k) : SReads (w.setCell ⟨b, o, none⟩ x) v L := by
  rcases h with h | ⟨b', off, cap, h1, h2, h3, h4, h5, h6, h7⟩
  · exact .inl h
  · have hlt := hb b' (by rw [h1]; rfl)
    refine .inr ⟨b', off, cap, h1, h2, h3, h4, by simpa using h5, fun j hj => ?_, h7⟩
    exact (World.cell?_of_block (w := w) (w' := w.setCell ⟨b, o, none⟩ x) (a := ⟨b', off + j, none⟩) (Below.heap_setCell w ⟨b, o, none⟩ x b' (by simp; omega))).trans (h6 j hj)
theorem rnF9 {r : List UInt8} (h : r.length = 9) : (rnF r).2.1 = 8 ∧ (rnF r).2.2 = 0 ∧ -9223372036854775808 ≤ (rnF r).1 ∧ (rnF r).1 ≤ 9223372036854775807 := by
  unfold rnF
  rw [if_neg (by omega)]
  have hb := beval8 ((r.take 8).map fun x => (x.toNat : Int)) (by simp; omega) (by
    intro x hx
    obtain ⟨y, _, rfl⟩ := List.mem_map.1 hx
    have := y.toNat_lt
    omega)
  refine ⟨rfl, rfl, ?_, ?_⟩ <;> simp only <;> omega
set_option maxRecDepth 100000 in
set_option maxHeartbeats 2000000 in
theorem read_any (v : Value) (l : List UInt8) (hl : l.length ≤ 1000) (w : World) (h : Reads w v l) :
    Calls Try.prog 13 #[v] w fun e w' => (∃ D f g vd, rdF l = some (D, f, g) ∧ e = .returned (.tuple #[.agg #[vd, .int .i64 f, .int .i64 g], .int .i64 0]) ∧ KLies ⟨vd, D, f, g⟩ w' ∧ Below w.heap.size w w') ∨ (rdF l = none ∧ e = .returned (.tuple #[.agg #[.slice none 0 0, .int .i64 0, .int .i64 0], .int .i64 40]) ∧ Below w.heap.size w w') := by
  obtain ⟨a, cap, rfl, _⟩ := h.form
  have HR0 := h.alloc (.cells #[.slice none 0 0, .int .i64 0, .int .i64 0] 24)
  have HX0 : Hid (Below (w.heap.size + 1) (w.alloc (.cells #[.slice none 0 0, .int .i64 0, .int .i64 0] 24)) (w.alloc (.cells #[.slice none 0 0, .int .i64 0, .int .i64 0] 24))) := Below.refl _ _
  clear h
  go_enter Try.func13, Try.ntmps13
  go_wp2_with fail
  refine (parted_some _ l hl _ HR0).mono ?_
  rintro e w1 (⟨D, r, vd, vr, hp, rfl, HO1, HR1, hb1⟩ | ⟨hp, rfl, hb1⟩)
  · have HX1 : Hid (Below (w.heap.size + 1) (w.alloc (.cells #[.slice none 0 0, .int .i64 0, .int .i64 0] 24)) w1) := hb1.mono (by simp)
    have HS1 : Hid (w.heap.size + 1 ≤ w1.heap.size) := by have := hb1.size; unfold Hid; simpa using this
    obtain ⟨ad, cd, rfl, _⟩ := HO1.reads.form
    obtain ⟨ar, cr, rfl, hrm⟩ := HR1.form
    unfold maxLen at hrm
    have HSR : Hid (SReads w1 (.slice ad D.length cd) D) := HO1.reads
    have HGB : Hid (∀ k, (Value.slice ad D.length cd).ownBlock = some k → w.heap.size < k) := fun k hk => by have := own_block HO1.1 k hk; simp at this; omega
    have HRR : Hid (Reads w1 (.slice ar r.length cr) r) := HR1
    have HF : Hid _ := rdF_some hp
    obtain ⟨k0, k1, k2⟩ := kbox HX1.out
    obtain ⟨z0, z1, z2⟩ := kfro HX1.out
    clear hb1 HX0 HR0 hp HO1 HR1
    by_cases h9 : r.length = 9
    · have j9 : ((r.length : Int) != 9) = false := by simp; omega
      have HF2 : Hid (rdF l = if rightB D (rnF r).1 ((r.getD 8 0).toNat : Int) = true then some (D, (rnF r).1, ((r.getD 8 0).toNat : Int)) else none) := by rw [HF.out, if_pos h9]; rfl
      obtain ⟨q1, q2, q3, q4⟩ := rnF9 h9
      obtain ⟨b, off, rfl, hbw, hc8⟩ := HRR.out.at 8 (by omega)
      have HQ : Hid ((r.getD 8 0).toNat = (r[8]'(by omega)).toNat) := by simp [Hid, List.getD, h9]
      obtain ⟨y, HY⟩ := hid_ex (r[8]'(by omega))
      rw [← HY.out] at hc8 HQ
      rw [HQ.out] at HF2
      unfold bc at hc8
      have hyb : y.toNat < 256 := y.toNat_lt
      have i8 : (8 : Int) < (r.length : Int) := by omega
      clear HY HQ HF h9
      go_wp2_with fail
      refine (readNumber_any _ r _ HRR.out).mono ?_
      rw [q1, q2]
      rintro e w2 ⟨rfl, hb2⟩
      generalize (rnF r).1 = F at *
      have HX2 : Hid (Below (w.heap.size + 1) (w.alloc (.cells #[.slice none 0 0, .int .i64 0, .int .i64 0] 24)) w2) := HX1.out.trans (hb2.mono HS1.out)
      have HS2 : Hid (w.heap.size + 1 ≤ w2.heap.size) := Nat.le_trans HS1.out hb2.size
      have HSR2 : Hid (SReads w2 (.slice ad D.length cd) D) := HSR.out.below hb2
      have hc2 := (hb2.cell (p := ⟨b, off + 8, none⟩) hbw).trans hc8
      clear hb2 hc8 hbw HX1 HS1 HSR HRR k0 k1 k2 z0 z1 z2
      go_wp2_with fail
      have HK2 : KLies ⟨.slice ad D.length cd, D, F, (y.toNat : Int)⟩ (w2.alloc (.cells #[.slice ad D.length cd, .int .i64 F, .int .i64 (y.toNat : Int)] 24)) :=
        ⟨HSR2.out.below ((Below.refl _ _).alloc (Nat.le_refl _) _), q3, q4, by show (-9223372036854775808 : Int) ≤ (y.toNat : Int); omega, by show (y.toNat : Int) ≤ 9223372036854775807; omega⟩
      refine (right_any ⟨.slice ad D.length cd, D, F, (y.toNat : Int)⟩ _ HK2).mono ?_
      simp only
      rintro e w3 ⟨rfl, hb3⟩
      have HY3 : Hid (Below (w2.heap.size + 1) (w2.alloc (.cells #[.slice ad D.length cd, .int .i64 F, .int .i64 (y.toNat : Int)] 24)) w3) := hb3.mono (by simp)
      have HX3 : Hid (Below (w.heap.size + 1) (w.alloc (.cells #[.slice none 0 0, .int .i64 0, .int .i64 0] 24)) w3) := HX2.out.trans (((Below.refl _ _).alloc HS2.out _).trans (hb3.mono (by have := HS2.out; simp; omega)))
      have HK3 : Hid (KLies ⟨.slice ad D.length cd, D, F, (y.toNat : Int)⟩ w3) := HK2.below hb3
      obtain ⟨k0, k1, k2⟩ := kbox HX3.out
      obtain ⟨z0, z1, z2⟩ := kfro HX3.out
      obtain ⟨y0, y1, y2⟩ := kbox HY3.out
      have hne : ¬ w2.heap.size = w.heap.size := by have := HS2.out; omega
      clear hb3 HK2 HY3 hc2
      cases hrt : rightB D F (y.toNat : Int) with
      | true =>
        have HN : Hid (rdF l = some (D, F, (y.toNat : Int))) := by rw [HF2.out, hrt]; rfl
        clear hrt HF2
        go_wp2_with fail
        refine bodyPost_ret (v := .tuple #[.agg #[.slice ad D.length cd, .int .i64 F, .int .i64 (y.toNat : Int)], .int .i64 0]) (by simp [results, Try.results13, go_sem, k0, k1, k2]) rfl (.inl ⟨D, F, (y.toNat : Int), _, HN.out, rfl, ?_, set3_below (box_below HX3.out) (Nat.le_refl _)⟩)
        exact ⟨((HK3.out.r.set HGB.out).set HGB.out).set HGB.out, HK3.out.f1, HK3.out.f2, HK3.out.g1, HK3.out.g2⟩
      | false =>
        have HN : Hid (rdF l = none) := by rw [HF2.out, hrt]; rfl
        clear hrt HF2 y0 y1 y2
        go_wp2_with fail
        refine bodyPost_ret (v := .tuple #[.agg #[.slice none 0 0, .int .i64 0, .int .i64 0], .int .i64 40]) (by simp [results, Try.results13, go_sem, k0, k1, k2]) rfl (.inr ⟨HN.out, rfl, set3_below (box_below HX3.out) (Nat.le_refl _)⟩)
    · have j9 : ((r.length : Int) != 9) = true := by simp; omega
      have HN : Hid (rdF l = none) := by rw [HF.out, if_neg h9]; rfl
      clear HF h9
      go_wp2_with fail
      refine bodyPost_ret (v := .tuple #[.agg #[.slice none 0 0, .int .i64 0, .int .i64 0], .int .i64 40]) (by simp [results, Try.results13, go_sem, k0, k1, k2]) rfl (.inr ⟨HN.out, rfl, set3_below (box_below HX1.out) (Nat.le_refl _)⟩)
  · have HN : Hid (rdF l = none) := rdF_none hp
    have HX1 : Hid (Below (w.heap.size + 1) (w.alloc (.cells #[.slice none 0 0, .int .i64 0, .int .i64 0] 24)) w1) := hb1.mono (by simp)
    obtain ⟨k0, k1, k2⟩ := kbox HX1.out
    obtain ⟨z0, z1, z2⟩ := kfro HX1.out
    clear hb1 HX0 HR0 hp
    go_wp2_with fail
    refine bodyPost_ret (v := .tuple #[.agg #[.slice none 0 0, .int .i64 0, .int .i64 0], .int .i64 40]) (by simp [results, Try.results13, go_sem, k0, k1, k2]) rfl (.inr ⟨HN.out, rfl, set3_below (box_below HX1.out) (Nat.le_refl _)⟩)
end Go.Proofs.Ytbcdmammedabmaa
