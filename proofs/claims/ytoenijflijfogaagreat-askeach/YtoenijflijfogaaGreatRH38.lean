/- K13 K14 MG20 MG22 MG23, joined. -/
import Derived.Test.YtoenijflijfogaaGreatRH8
import Derived.Test.YtoenijflijfogaaGreatRH17
import Derived.Test.YtoenijflijfogaaGreatRH18
import Derived.Test.YtoenijflijfogaaGreatRH37
/- The contract of the reference's Write. -/
namespace Go.Proofs.YtoenijflijfogaaGreat
open Go.RowKit

set_option maxRecDepth 100000 in
set_option maxHeartbeats 1000000 in
theorem refWrite_yes (k : Ky) (hn : rightBK k.L k.f k.g = true) (w : World) (h : KLies k w) :
    Calls Tryz.prog 42 #[k.val] w fun e w' => ∃ v, e = .returned (.tuple #[v, .int .i64 0]) ∧ Own w' w.heap.size v (kb k.L k.f k.g) ∧ Below w.heap.size w w' := by
  obtain ⟨a, cap, hv, _⟩ := h.r.form
  obtain ⟨v, L, f, g⟩ := k
  simp only at hv
  subst hv
  have HX : Hid (Below (w.heap.size + 1) (w.alloc (.cells #[.slice a L.length cap, .int .i64 f, .int .i64 g] 70)) (w.alloc (.cells #[.slice a L.length cap, .int .i64 f, .int .i64 g] 70))) := Below.refl _ _
  have HK0 := h.below (box_below HX.out)
  have HKA : Hid (KLies ⟨.slice a L.length cap, L, f, g⟩ w) := h
  obtain ⟨_, f1, f2, g1, g2⟩ := h
  unfold Ky.val
  simp only at HK0 hn f1 f2 g1 g2 ⊢
  have HRT : Hid (rightBK L f g = true) := hn
  obtain ⟨hmb, q1, q2, q3, q4⟩ := right_facts hn
  have HM : Hid (mayB L = true) := hmb
  have hjl : (jn L).length ≤ 141 := by
    obtain ⟨m1, m2⟩ := mayB_iff.1 HM.out
    have := jb_len L m2
    unfold jn; simp; omega
  clear hmb
  go_enter Tryz.func42, Tryz.ntmps42
  go_wp2_with fail
  refine (refRight_anyK ⟨.slice a L.length cap, L, f, g⟩ _ HK0).mono ?_
  rw [hn]
  rintro e w1 ⟨rfl, hb1⟩
  have HX1 : Hid (Below (w.heap.size + 1) (w.alloc (.cells #[.slice a L.length cap, .int .i64 f, .int .i64 g] 70)) w1) := HX.out.trans (hb1.mono (by simp))
  have HS1 : Hid (w.heap.size + 1 ≤ w1.heap.size) := by have := HX1.out.size; unfold Hid; simpa using this
  obtain ⟨k0, k1, k2⟩ := kbox HX1.out
  clear hb1 HK0 hn HX
  go_wp2_with fail
  refine (refGroup_yes _ L HM.out _ (HKA.out.below (box_below HX1.out)).r).mono ?_
  rintro e w2 ⟨v2, rfl, HO2, hb2⟩
  have HX2 : Hid (Below (w.heap.size + 1) (w.alloc (.cells #[.slice a L.length cap, .int .i64 f, .int .i64 g] 70)) w2) := HX1.out.trans (hb2.mono HS1.out)
  have HS2 : Hid (w.heap.size + 1 ≤ w2.heap.size) := Nat.le_trans HS1.out hb2.size
  have HO2' : Own w2 (w.heap.size + 1) v2 (jn L) := HO2.mono HS1.out
  clear hb2 HO2 HX1 HS1 k0 k1 k2
  obtain ⟨k0, k1, k2⟩ := kbox HX2.out
  go_wp2_with fail
  refine (refNumber_any f f1 f2 _).mono ?_
  rintro e w3 ⟨v3, rfl, o3, b3⟩
  have HX3 : Hid (Below (w.heap.size + 1) (w.alloc (.cells #[.slice a L.length cap, .int .i64 f, .int .i64 g] 70)) w3) := HX2.out.trans (b3.mono HS2.out)
  have hs3 : w.heap.size + 1 ≤ w3.heap.size := Nat.le_trans HS2.out b3.size
  have HO3 : Own w3 (w.heap.size + 1) v2 (jn L) := HO2'.below b3
  have HR3 : Reads w3 v3 (nb f) := reads_own o3
  obtain ⟨M1, HM1⟩ := hid_ex (jn L ++ nb f)
  clear b3 o3 HO2' HX2 HS2 k0 k1 k2
  have hnl : (nb f).length = 8 := nb_len f
  go_wp2_with (at_builtin; refine wpList_app rfl _ _ rfl (w.heap.size + 1) _ _ (jn L) (nb f) M1 HM1.out rfl rfl HO3 HR3 (by omega) hs3 ?_)
  intro v4 w4 HO4 hb4
  have HX4 : Hid (Below (w.heap.size + 1) (w.alloc (.cells #[.slice a L.length cap, .int .i64 f, .int .i64 g] 70)) w4) := HX3.out.trans hb4.out
  have hs4 : w.heap.size + 1 ≤ w4.heap.size := Nat.le_trans hs3 hb4.out.size
  obtain ⟨k0, k1, k2⟩ := kbox HX4.out
  have HU : Hid (Value.int .u8 g = bc (UInt8.ofNat g.toNat)) := by
    unfold Hid bc
    rw [UInt8.toNat_ofNat', show ((g.toNat % 2 ^ 8 : Nat) : Int) = g by omega]
  obtain ⟨M2, HM2⟩ := hid_ex (M1 ++ [UInt8.ofNat g.toNat])
  have HE : Hid (M2 = kb L f g) := by rw [HM2.out, HM1.out]; rfl
  have hm1 : M1.length ≤ 149 := by rw [HM1.out, List.length_append, nb_len]; omega
  clear hb4 HO3 HR3 HX3 hs3 hnl
  go_wp2_with (at_builtin; refine wpList_app1 rfl _ _ rfl (w.heap.size + 1) _ M1 (UInt8.ofNat g.toNat) M2 HM2.out HU.out rfl rfl HO4 (by omega) hs4 ?_)
  intro v5 w5 HO5 hb5
  have HB5 : Hid (Below w.heap.size w w5) := box_below (HX4.out.trans hb5.out)
  clear hb5 HO4 k0 k1 k2 HX4 HU
  go_wp2_with fail
  go_ret2
  exact ⟨_, rfl, by rw [← HE.out]; exact HO5.mono (by omega), HB5.out⟩
end Go.Proofs.YtoenijflijfogaaGreat

/- The contract of the reference's Read. -/
namespace Go.Proofs.YtoenijflijfogaaGreat
open Go.RowKit

/-- Three cells of one's own. -/
def KBx (b : Nat) (w : World) (x y z : Value) : Prop := (w.cell? ⟨b, 0, none⟩ = some x ∧ w.cell? ⟨b, 1, none⟩ = some y ∧ w.cell? ⟨b, 2, none⟩ = some z) ∧ w.frozen? ⟨b, 0, none⟩ = false ∧ w.frozen? ⟨b, 1, none⟩ = false ∧ w.frozen? ⟨b, 2, none⟩ = false
theorem KBx.below {b n : Nat} {w w' : World} {x y z : Value} (h : KBx b w x y z) (hb : Below n w w') (hn : b < n) : KBx b w' x y z := by
  obtain ⟨⟨h1, h2, h3⟩, h4, h5, h6⟩ := h
  exact ⟨⟨(hb.cell (p := ⟨b, 0, none⟩) hn).trans h1, (hb.cell (p := ⟨b, 1, none⟩) hn).trans h2, (hb.cell (p := ⟨b, 2, none⟩) hn).trans h3⟩, (hb.frozen (p := ⟨b, 0, none⟩) hn).trans h4, (hb.frozen (p := ⟨b, 1, none⟩) hn).trans h5, (hb.frozen (p := ⟨b, 2, none⟩) hn).trans h6⟩
theorem KBx.new (w : World) (x y z : Value) (t : TypeId) : KBx w.heap.size (w.alloc (.cells #[x, y, z] t)) x y z := by
  refine ⟨⟨?_, ?_, ?_⟩, ?_, ?_, ?_⟩ <;> simp
theorem SOwn.set {w : World} {base : Nat} {v : Value} {L : List ByteArray} {b o : Nat} {x : Value} (h : SOwn w base v L) (hb : b < base) : SOwn (w.setCell ⟨b, o, none⟩ x) base v L := by
  obtain ⟨⟨h1, h2⟩, h3⟩ := h
  refine ⟨⟨h1, ?_⟩, h3⟩
  rcases h2 with h2 | ⟨g, cap, cur, hv, hg, hw, r⟩
  · exact .inl h2
  · exact .inr ⟨g, cap, cur, hv, hg, (Below.heap_setCell w ⟨b, o, none⟩ x g (by simp; omega)).trans hw, r⟩
end Go.Proofs.YtoenijflijfogaaGreat

/- Each entry is told once, row by row. -/
namespace Go.Proofs.YtoenijflijfogaaGreat

end Go.Proofs.YtoenijflijfogaaGreat

/- How many of each row have been told, in memory; and what was told last. -/
namespace Go.Proofs.YtoenijflijfogaaGreat
open Go.RowKit Go.Joins

/-- A row of numbers. -/
def AtM (W : World) (g n : Nat) (c : Nat → Nat) : Prop := ∃ cur, W.heap[g]? = some (.cells cur 3) ∧ ∀ i, i < n → cur[i]? = some (.int .i64 (c i : Int))
theorem AtM.lt {W : World} {g n : Nat} {c : Nat → Nat} (h : AtM W g n c) : g < W.heap.size := by obtain ⟨cur, h1, _⟩ := h; exact (Array.getElem?_eq_some_iff.1 h1).1
theorem AtM.keep {W W' : World} {g n : Nat} {c : Nat → Nat} (h : AtM W g n c) (hk : W'.heap[g]? = W.heap[g]?) : AtM W' g n c := by
  obtain ⟨cur, h1, h2⟩ := h
  exact ⟨cur, hk.trans h1, h2⟩
theorem AtM.cell {W : World} {g n : Nat} {c : Nat → Nat} (h : AtM W g n c) {i : Nat} (hi : i < n) : W.cell? ⟨g, i, none⟩ = some (.int .i64 (c i : Int)) ∧ W.frozen? ⟨g, i, none⟩ = false := by
  obtain ⟨cur, h1, h2⟩ := h
  have h3 := Array.getElem?_eq_some_iff.1 (h2 i hi)
  obtain ⟨q1, q2⟩ := cell_row h1 i h3.1
  exact ⟨by rw [q1, h3.2], q2⟩
theorem AtM.made {w w0 : World} {base n : Nat} (h : w0.ownsRow base 3 1 (.slice (some ⟨w.heap.size, 0, none⟩) n n) n (madeCells (Value.int .i64 0).cells (n * 1)).toList) : AtM w0 w.heap.size n (fun _ => 0) := by
  rcases h.2 with ⟨q, _⟩ | ⟨g, cap, cur, hv, _, hw, _, _, hs, ht⟩
  · simp at q
  · simp at hv
    obtain ⟨rfl, rfl⟩ := hv
    refine ⟨cur, hw, fun i hi => ?_⟩
    have h1 : (cur.toList.take (n * 1))[i]? = (madeCells (Value.int .i64 0).cells (n * 1)).toList[i]? := by rw [ht]
    rw [List.getElem?_take, if_pos (by omega)] at h1
    rw [← Array.getElem?_toList, h1]
    simp [madeCells, Value.cells, hi, Nat.mod_one]
theorem AtM.set {W : World} {g n : Nat} {c c' : Nat → Nat} (h : AtM W g n c) {i : Nat} (hi : i < n) (hc : ∀ j, j < n → c' j = if i = j then c j + 1 else c j) : AtM (W.setCell ⟨g, i, none⟩ (.int .i64 ((c i : Int) + 1))) g n c' := by
  obtain ⟨cur, h1, h2⟩ := h
  refine ⟨_, heap_setCell_same W g i cur _ _ h1, fun j hj => ?_⟩
  rw [hc j hj]
  have hs := (Array.getElem?_eq_some_iff.1 (h2 i hi)).1
  by_cases e : i = j
  · subst e
    rw [if_pos rfl]
    simp [hs]
  · rw [if_neg e, Array.getElem?_setIfInBounds_ne e]
    exact h2 j hj
/-- What was told last. -/
def LastO (W : World) (lo : Nat) (D : List Tg) (lv fv : Value) : Prop := match D.getLast? with
  | none => lv = .slice none 0 0 ∧ fv = .int .i64 (-1)
  | some t => Own W lo lv t.1.1 ∧ fv = .int .i64 (t.1.2 : Int)
theorem LastO.keep {A B : World} {lo : Nat} {D : List Tg} {lv fv : Value} (h : LastO A lo D lv fv) (hk : ∀ (k : Nat) (cs : Array Value) (fr : Nat × Nat), A.heap[k]? = some (Obj.cells cs 5 fr) → B.heap[k]? = some (Obj.cells cs 5 fr)) : LastO B lo D lv fv := by
  unfold LastO at *
  split at h
  · exact h
  · exact ⟨own_kp h.1 hk, h.2⟩
theorem LastO.snoc {W : World} {lo : Nat} {D : List Tg} {t : Tg} {lv : Value} (h : Own W lo lv t.1.1) : LastO W lo (D ++ [t]) lv (.int .i64 (t.1.2 : Int)) := by
  unfold LastO
  rw [List.getLast?_append]
  exact ⟨h, rfl⟩
end Go.Proofs.YtoenijflijfogaaGreat

/- A number is stored: the world behind it, by name; texts are compared. -/
namespace Go.Proofs.YtoenijflijfogaaGreat
open Go.RowKit

theorem less_iff : ∀ a b : Ks, Op.bytesLess a b = true ↔ Lib.compareBytes a b = -1
  | [], [] => by simp [Op.bytesLess, Lib.compareBytes]
  | [], _ :: _ => by simp [Op.bytesLess, Lib.compareBytes]
  | _ :: _, [] => by simp [Op.bytesLess, Lib.compareBytes]
  | x :: a, y :: b => by
    have ih := less_iff a b
    simp only [Op.bytesLess, Lib.compareBytes]
    by_cases h1 : x < y
    · simp [h1]
    · rw [if_neg h1]
      by_cases h2 : y < x
      · have : x ≠ y := fun e => by subst e; exact h1 h2
        simp [h1, h2, this]
      · have : x = y := u8_tri h1 h2
        subst this
        simp [ih]
theorem less_no {a b : Ks} (h : ¬ ltK a b) : Op.bytesLess a b = false := by
  rw [Bool.eq_false_iff]
  exact fun e => h ((less_iff a b).1 e)
end Go.Proofs.YtoenijflijfogaaGreat
