/- The contracts of Seek, All and Get, over the entries. -/
import Derived.Test.YtbeemkcdpmbhmaaS13
namespace Go.Proofs.Ytbeemkcdpmbhmaa
open Go.RowKit

/-- The first entries from a key on. -/
def skF (E : List En) (key : Ks) (most : Int) : List En := (E.drop (plK (keysE E) key)).take most.toNat
theorem EOwn.below {A B : World} {base : Nat} {v : Value} {xs : List Ev} (h : EOwn A base v xs) (hb : Below A.heap.size A B) : EOwn B base v xs := h.kc (Kc.of_below hb (Nat.le_refl _))
theorem seek_any (L0 : Nat) (E : List En) (fr : Bool) (kv : Value) (key : Ks) (most : Int) (w : World) (base : Nat) (hS : SK w base L0 E fr) (hR : Reads w kv key) :
    Calls Try.prog 10 #[.pointer (some ⟨L0, 0, none⟩), kv, .int .i64 most] w fun e W' => ∃ v xs, e = .returned v ∧ EOwn W' w.heap.size v xs ∧ xs.map evE = skF E key most ∧ Below w.heap.size w W' := by
  by_cases hm : 1 ≤ most
  · obtain ⟨N, h1, rfl⟩ := hS
    refine (callsIn_wide.1 (seek_in 5 (by decide) L0 N _ fr kv key most hm w base h1 hR)).mono ?_
    rintro e W' ⟨v, xs, rfl, h2, h3, h4⟩
    refine ⟨v, xs, rfl, h2, ?_, h4⟩
    rw [h3]
    unfold skF
    rw [keys_ents]
    unfold ents
    rw [List.map_drop]
  · have hm1 : most < 1 := by omega
    have HSK : Hid (skF E key most = []) := by unfold Hid skF; rw [show most.toNat = 0 by omega, List.take_zero]
    obtain ⟨ak, ck, rfl, _⟩ := hR.form
    have HB : Hid (Below w.heap.size w (w.alloc (.cells #[.int .i64 most] 3))) := (Below.refl _ _).alloc (Nat.le_refl _) _
    clear hS hR
    go_enter Try.func10, Try.ntmps10
    go_wp2_with fail
    go_ret
    first
      | exact ⟨_, rfl, [], ⟨World.ownsRow_nil _ _ _ _, fun _ h => (by cases h)⟩, by rw [HSK.out]; rfl, HB.out⟩
      | exact ⟨_, [], rfl, ⟨World.ownsRow_nil _ _ _ _, fun _ h => (by cases h)⟩, by rw [HSK.out]; rfl, HB.out⟩
theorem plK_nil (N : List Ks) : plK N [] = 0 := by
  unfold plK
  cases N with
  | nil => rfl
  | cons x N =>
    rw [List.takeWhile_cons_of_neg]
    · rfl
    · cases x <;> simp [ltK, Lib.compareBytes]
theorem all_any (L0 : Nat) (E : List En) (fr : Bool) (w : World) (base : Nat) (hS : SK w base L0 E fr) :
    Calls Try.prog 15 #[.pointer (some ⟨L0, 0, none⟩)] w fun e W' => ∃ v xs, e = .returned v ∧ EOwn W' w.heap.size v xs ∧ xs.map evE = E ∧ Below w.heap.size w W' := by
  have HS : Hid (SK w base L0 E fr) := hS
  have HE : Hid (skF E [] (E.length : Int) = E) := by unfold Hid skF; rw [plK_nil, List.drop_zero, Int.toNat_natCast, List.take_length]
  clear hS
  go_enter Try.func15, Try.ntmps15
  go_wp2_with fail
  refine (len_any L0 E fr _ base HS.out).mono ?_
  rintro e w1 ⟨rfl, hw1⟩
  subst w1
  go_wp2_with fail
  refine (seek_any L0 E fr _ [] (E.length : Int) _ base HS.out (.inl ⟨rfl, _, _, rfl, fun _ => rfl⟩)).mono ?_
  rintro e w2 ⟨v, xs, rfl, h2, h3, h4⟩
  rw [HE.out] at h3
  have H2 : Hid _ := h2
  have H3 : Hid _ := h3
  have H4 : Hid _ := h4
  clear h2 h3 h4
  go_wp2_with fail
  go_ret
  first
    | exact ⟨v, xs, rfl, H2.out, H3.out, H4.out⟩
    | exact ⟨v, rfl, xs, H2.out, H3.out, H4.out⟩
theorem c7_len (x : Ev) : (c7 x).length = 7 := rfl
theorem flat7 : ∀ (xs : List Ev) (j i : Nat) (hj : j < xs.length), i < 7 → (xs.flatMap c7)[7 * j + i]? = (c7 xs[j])[i]?
  | [], j, i, hj, _ => by simp at hj
  | x :: xs, 0, i, _, hi => by
    rw [List.flatMap_cons, List.getElem?_append_left (by rw [c7_len]; omega)]; simp
  | x :: xs, j + 1, i, hj, hi => by
    rw [List.flatMap_cons, List.getElem?_append_right (by rw [c7_len]; omega), c7_len, show 7 * (j + 1) + i - 7 = 7 * j + i by omega]
    exact flat7 xs j i (by simpa using hj) hi
/-- What a slice of entries holds. -/
theorem EOwn.at {w : World} {base : Nat} {v : Value} {xs : List Ev} (h : EOwn w base v xs) : ∃ a cap, v = .slice a xs.length cap ∧ xs.length ≤ cap ∧ cap ≤ maxLen ∧ (0 < xs.length → ∃ g, a = some ⟨g, 0, none⟩ ∧ base ≤ g ∧ g < w.heap.size ∧ ∀ j (hj : j < xs.length) (i : Nat) (hi : i < 7), w.cell? ⟨g, 7 * j + i, none⟩ = some ((c7 xs[j])[i]'hi) ∧ w.frozen? ⟨g, 7 * j + i, none⟩ = false) := by
  have hlt := World.ownsRow.lt h.1
  rcases h.1.2 with ⟨h1, h2⟩ | ⟨g, cap, cur, hv, hg, hw, hc, hm, _⟩
  · exact ⟨none, 0, by rw [h1, h2], by omega, by simp, fun h0 => by omega⟩
  · have hr := h.1
    rw [hv] at hr
    refine ⟨_, cap, hv, hc, hm, fun _ => ⟨g, rfl, hg, (hlt g (by rw [hv]; rfl)).2, fun j hj i hi => ⟨?_, World.ownsRow.frozenAt hr _⟩⟩⟩
    rw [World.ownsRow.cellAt hr _ (by omega), flat7 xs j i hj hi, List.getElem?_eq_getElem hi]
/-- What is known of a key. -/
def geE (E : List En) (key : Ks) : Option Ag := (E.find? fun x => decide (x.1 = key)).map Prod.snd
end Go.Proofs.Ytbeemkcdpmbhmaa
