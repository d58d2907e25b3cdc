/- A feed's calls, in one form each; what must come of fixed calls. -/
import Derived.Test.YtkamambgpcdonaaFE2
namespace Go.Proofs.Ytkamambgpcdonaa
open Go.RowKit Go.Conc

def puE (n : Nat) (U O : List Int) (cl u : Bool) : Int := if cl = true then 113 else if (if u = true then U.length else O.length) < n then 0 else 5
def puU (n : Nat) (U : List Int) (cl u : Bool) (v : Int) : List Int := if cl = false ∧ u = true ∧ U.length < n then U ++ [v] else U
def puO (n : Nat) (O : List Int) (cl u : Bool) (v : Int) : List Int := if cl = false ∧ u = false ∧ O.length < n then O ++ [v] else O
def tkV : List Int → List Int → Int
  | x :: _, _ => x
  | [], y :: _ => y
  | [], [] => 0
def tkB : List Int → Bool
  | _ :: _ => true
  | [] => false
def tkE : List Int → List Int → Int
  | _ :: _, _ => 0
  | [], _ :: _ => 0
  | [], [] => 4
def tkO : List Int → List Int → List Int
  | _ :: _, O => O
  | [], O => O.tail
def clE (cl : Bool) : Int := if cl = true then 113 else 0
theorem put_any (v : Int) (u : Bool) (w : World) {base n : Nat} {p : Value} {U O : List Int} {cl : Bool} (h : Fd w base p n U O cl) :
    Calls Try.prog 10 #[p, .int .i64 v, .bool u] w fun e w' => e = .returned (.int .i64 (puE n U O cl u)) ∧ Fd w' base p n (puU n U cl u v) (puO n O cl u v) cl ∧ Below base w w' := by
  obtain ⟨g, cu, co, su, ru, so, ro, rfl, hf⟩ := h
  cases cl with
  | true =>
    refine (put_shut v u w hf).mono ?_
    rintro e w' ⟨rfl, rfl⟩
    refine ⟨by simp [puE], ⟨g, cu, co, su, ru, so, ro, rfl, ?_⟩, Below.refl _ _⟩
    simpa [puU, puO] using hf
  | false =>
    cases u with
    | true =>
      by_cases hl : U.length < n
      · refine (putU_room v w hf hl).mono ?_
        rintro e w' ⟨rfl, rfl⟩
        refine ⟨by simp [puE, hl], ⟨g, cu, co, su + 1, ru, so, ro, rfl, ?_⟩, below_setChan (Below.refl _ _) hf.cu0 _ _ _ _ _ _⟩
        simpa [puU, puO, hl] using hf.setU (U ++ [v]) (by simp; omega) (su + 1) ru
      · refine (putU_full v w hf (by omega)).mono ?_
        rintro e w' ⟨rfl, rfl⟩
        refine ⟨by simp [puE, hl], ⟨g, cu, co, su, ru, so, ro, rfl, ?_⟩, Below.refl _ _⟩
        simpa [puU, puO, hl] using hf
    | false =>
      by_cases hl : O.length < n
      · refine (putO_room v w hf hl).mono ?_
        rintro e w' ⟨rfl, rfl⟩
        refine ⟨by simp [puE, hl], ⟨g, cu, co, su, ru, so + 1, ro, rfl, ?_⟩, below_setChan (Below.refl _ _) hf.co0 _ _ _ _ _ _⟩
        simpa [puU, puO, hl] using hf.setO (O ++ [v]) (by simp; omega) (so + 1) ro
      · refine (putO_full v w hf (by omega)).mono ?_
        rintro e w' ⟨rfl, rfl⟩
        refine ⟨by simp [puE, hl], ⟨g, cu, co, su, ru, so, ro, rfl, ?_⟩, Below.refl _ _⟩
        simpa [puU, puO, hl] using hf
theorem take_any (w : World) {base n : Nat} {p : Value} {U O : List Int} {cl : Bool} (h : Fd w base p n U O cl) :
    Calls Try.prog 12 #[p] w fun e w' => e = .returned (.tuple #[.int .i64 (tkV U O), .bool (tkB U), .int .i64 (tkE U O)]) ∧ Fd w' base p n U.tail (tkO U O) cl ∧ Below base w w' := by
  obtain ⟨g, cu, co, su, ru, so, ro, rfl, hf⟩ := h
  match U, O, hf with
  | x :: U, O, hf =>
    refine (takeU x w hf).mono ?_
    rintro e w' ⟨rfl, rfl⟩
    exact ⟨rfl, ⟨g, cu, co, su, ru + 1, so, ro, rfl, hf.setU U (by have := hf.lu; simp at this; omega) su (ru + 1)⟩, below_setChan (Below.refl _ _) hf.cu0 _ _ _ _ _ _⟩
  | [], x :: O, hf =>
    refine (takeO x w hf).mono ?_
    rintro e w' ⟨rfl, rfl⟩
    exact ⟨rfl, ⟨g, cu, co, su, ru, so, ro + 1, rfl, hf.setO O (by have := hf.lo; simp at this; omega) so (ro + 1)⟩, below_setChan (Below.refl _ _) hf.co0 _ _ _ _ _ _⟩
  | [], [], hf =>
    refine (take_none w hf).mono ?_
    rintro e w' ⟨rfl, rfl⟩
    exact ⟨rfl, ⟨g, cu, co, su, ru, so, ro, rfl, hf⟩, Below.refl _ _⟩
theorem close_any (w : World) {base n : Nat} {p : Value} {U O : List Int} {cl : Bool} (h : Fd w base p n U O cl) :
    Calls Try.prog 14 #[p] w fun e w' => e = .returned (.int .i64 (clE cl)) ∧ Fd w' base p n U O true ∧ Below base w w' := by
  obtain ⟨g, cu, co, su, ru, so, ro, rfl, hf⟩ := h
  cases cl with
  | true =>
    refine (close_shut w hf).mono ?_
    rintro e w' ⟨rfl, rfl⟩
    exact ⟨rfl, ⟨g, cu, co, su, ru, so, ro, rfl, hf⟩, Below.refl _ _⟩
  | false =>
    refine (close_open w hf).mono ?_
    rintro e w' ⟨rfl, rfl⟩
    exact ⟨rfl, ⟨g, cu, co, su, ru, so, ro, rfl, hf.shut true⟩, (Below.refl _ _).setCell hf.g0 _⟩
theorem len_any (w : World) {base n : Nat} {p : Value} {U O : List Int} {cl : Bool} (h : Fd w base p n U O cl) :
    Calls Try.prog 16 #[p] w fun e w' => e = .returned (.tuple #[.int .i64 (U.length : Int), .int .i64 (O.length : Int)]) ∧ Fd w' base p n U O cl ∧ Below w.heap.size w w' := by
  obtain ⟨g, cu, co, su, ru, so, ro, rfl, hf⟩ := h
  refine (len_at w hf).mono ?_
  rintro e w' ⟨rfl, k, rfl⟩
  have hb : Below w.heap.size w (w.drewN k) := ⟨rfl, rfl, rfl, Nat.le_refl _, fun _ _ => rfl⟩
  exact ⟨rfl, ⟨g, cu, co, su, ru, so, ro, rfl, hf.below hb⟩, hb⟩
theorem Fd.ptr {w : World} {base n : Nat} {p : Value} {U O : List Int} {cl : Bool} (h : Fd w base p n U O cl) : ∃ g, p = .pointer (some ⟨g, 0, none⟩) := by
  obtain ⟨g, cu, co, su, ru, so, ro, rfl, hf⟩ := h
  exact ⟨g, rfl⟩
theorem alive_any (w : World) : Calls Try.prog 17 #[] w fun e w' => e = .returned (.bool true) ∧ Below w.heap.size w w' := by
  go_enter Try.func17, Try.ntmps17
  go_wp2_with fail
  refine (new_any 2 _ (by omega) (by omega)).mono ?_
  rintro e w1 ⟨p, rfl, hf, hb⟩
  obtain ⟨g, rfl⟩ := hf.ptr
  have HF := (show Hid _ from hf)
  have HB := (show Hid _ from hb)
  clear hf hb
  go_wp2_with fail
  refine (put_any 5 false _ HF.out).mono ?_
  rintro e w2 ⟨rfl, hf, hb⟩
  have HF2 : Hid (Fd w2 w.heap.size (.pointer (some ⟨g, 0, none⟩)) 2 [] [5] false) := hf
  have HB2 : Hid (Below w.heap.size w w2) := HB.out.trans hb
  clear hf hb HF HB
  go_wp2_with fail
  refine (put_any 7 true _ HF2.out).mono ?_
  rintro e w3 ⟨rfl, hf, hb⟩
  have HF3 : Hid (Fd w3 w.heap.size (.pointer (some ⟨g, 0, none⟩)) 2 [7] [5] false) := hf
  have HB3 : Hid (Below w.heap.size w w3) := HB2.out.trans hb
  clear hf hb HF2 HB2
  go_wp2_with fail
  refine (take_any _ HF3.out).mono ?_
  rintro e w4 ⟨rfl, hf, hb⟩
  have HF4 : Hid (Fd w4 w.heap.size (.pointer (some ⟨g, 0, none⟩)) 2 [] [5] false) := hf
  have HB4 : Hid (Below w.heap.size w w4) := HB3.out.trans hb
  clear hf hb HF3 HB3
  simp only [tkV, tkB, tkE]
  go_wp2_with fail
  refine (take_any _ HF4.out).mono ?_
  rintro e w5 ⟨rfl, hf, hb⟩
  have HF5 : Hid (Fd w5 w.heap.size (.pointer (some ⟨g, 0, none⟩)) 2 [] [] false) := hf
  have HB5 : Hid (Below w.heap.size w w5) := HB4.out.trans hb
  clear hf hb HF4 HB4
  simp only [tkV, tkB, tkE]
  go_wp2_with fail
  refine (take_any _ HF5.out).mono ?_
  rintro e w6 ⟨rfl, hf, hb⟩
  have HB6 : Hid (Below w.heap.size w w6) := HB5.out.trans hb
  clear hf hb HF5 HB5
  simp only [tkV, tkB, tkE]
  go_wp2
  go_ret
  exact ⟨rfl, HB6.out⟩
end Go.Proofs.Ytkamambgpcdonaa
