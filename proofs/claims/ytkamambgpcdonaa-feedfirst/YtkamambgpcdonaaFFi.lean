/- FeedFirst's walk. -/
import Derived.Test.YtkamambgpcdonaaFE3
import Derived.Test.YtkamambgpcdonaaFO1
namespace Go.Proofs.Ytkamambgpcdonaa
open Go.RowKit Go.Conc

theorem hid_ex' {α : Type} (a : α) : ∃ x, Hid (x = a) := ⟨a, rfl⟩
/-- A feed after many calls. -/
def FdS (w : World) (base : Nat) (p : Value) (n : Nat) : Prop := ∃ U O cl, Fd w base p n U O cl
set_option maxRecDepth 100000 in
set_option maxHeartbeats 4000000 in
theorem feedFirst_walk (x : Int) (v : Value) (L : List Fop) (w : World) (hR : OReads w v L) : Calls Try.prog 6 #[.int .i64 x, v] w fun e w' => e = .returned (.bool true) ∧ Below w.heap.size w w' := by
  have HR : Hid (OReads w v L) := hR
  obtain ⟨a, cap, rfl, hl1, hl2⟩ := hR.form
  clear hR
  unfold maxLen at hl2
  by_cases hx : x < 1 ∨ 64 < x
  · go_enter Try.func6, Try.ntmps6
    go_wp2_with fail
    refine (fault_new _ _ hx).mono ?_
    rintro e w' ⟨rfl, rfl⟩
    clear hx
    go_wp2_with fail
    refine (alive_any _).mono ?_
    rintro e w2 ⟨rfl, hb2⟩
    go_wp2_with fail
    go_ret
    exact ⟨rfl, hb2⟩
  · obtain ⟨n, rfl⟩ : ∃ n : Nat, x = (n : Int) := ⟨x.toNat, by omega⟩
    have h1 : 1 ≤ n := by omega
    have h64 : n ≤ 64 := by omega
    clear hx
    go_enter Try.func6, Try.ntmps6
    go_wp2_with fail
    refine (new_any n _ h1 h64).mono ?_
    rintro e w1 ⟨p, rfl, hf, hb⟩
    obtain ⟨g, rfl⟩ := hf.ptr
    have HF : Hid (FdS w1 w.heap.size (.pointer (some ⟨g, 0, none⟩)) n) := ⟨_, _, _, hf⟩
    have HB1 := (show Hid _ from hb)
    clear hf hb
    go_wp2_with fail
    go_loopw [7] (fun i wr => ∃ k : Nat, k ≤ L.length ∧ i = .int .i64 (k : Int) ∧ Hid (FdS wr w.heap.size (.pointer (some ⟨g, 0, none⟩)) n) ∧ Hid (Below w.heap.size w wr)) (fun i _ => L.length - (intOf i).toNat)
    case atStart => exact ⟨0, by omega, rfl, HF.out, HB1.out⟩
    case round =>
      obtain ⟨k, hk, rfl, HFr, HBr⟩ := hrel
      by_cases hlt : k < L.length ∧ k < 300
      · obtain ⟨hlt, h300⟩ := hlt
        have h300' : (k : Int) < 300 := by omega
        obtain ⟨r, Hr⟩ := hid_ex' (L[k]'hlt)
        obtain ⟨b, off, rfl, hbb⟩ := HR.out.ptr (by omega)
        obtain ⟨c0, c1, c2⟩ := (HR.out.below HBr.out).three hlt r Hr.out
        have hbr := HBr.out.size
        have hbl : b < wr.heap.size := by omega
        obtain ⟨rk, rv, ru⟩ := r
        simp only at c0 c1 c2
        obtain ⟨wx, Hx⟩ := hid_ex' (wr.alloc (.cells #[.int .i64 rk, .int .i64 rv, .bool ru] 31))
        have HBx : Hid (Below wr.heap.size wr wx) := by rw [Hx.out]; exact (Below.refl _ _).alloc (Nat.le_refl _) _
        have HFx : Hid (FdS wx w.heap.size (.pointer (some ⟨g, 0, none⟩)) n) := by obtain ⟨U, O, cl, hf⟩ := HFr.out; exact ⟨U, O, cl, hf.below HBx.out⟩
        have HB2 : Hid (Below w.heap.size w wx) := HBr.out.trans (HBx.out.mono hbr)
        clear HFr
        by_cases hz : rk = 0
        · subst hz
          go_wp2_with fail
          rw [← Hx.out]
          obtain ⟨U, O, cl, hf⟩ := HFx.out
          refine (put_any rv ru _ hf).mono ?_
          rintro e w3 ⟨rfl, hf3, hb3⟩
          have HF3 : Hid (FdS w3 w.heap.size (.pointer (some ⟨g, 0, none⟩)) n) := ⟨_, _, _, hf3⟩
          have HB3 : Hid (Below w.heap.size w w3) := HB2.out.trans hb3
          clear hf hf3 hb3 c0 c1 c2 hbl
          go_wp2_with fail
          go_roundw
          case rel => exact ⟨k + 1, by omega, by go_num, HF3.out, HB3.out⟩
          case measure => simp [intOf]; omega
        · have hz' : (rk == 0) = false := by simpa using hz
          clear hz
          go_wp2_with fail
          rw [← Hx.out]
          obtain ⟨U, O, cl, hf⟩ := HFx.out
          have hlu : U.length ≤ 64 := by obtain ⟨_, _, _, _, _, _, _, _, q⟩ := hf; have := q.lu; have := q.n64; omega
          have hlo : O.length ≤ 64 := by obtain ⟨_, _, _, _, _, _, _, _, q⟩ := hf; have := q.lo; have := q.n64; omega
          clear HFx
          match U, O, hf, hlu, hlo with
          | x :: U, O, hf, hlu, hlo =>
            refine (len_any _ hf).mono ?_
            rintro e w3 ⟨rfl, hf3, hb3⟩
            have HF3 : Hid (Fd w3 w.heap.size (.pointer (some ⟨g, 0, none⟩)) n (x :: U) O cl) := hf3
            have HB3 : Hid (Below w.heap.size w w3) := HB2.out.trans (hb3.mono HB2.out.size)
            clear hf hf3 hb3 c0 c1 c2 hbl
            simp only [List.length_cons] at hlu
            have hp1 : (0 : Int) < (U.length : Int) + 1 := by omega
            have hp2 : (0 : Int) < (U.length : Int) + 1 + (O.length : Int) := by omega
            go_wp2_with fail
            refine (take_any _ HF3.out).mono ?_
            rintro e w4 ⟨rfl, hf4, hb4⟩
            have HF4 : Hid (FdS w4 w.heap.size (.pointer (some ⟨g, 0, none⟩)) n) := ⟨_, _, _, hf4⟩
            have HB4 : Hid (Below w.heap.size w w4) := HB3.out.trans hb4
            clear hf4 hb4 HF3
            simp only [tkV, tkB, tkE]
            go_wp2_with fail
            go_roundw
            case rel => exact ⟨k + 1, by omega, by go_num, HF4.out, HB4.out⟩
            case measure => simp [intOf]; omega
          | [], x :: O, hf, hlu, hlo =>
            refine (len_any _ hf).mono ?_
            rintro e w3 ⟨rfl, hf3, hb3⟩
            have HF3 : Hid (Fd w3 w.heap.size (.pointer (some ⟨g, 0, none⟩)) n [] (x :: O) cl) := hf3
            have HB3 : Hid (Below w.heap.size w w3) := HB2.out.trans (hb3.mono HB2.out.size)
            clear hf hf3 hb3 c0 c1 c2 hbl
            simp only [List.length_cons] at hlo
            have hp1 : (0 : Int) < (O.length : Int) + 1 := by omega
            go_wp2_with fail
            refine (take_any _ HF3.out).mono ?_
            rintro e w4 ⟨rfl, hf4, hb4⟩
            have HF4 : Hid (FdS w4 w.heap.size (.pointer (some ⟨g, 0, none⟩)) n) := ⟨_, _, _, hf4⟩
            have HB4 : Hid (Below w.heap.size w w4) := HB3.out.trans hb4
            clear hf4 hb4 HF3
            simp only [tkV, tkB, tkE]
            go_wp2_with fail
            go_roundw
            case rel => exact ⟨k + 1, by omega, by go_num, HF4.out, HB4.out⟩
            case measure => simp [intOf]; omega
          | [], [], hf, hlu, hlo =>
            refine (len_any _ hf).mono ?_
            rintro e w3 ⟨rfl, hf3, hb3⟩
            have HF3 : Hid (Fd w3 w.heap.size (.pointer (some ⟨g, 0, none⟩)) n [] [] cl) := hf3
            have HB3 : Hid (Below w.heap.size w w3) := HB2.out.trans (hb3.mono HB2.out.size)
            clear hf hf3 hb3 c0 c1 c2 hbl
            go_wp2_with fail
            refine (take_any _ HF3.out).mono ?_
            rintro e w4 ⟨rfl, hf4, hb4⟩
            have HF4 : Hid (FdS w4 w.heap.size (.pointer (some ⟨g, 0, none⟩)) n) := ⟨_, _, _, hf4⟩
            have HB4 : Hid (Below w.heap.size w w4) := HB3.out.trans hb4
            clear hf4 hb4 HF3
            simp only [tkV, tkB, tkE]
            go_wp2_with fail
            go_roundw
            case rel => exact ⟨k + 1, by omega, by go_num, HF4.out, HB4.out⟩
            case measure => simp [intOf]; omega
      · by_cases hlt2 : k < L.length
        · have h300' : ¬ (k : Int) < 300 := by omega
          clear hlt
          go_wp2_with fail
          refine (alive_any _).mono ?_
          rintro e w2 ⟨rfl, hb2⟩
          have HB2 : Hid (Below w.heap.size w w2) := HBr.out.trans (hb2.mono HBr.out.size)
          clear hb2
          go_wp2_with fail
          go_ret
          exact ⟨rfl, HB2.out⟩
        · clear hlt
          go_wp2_with fail
          refine (alive_any _).mono ?_
          rintro e w2 ⟨rfl, hb2⟩
          have HB2 : Hid (Below w.heap.size w w2) := HBr.out.trans (hb2.mono HBr.out.size)
          clear hb2
          go_wp2_with fail
          go_ret
          exact ⟨rfl, HB2.out⟩
end Go.Proofs.Ytkamambgpcdonaa
