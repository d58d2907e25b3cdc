/- The document's file system: is a text a name? (written by mkrg5.py) -/
import Derived.Test.YtijablmejjepaaaRG4
namespace Go.Proofs.Ytijablmejjepaaa
open Go.RowKit Go.Maps Go.Sort

theorem all_next {l : List UInt8} {k : Nat} (hk : k < l.length) : (l.take (k + 1)).all sfOkC = ((l.take k).all sfOkC && sfOkC l[k]) := by
  rw [List.take_add_one, List.getElem?_eq_getElem hk, List.all_append]
  simp
set_option maxRecDepth 100000 in
set_option maxHeartbeats 4000000 in
theorem refIsName_b (s : ByteArray) (hS : s.size < 9223372036854775807) (w : World) : Calls Try.prog 41 #[.string s] w fun e w' => e = .returned (.bool (sfName s.data.toList)) ∧ w' = w := by
  have hsl : s.data.toList.length = s.size := Array.length_toList
  have HL : Hid (s.data.toList.length = s.size) := hsl
  obtain ⟨o0, HO⟩ := hid_ex (decide (1 ≤ s.size) && decide (s.size ≤ 32))
  have HE : Hid (sfName s.data.toList = (o0 && s.data.toList.all sfOkC)) := by show _ = _; unfold sfName; rw [HO.out, hsl]
  clear hsl
  have hal : s.size < 1 ∨ (1 ≤ s.size ∧ 32 < s.size) ∨ (1 ≤ s.size ∧ s.size ≤ 32) := by omega
  rcases hal with hz | hz | hz
  · have ho : o0 = false := by rw [HO.out, decide_eq_false (by omega : ¬ 1 ≤ s.size)]; rfl
    clear HO
    subst ho
    have h1 : ¬ (0 : Int) < (s.size : Int) := by omega
    go_enter Try.func41, Try.ntmps41
    go_wp2_with fail
    go_loopw [3, 4] (fun o i wr => ∃ (k : Nat) (b : Bool), o = .bool b ∧ i = .int .i64 (k : Int) ∧ k ≤ s.size ∧ Hid (b = (false && (s.data.toList.take k).all sfOkC)) ∧ wr = w) (fun _ i _ => s.size - (intOf i).toNat)
    case atStart => exact ⟨0, false, rfl, rfl, by omega, rfl, rfl⟩
    case round =>
      obtain ⟨k, b, rfl, rfl, hk, HA, rfl⟩ := hrel
      by_cases hlt : k < s.size
      · have hxe : s[k] = s.data.toList[k]'(by have := HL.out; omega) := rfl
        have HT : Hid ((b && sfOkC s[k]) = (false && (s.data.toList.take (k + 1)).all sfOkC)) := by show _ = _; rw [all_next (by have := HL.out; omega), HA.out, hxe, Bool.and_assoc]
        clear hxe HA
        have hlt' : (k : Int) < (s.size : Int) := by omega
        generalize hx : s[k] = x at *
        have hall : (97 ≤ x.toNat ∧ x.toNat ≤ 122) ∨ (97 ≤ x.toNat ∧ 122 < x.toNat) ∨ (x.toNat < 97 ∧ 48 ≤ x.toNat ∧ x.toNat ≤ 57) ∨ (x.toNat < 97 ∧ 48 ≤ x.toNat ∧ 57 < x.toNat) ∨ (x.toNat < 48 ∧ x.toNat = 46) ∨ (x.toNat < 48 ∧ x.toNat ≠ 46 ∧ x.toNat = 45) ∨ (x.toNat < 48 ∧ x.toNat ≠ 46 ∧ x.toNat ≠ 45) := by omega
        rcases hall with h | h | h | h | h | h | h
        · have hb : sfOkC x = true := by unfold sfOkC; simp; omega
          have i0 : (97 : Int) ≤ (x.toNat : Int) := by omega
          have i1 : (x.toNat : Int) ≤ 122 := by omega
          have i2 : (48 : Int) ≤ (x.toNat : Int) := by omega
          have i3 : ¬ (x.toNat : Int) ≤ 57 := by omega
          rw [hb] at HT
          clear hb h
          cases b with
          | false =>
            go_wp2_with fail
            go_roundw
            case rel => exact ⟨k + 1, false, rfl, by go_num, by omega, HT, trivial⟩
            case measure => simp [intOf]; omega
          | true =>
            go_wp2_with fail
            go_roundw
            case rel => exact ⟨k + 1, true, rfl, by go_num, by omega, HT, trivial⟩
            case measure => simp [intOf]; omega
        · have hb : sfOkC x = false := by unfold sfOkC; simp; omega
          have i0 : (97 : Int) ≤ (x.toNat : Int) := by omega
          have i1 : ¬ (x.toNat : Int) ≤ 122 := by omega
          have i2 : (48 : Int) ≤ (x.toNat : Int) := by omega
          have i3 : ¬ (x.toNat : Int) ≤ 57 := by omega
          have i4 : ((x.toNat : Int) == 46) = false := by simp; omega
          have i5 : ((x.toNat : Int) == 45) = false := by simp; omega
          rw [hb] at HT
          clear hb h
          cases b with
          | false =>
            go_wp2_with fail
            go_roundw
            case rel => exact ⟨k + 1, false, rfl, by go_num, by omega, HT, trivial⟩
            case measure => simp [intOf]; omega
          | true =>
            go_wp2_with fail
            go_roundw
            case rel => exact ⟨k + 1, false, rfl, by go_num, by omega, HT, trivial⟩
            case measure => simp [intOf]; omega
        · have hb : sfOkC x = true := by unfold sfOkC; simp; omega
          have i0 : ¬ (97 : Int) ≤ (x.toNat : Int) := by omega
          have i1 : (48 : Int) ≤ (x.toNat : Int) := by omega
          have i2 : (x.toNat : Int) ≤ 57 := by omega
          rw [hb] at HT
          clear hb h
          cases b with
          | false =>
            go_wp2_with fail
            go_roundw
            case rel => exact ⟨k + 1, false, rfl, by go_num, by omega, HT, trivial⟩
            case measure => simp [intOf]; omega
          | true =>
            go_wp2_with fail
            go_roundw
            case rel => exact ⟨k + 1, true, rfl, by go_num, by omega, HT, trivial⟩
            case measure => simp [intOf]; omega
        · have hb : sfOkC x = false := by unfold sfOkC; simp; omega
          have i0 : ¬ (97 : Int) ≤ (x.toNat : Int) := by omega
          have i1 : (48 : Int) ≤ (x.toNat : Int) := by omega
          have i2 : ¬ (x.toNat : Int) ≤ 57 := by omega
          have i3 : ((x.toNat : Int) == 46) = false := by simp; omega
          have i4 : ((x.toNat : Int) == 45) = false := by simp; omega
          rw [hb] at HT
          clear hb h
          cases b with
          | false =>
            go_wp2_with fail
            go_roundw
            case rel => exact ⟨k + 1, false, rfl, by go_num, by omega, HT, trivial⟩
            case measure => simp [intOf]; omega
          | true =>
            go_wp2_with fail
            go_roundw
            case rel => exact ⟨k + 1, false, rfl, by go_num, by omega, HT, trivial⟩
            case measure => simp [intOf]; omega
        · have hb : sfOkC x = true := by unfold sfOkC; simp; omega
          have i0 : ¬ (97 : Int) ≤ (x.toNat : Int) := by omega
          have i1 : ¬ (48 : Int) ≤ (x.toNat : Int) := by omega
          have i2 : ((x.toNat : Int) == 46) = true := by simp; omega
          rw [hb] at HT
          clear hb h
          cases b with
          | false =>
            go_wp2_with fail
            go_roundw
            case rel => exact ⟨k + 1, false, rfl, by go_num, by omega, HT, trivial⟩
            case measure => simp [intOf]; omega
          | true =>
            go_wp2_with fail
            go_roundw
            case rel => exact ⟨k + 1, true, rfl, by go_num, by omega, HT, trivial⟩
            case measure => simp [intOf]; omega
        · have hb : sfOkC x = true := by unfold sfOkC; simp; omega
          have i0 : ¬ (97 : Int) ≤ (x.toNat : Int) := by omega
          have i1 : ¬ (48 : Int) ≤ (x.toNat : Int) := by omega
          have i2 : ((x.toNat : Int) == 46) = false := by simp; omega
          have i3 : ((x.toNat : Int) == 45) = true := by simp; omega
          rw [hb] at HT
          clear hb h
          cases b with
          | false =>
            go_wp2_with fail
            go_roundw
            case rel => exact ⟨k + 1, false, rfl, by go_num, by omega, HT, trivial⟩
            case measure => simp [intOf]; omega
          | true =>
            go_wp2_with fail
            go_roundw
            case rel => exact ⟨k + 1, true, rfl, by go_num, by omega, HT, trivial⟩
            case measure => simp [intOf]; omega
        · have hb : sfOkC x = false := by unfold sfOkC; simp; omega
          have i0 : ¬ (97 : Int) ≤ (x.toNat : Int) := by omega
          have i1 : ¬ (48 : Int) ≤ (x.toNat : Int) := by omega
          have i2 : ((x.toNat : Int) == 46) = false := by simp; omega
          have i3 : ((x.toNat : Int) == 45) = false := by simp; omega
          rw [hb] at HT
          clear hb h
          cases b with
          | false =>
            go_wp2_with fail
            go_roundw
            case rel => exact ⟨k + 1, false, rfl, by go_num, by omega, HT, trivial⟩
            case measure => simp [intOf]; omega
          | true =>
            go_wp2_with fail
            go_roundw
            case rel => exact ⟨k + 1, false, rfl, by go_num, by omega, HT, trivial⟩
            case measure => simp [intOf]; omega
      · have hlt' : ¬ (k : Int) < (s.size : Int) := by omega
        have HN : Hid (sfName s.data.toList = b) := by
          show _ = _
          rw [HE.out, HA.out, List.take_of_length_le (by have := HL.out; omega)]
        clear HE HA HL
        go_wp2_with fail
        go_ret
        exact ⟨by rw [HN.out]; rfl, rfl⟩
  · have ho : o0 = false := by rw [HO.out, decide_eq_false (by omega : ¬ s.size ≤ 32), Bool.and_false]
    clear HO
    subst ho
    have h1 : (0 : Int) < (s.size : Int) := by omega
    have h2 : ¬ (s.size : Int) ≤ 32 := by omega
    go_enter Try.func41, Try.ntmps41
    go_wp2_with fail
    go_loopw [3, 4] (fun o i wr => ∃ (k : Nat) (b : Bool), o = .bool b ∧ i = .int .i64 (k : Int) ∧ k ≤ s.size ∧ Hid (b = (false && (s.data.toList.take k).all sfOkC)) ∧ wr = w) (fun _ i _ => s.size - (intOf i).toNat)
    case atStart => exact ⟨0, false, rfl, rfl, by omega, rfl, rfl⟩
    case round =>
      obtain ⟨k, b, rfl, rfl, hk, HA, rfl⟩ := hrel
      by_cases hlt : k < s.size
      · have hxe : s[k] = s.data.toList[k]'(by have := HL.out; omega) := rfl
        have HT : Hid ((b && sfOkC s[k]) = (false && (s.data.toList.take (k + 1)).all sfOkC)) := by show _ = _; rw [all_next (by have := HL.out; omega), HA.out, hxe, Bool.and_assoc]
        clear hxe HA
        have hlt' : (k : Int) < (s.size : Int) := by omega
        generalize hx : s[k] = x at *
        have hall : (97 ≤ x.toNat ∧ x.toNat ≤ 122) ∨ (97 ≤ x.toNat ∧ 122 < x.toNat) ∨ (x.toNat < 97 ∧ 48 ≤ x.toNat ∧ x.toNat ≤ 57) ∨ (x.toNat < 97 ∧ 48 ≤ x.toNat ∧ 57 < x.toNat) ∨ (x.toNat < 48 ∧ x.toNat = 46) ∨ (x.toNat < 48 ∧ x.toNat ≠ 46 ∧ x.toNat = 45) ∨ (x.toNat < 48 ∧ x.toNat ≠ 46 ∧ x.toNat ≠ 45) := by omega
        rcases hall with h | h | h | h | h | h | h
        · have hb : sfOkC x = true := by unfold sfOkC; simp; omega
          have i0 : (97 : Int) ≤ (x.toNat : Int) := by omega
          have i1 : (x.toNat : Int) ≤ 122 := by omega
          have i2 : (48 : Int) ≤ (x.toNat : Int) := by omega
          have i3 : ¬ (x.toNat : Int) ≤ 57 := by omega
          rw [hb] at HT
          clear hb h
          cases b with
          | false =>
            go_wp2_with fail
            go_roundw
            case rel => exact ⟨k + 1, false, rfl, by go_num, by omega, HT, trivial⟩
            case measure => simp [intOf]; omega
          | true =>
            go_wp2_with fail
            go_roundw
            case rel => exact ⟨k + 1, true, rfl, by go_num, by omega, HT, trivial⟩
            case measure => simp [intOf]; omega
        · have hb : sfOkC x = false := by unfold sfOkC; simp; omega
          have i0 : (97 : Int) ≤ (x.toNat : Int) := by omega
          have i1 : ¬ (x.toNat : Int) ≤ 122 := by omega
          have i2 : (48 : Int) ≤ (x.toNat : Int) := by omega
          have i3 : ¬ (x.toNat : Int) ≤ 57 := by omega
          have i4 : ((x.toNat : Int) == 46) = false := by simp; omega
          have i5 : ((x.toNat : Int) == 45) = false := by simp; omega
          rw [hb] at HT
          clear hb h
          cases b with
          | false =>
            go_wp2_with fail
            go_roundw
            case rel => exact ⟨k + 1, false, rfl, by go_num, by omega, HT, trivial⟩
            case measure => simp [intOf]; omega
          | true =>
            go_wp2_with fail
            go_roundw
            case rel => exact ⟨k + 1, false, rfl, by go_num, by omega, HT, trivial⟩
            case measure => simp [intOf]; omega
        · have hb : sfOkC x = true := by unfold sfOkC; simp; omega
          have i0 : ¬ (97 : Int) ≤ (x.toNat : Int) := by omega
          have i1 : (48 : Int) ≤ (x.toNat : Int) := by omega
          have i2 : (x.toNat : Int) ≤ 57 := by omega
          rw [hb] at HT
          clear hb h
          cases b with
          | false =>
            go_wp2_with fail
            go_roundw
            case rel => exact ⟨k + 1, false, rfl, by go_num, by omega, HT, trivial⟩
            case measure => simp [intOf]; omega
          | true =>
            go_wp2_with fail
            go_roundw
            case rel => exact ⟨k + 1, true, rfl, by go_num, by omega, HT, trivial⟩
            case measure => simp [intOf]; omega
        · have hb : sfOkC x = false := by unfold sfOkC; simp; omega
          have i0 : ¬ (97 : Int) ≤ (x.toNat : Int) := by omega
          have i1 : (48 : Int) ≤ (x.toNat : Int) := by omega
          have i2 : ¬ (x.toNat : Int) ≤ 57 := by omega
          have i3 : ((x.toNat : Int) == 46) = false := by simp; omega
          have i4 : ((x.toNat : Int) == 45) = false := by simp; omega
          rw [hb] at HT
          clear hb h
          cases b with
          | false =>
            go_wp2_with fail
            go_roundw
            case rel => exact ⟨k + 1, false, rfl, by go_num, by omega, HT, trivial⟩
            case measure => simp [intOf]; omega
          | true =>
            go_wp2_with fail
            go_roundw
            case rel => exact ⟨k + 1, false, rfl, by go_num, by omega, HT, trivial⟩
            case measure => simp [intOf]; omega
        · have hb : sfOkC x = true := by unfold sfOkC; simp; omega
          have i0 : ¬ (97 : Int) ≤ (x.toNat : Int) := by omega
          have i1 : ¬ (48 : Int) ≤ (x.toNat : Int) := by omega
          have i2 : ((x.toNat : Int) == 46) = true := by simp; omega
          rw [hb] at HT
          clear hb h
          cases b with
          | false =>
            go_wp2_with fail
            go_roundw
            case rel => exact ⟨k + 1, false, rfl, by go_num, by omega, HT, trivial⟩
            case measure => simp [intOf]; omega
          | true =>
            go_wp2_with fail
            go_roundw
            case rel => exact ⟨k + 1, true, rfl, by go_num, by omega, HT, trivial⟩
            case measure => simp [intOf]; omega
        · have hb : sfOkC x = true := by unfold sfOkC; simp; omega
          have i0 : ¬ (97 : Int) ≤ (x.toNat : Int) := by omega
          have i1 : ¬ (48 : Int) ≤ (x.toNat : Int) := by omega
          have i2 : ((x.toNat : Int) == 46) = false := by simp; omega
          have i3 : ((x.toNat : Int) == 45) = true := by simp; omega
          rw [hb] at HT
          clear hb h
          cases b with
          | false =>
            go_wp2_with fail
            go_roundw
            case rel => exact ⟨k + 1, false, rfl, by go_num, by omega, HT, trivial⟩
            case measure => simp [intOf]; omega
          | true =>
            go_wp2_with fail
            go_roundw
            case rel => exact ⟨k + 1, true, rfl, by go_num, by omega, HT, trivial⟩
            case measure => simp [intOf]; omega
        · have hb : sfOkC x = false := by unfold sfOkC; simp; omega
          have i0 : ¬ (97 : Int) ≤ (x.toNat : Int) := by omega
          have i1 : ¬ (48 : Int) ≤ (x.toNat : Int) := by omega
          have i2 : ((x.toNat : Int) == 46) = false := by simp; omega
          have i3 : ((x.toNat : Int) == 45) = false := by simp; omega
          rw [hb] at HT
          clear hb h
          cases b with
          | false =>
            go_wp2_with fail
            go_roundw
            case rel => exact ⟨k + 1, false, rfl, by go_num, by omega, HT, trivial⟩
            case measure => simp [intOf]; omega
          | true =>
            go_wp2_with fail
            go_roundw
            case rel => exact ⟨k + 1, false, rfl, by go_num, by omega, HT, trivial⟩
            case measure => simp [intOf]; omega
      · have hlt' : ¬ (k : Int) < (s.size : Int) := by omega
        have HN : Hid (sfName s.data.toList = b) := by
          show _ = _
          rw [HE.out, HA.out, List.take_of_length_le (by have := HL.out; omega)]
        clear HE HA HL
        go_wp2_with fail
        go_ret
        exact ⟨by rw [HN.out]; rfl, rfl⟩
  · have ho : o0 = true := by rw [HO.out, decide_eq_true (by omega : 1 ≤ s.size), decide_eq_true (by omega : s.size ≤ 32)]; rfl
    clear HO
    subst ho
    have h1 : (0 : Int) < (s.size : Int) := by omega
    have h2 : (s.size : Int) ≤ 32 := by omega
    go_enter Try.func41, Try.ntmps41
    go_wp2_with fail
    go_loopw [3, 4] (fun o i wr => ∃ (k : Nat) (b : Bool), o = .bool b ∧ i = .int .i64 (k : Int) ∧ k ≤ s.size ∧ Hid (b = (true && (s.data.toList.take k).all sfOkC)) ∧ wr = w) (fun _ i _ => s.size - (intOf i).toNat)
    case atStart => exact ⟨0, true, rfl, rfl, by omega, rfl, rfl⟩
    case round =>
      obtain ⟨k, b, rfl, rfl, hk, HA, rfl⟩ := hrel
      by_cases hlt : k < s.size
      · have hxe : s[k] = s.data.toList[k]'(by have := HL.out; omega) := rfl
        have HT : Hid ((b && sfOkC s[k]) = (true && (s.data.toList.take (k + 1)).all sfOkC)) := by show _ = _; rw [all_next (by have := HL.out; omega), HA.out, hxe, Bool.and_assoc]
        clear hxe HA
        have hlt' : (k : Int) < (s.size : Int) := by omega
        generalize hx : s[k] = x at *
        have hall : (97 ≤ x.toNat ∧ x.toNat ≤ 122) ∨ (97 ≤ x.toNat ∧ 122 < x.toNat) ∨ (x.toNat < 97 ∧ 48 ≤ x.toNat ∧ x.toNat ≤ 57) ∨ (x.toNat < 97 ∧ 48 ≤ x.toNat ∧ 57 < x.toNat) ∨ (x.toNat < 48 ∧ x.toNat = 46) ∨ (x.toNat < 48 ∧ x.toNat ≠ 46 ∧ x.toNat = 45) ∨ (x.toNat < 48 ∧ x.toNat ≠ 46 ∧ x.toNat ≠ 45) := by omega
        rcases hall with h | h | h | h | h | h | h
        · have hb : sfOkC x = true := by unfold sfOkC; simp; omega
          have i0 : (97 : Int) ≤ (x.toNat : Int) := by omega
          have i1 : (x.toNat : Int) ≤ 122 := by omega
          have i2 : (48 : Int) ≤ (x.toNat : Int) := by omega
          have i3 : ¬ (x.toNat : Int) ≤ 57 := by omega
          rw [hb] at HT
          clear hb h
          cases b with
          | false =>
            go_wp2_with fail
            go_roundw
            case rel => exact ⟨k + 1, false, rfl, by go_num, by omega, HT, trivial⟩
            case measure => simp [intOf]; omega
          | true =>
            go_wp2_with fail
            go_roundw
            case rel => exact ⟨k + 1, true, rfl, by go_num, by omega, HT, trivial⟩
            case measure => simp [intOf]; omega
        · have hb : sfOkC x = false := by unfold sfOkC; simp; omega
          have i0 : (97 : Int) ≤ (x.toNat : Int) := by omega
          have i1 : ¬ (x.toNat : Int) ≤ 122 := by omega
          have i2 : (48 : Int) ≤ (x.toNat : Int) := by omega
          have i3 : ¬ (x.toNat : Int) ≤ 57 := by omega
          have i4 : ((x.toNat : Int) == 46) = false := by simp; omega
          have i5 : ((x.toNat : Int) == 45) = false := by simp; omega
          rw [hb] at HT
          clear hb h
          cases b with
          | false =>
            go_wp2_with fail
            go_roundw
            case rel => exact ⟨k + 1, false, rfl, by go_num, by omega, HT, trivial⟩
            case measure => simp [intOf]; omega
          | true =>
            go_wp2_with fail
            go_roundw
            case rel => exact ⟨k + 1, false, rfl, by go_num, by omega, HT, trivial⟩
            case measure => simp [intOf]; omega
        · have hb : sfOkC x = true := by unfold sfOkC; simp; omega
          have i0 : ¬ (97 : Int) ≤ (x.toNat : Int) := by omega
          have i1 : (48 : Int) ≤ (x.toNat : Int) := by omega
          have i2 : (x.toNat : Int) ≤ 57 := by omega
          rw [hb] at HT
          clear hb h
          cases b with
          | false =>
            go_wp2_with fail
            go_roundw
            case rel => exact ⟨k + 1, false, rfl, by go_num, by omega, HT, trivial⟩
            case measure => simp [intOf]; omega
          | true =>
            go_wp2_with fail
            go_roundw
            case rel => exact ⟨k + 1, true, rfl, by go_num, by omega, HT, trivial⟩
            case measure => simp [intOf]; omega
        · have hb : sfOkC x = false := by unfold sfOkC; simp; omega
          have i0 : ¬ (97 : Int) ≤ (x.toNat : Int) := by omega
          have i1 : (48 : Int) ≤ (x.toNat : Int) := by omega
          have i2 : ¬ (x.toNat : Int) ≤ 57 := by omega
          have i3 : ((x.toNat : Int) == 46) = false := by simp; omega
          have i4 : ((x.toNat : Int) == 45) = false := by simp; omega
          rw [hb] at HT
          clear hb h
          cases b with
          | false =>
            go_wp2_with fail
            go_roundw
            case rel => exact ⟨k + 1, false, rfl, by go_num, by omega, HT, trivial⟩
            case measure => simp [intOf]; omega
          | true =>
            go_wp2_with fail
            go_roundw
            case rel => exact ⟨k + 1, false, rfl, by go_num, by omega, HT, trivial⟩
            case measure => simp [intOf]; omega
        · have hb : sfOkC x = true := by unfold sfOkC; simp; omega
          have i0 : ¬ (97 : Int) ≤ (x.toNat : Int) := by omega
          have i1 : ¬ (48 : Int) ≤ (x.toNat : Int) := by omega
          have i2 : ((x.toNat : Int) == 46) = true := by simp; omega
          rw [hb] at HT
          clear hb h
          cases b with
          | false =>
            go_wp2_with fail
            go_roundw
            case rel => exact ⟨k + 1, false, rfl, by go_num, by omega, HT, trivial⟩
            case measure => simp [intOf]; omega
          | true =>
            go_wp2_with fail
            go_roundw
            case rel => exact ⟨k + 1, true, rfl, by go_num, by omega, HT, trivial⟩
            case measure => simp [intOf]; omega
        · have hb : sfOkC x = true := by unfold sfOkC; simp; omega
          have i0 : ¬ (97 : Int) ≤ (x.toNat : Int) := by omega
          have i1 : ¬ (48 : Int) ≤ (x.toNat : Int) := by omega
          have i2 : ((x.toNat : Int) == 46) = false := by simp; omega
          have i3 : ((x.toNat : Int) == 45) = true := by simp; omega
          rw [hb] at HT
          clear hb h
          cases b with
          | false =>
            go_wp2_with fail
            go_roundw
            case rel => exact ⟨k + 1, false, rfl, by go_num, by omega, HT, trivial⟩
            case measure => simp [intOf]; omega
          | true =>
            go_wp2_with fail
            go_roundw
            case rel => exact ⟨k + 1, true, rfl, by go_num, by omega, HT, trivial⟩
            case measure => simp [intOf]; omega
        · have hb : sfOkC x = false := by unfold sfOkC; simp; omega
          have i0 : ¬ (97 : Int) ≤ (x.toNat : Int) := by omega
          have i1 : ¬ (48 : Int) ≤ (x.toNat : Int) := by omega
          have i2 : ((x.toNat : Int) == 46) = false := by simp; omega
          have i3 : ((x.toNat : Int) == 45) = false := by simp; omega
          rw [hb] at HT
          clear hb h
          cases b with
          | false =>
            go_wp2_with fail
            go_roundw
            case rel => exact ⟨k + 1, false, rfl, by go_num, by omega, HT, trivial⟩
            case measure => simp [intOf]; omega
          | true =>
            go_wp2_with fail
            go_roundw
            case rel => exact ⟨k + 1, false, rfl, by go_num, by omega, HT, trivial⟩
            case measure => simp [intOf]; omega
      · have hlt' : ¬ (k : Int) < (s.size : Int) := by omega
        have HN : Hid (sfName s.data.toList = b) := by
          show _ = _
          rw [HE.out, HA.out, List.take_of_length_le (by have := HL.out; omega)]
        clear HE HA HL
        go_wp2_with fail
        go_ret
        exact ⟨by rw [HN.out]; rfl, rfl⟩
theorem refIsName_any (s : List UInt8) (hS : s.length < 9223372036854775807) (w : World) : Calls Try.prog 41 #[.string ⟨s.toArray⟩] w fun e w' => e = .returned (.bool (sfName s)) ∧ w' = w :=
  refIsName_b ⟨s.toArray⟩ (by simpa [ByteArray.size] using hS) w
end Go.Proofs.Ytijablmejjepaaa
