/- The contracts of wide.formed, strings.CutPrefix at a minus. -/
import Derived.Test.YtldbglkapopbiaaW6
import Derived.Lib.Strings
import Derived.Lib.IndexBytes
namespace Go.Proofs.Ytldbglkapopbiaa
open Go.RowKit

/-- Not empty; no nought ahead that is not needed. -/
def Head (l : List UInt8) (neg : Bool) : Prop := 0 < l.length ∧ ¬ (l.head? = some 48 ∧ (neg = true ∨ 1 < l.length))
def Formed (l : List UInt8) (neg : Bool) : Prop := Head l neg ∧ AllDigits l
theorem head_get (s : ByteArray) (h : 0 < s.size) : s.data.toList.head? = some s[0] := by
  rw [List.head?_eq_getElem?]
  exact Lib.data_getElem? s 0 h
theorem size_len (s : ByteArray) : s.data.toList.length = s.size := by simp
theorem empty_of (s : ByteArray) (h : s.size = 0) : s.toList.isEmpty = true := by
  rw [ByteArray.toList_eq, List.isEmpty_iff_length_eq_zero, size_len]; exact h
theorem not_empty_of (s : ByteArray) (h : 0 < s.size) : s.toList.isEmpty = false := by
  rw [ByteArray.toList_eq]
  cases e : s.data.toList with
  | nil => have := size_len s; rw [e] at this; simp at this; omega
  | cons a l => rfl

set_option maxRecDepth 100000 in
set_option maxHeartbeats 400000 in
theorem formed_empty (s : ByteArray) (neg : Bool) (h : s.size = 0) (w : World) :
    Calls Try.prog 30 #[.string s, .bool neg] w fun e w' => e = .returned (.bool false) ∧ w' = w := by
  have he := empty_of s h
  clear h
  go_enter Try.func30, Try.ntmps30
  go_wp2
  go_ret
  exact ⟨rfl, rfl⟩

set_option maxRecDepth 100000 in
set_option maxHeartbeats 400000 in
theorem formed_zero (s : ByteArray) (neg : Bool) (h : 0 < s.size) (hs : s.size ≤ maxLen) (h0 : s[0].toNat = 48) (hn : neg = true ∨ 1 < s.size) (w : World) :
    Calls Try.prog 30 #[.string s, .bool neg] w fun e w' => e = .returned (.bool false) ∧ w' = w := by
  have he := not_empty_of s h
  unfold maxLen at hs
  have hix : ((s[0].toNat : Int)) = 48 := by omega
  cases neg
  · have h1 : 1 < s.size := by simpa using hn
    clear hn h0
    go_enter Try.func30, Try.ntmps30
    go_wp2
    go_ret
    exact ⟨rfl, rfl⟩
  · clear hn h0
    go_enter Try.func30, Try.ntmps30
    go_wp2
    go_ret
    exact ⟨rfl, rfl⟩

theorem all_take (s : ByteArray) (k : Nat) (h : k < s.size) (ha : AllDigits (s.data.toList.take k)) (hd : 48 ≤ s[k].toNat ∧ s[k].toNat ≤ 57) : AllDigits (s.data.toList.take (k + 1)) := by
  rw [take_snocB s k h]
  intro c hc
  rcases List.mem_append.1 hc with hc | hc
  · exact ha c hc
  · rw [List.mem_singleton] at hc; rw [hc]; exact hd

set_option maxRecDepth 100000 in
set_option maxHeartbeats 1000000 in
theorem formed_loop (s : ByteArray) (neg : Bool) (h : 0 < s.size) (hs : s.size ≤ maxLen) (hz : s[0].toNat ≠ 48 ∨ (neg = false ∧ s.size = 1)) (w : World) :
    Calls Try.prog 30 #[.string s, .bool neg] w fun e w' => (AllDigits s.data.toList ∧ e = .returned (.bool true) ∨ ¬ AllDigits s.data.toList ∧ e = .returned (.bool false)) ∧ w' = w := by
  have he := not_empty_of s h
  unfold maxLen at hs
  obtain ⟨c0, hc0⟩ : ∃ c : Int, c = (s[0].toNat : Int) := ⟨_, rfl⟩
  have hix0 : (s[0].toNat : Int) = c0 := hc0.symm
  by_cases hz1 : s[0].toNat = 48
  · have hn : neg = false := by rcases hz with hz | hz; exact absurd hz1 hz; exact hz.1
    have h1 : s.size ≤ 1 := by rcases hz with hz | hz; exact absurd hz1 hz; omega
    subst hn
    have hb : (c0 == 48) = true := by simp; omega
    have hb1 : decide (1 < (s.size : Int)) = false := by simp; omega
    clear hz hc0 hz1
    go_enter Try.func30, Try.ntmps30
    go_wp2_with fail
    clear hix0 hb he hb1
    go_loop [23] (fun i => ∃ k : Nat, k ≤ s.size ∧ i = .int .i64 k ∧ AllDigits (s.data.toList.take k)) (fun i => s.size - (intOf i).toNat)
    case atStart => exact ⟨0, Nat.zero_le _, rfl, by intro c hc; simp at hc⟩
    case round =>
      obtain ⟨k, hk, rfl, ha⟩ := hrel
      have HA : Hid (AllDigits (s.data.toList.take k)) := ha
      clear ha
      by_cases hlt : k < s.size
      · obtain ⟨c, hc⟩ : ∃ c : Int, c = (s[k].toNat : Int) := ⟨_, rfl⟩
        have HC : Hid (c = (s[k].toNat : Int)) := hc
        have hix : (s[k].toNat : Int) = c := hc.symm
        clear hc
        by_cases l1 : c < 48
        · have b1 : decide (c < 48) = true := by simpa using l1
          have HN : Hid (¬ AllDigits s.data.toList) := by
            intro ha; have := ha _ (get_mem s k hlt); have := HC.out; omega
          go_wp2_with fail
          go_ret
          exact ⟨.inr ⟨HN.out, rfl⟩, rfl⟩
        · have b1 : decide (c < 48) = false := by simpa using l1
          by_cases l2 : 57 < c
          · have b2 : decide (57 < c) = true := by simpa using l2
            have HN : Hid (¬ AllDigits s.data.toList) := by
              intro ha; have := ha _ (get_mem s k hlt); have := HC.out; omega
            go_wp2_with fail
            go_ret
            exact ⟨.inr ⟨HN.out, rfl⟩, rfl⟩
          · have b2 : decide (57 < c) = false := by simpa using l2
            have HN : Hid (AllDigits (s.data.toList.take (k + 1))) := all_take s k hlt HA.out (by have := HC.out; omega)
            go_wp2_with fail
            go_round
            case rel => exact ⟨k + 1, by omega, by go_num, HN.out⟩
            case measure => simp [intOf]; omega
      · have HN : Hid (AllDigits s.data.toList) := by
          have e : s.data.toList.take k = s.data.toList := List.take_of_length_le (by rw [size_len]; omega)
          have := HA.out; rw [e] at this; exact this
        go_wp2_with fail
        go_ret
        exact ⟨.inl ⟨HN.out, rfl⟩, rfl⟩
  · have hb : (c0 == 48) = false := by simp; omega
    clear hz hc0 hz1
    go_enter Try.func30, Try.ntmps30
    go_wp2_with fail
    clear hix0 hb he
    go_loop [23] (fun i => ∃ k : Nat, k ≤ s.size ∧ i = .int .i64 k ∧ AllDigits (s.data.toList.take k)) (fun i => s.size - (intOf i).toNat)
    case atStart => exact ⟨0, Nat.zero_le _, rfl, by intro c hc; simp at hc⟩
    case round =>
      obtain ⟨k, hk, rfl, ha⟩ := hrel
      have HA : Hid (AllDigits (s.data.toList.take k)) := ha
      clear ha
      by_cases hlt : k < s.size
      · obtain ⟨c, hc⟩ : ∃ c : Int, c = (s[k].toNat : Int) := ⟨_, rfl⟩
        have HC : Hid (c = (s[k].toNat : Int)) := hc
        have hix : (s[k].toNat : Int) = c := hc.symm
        clear hc
        by_cases l1 : c < 48
        · have b1 : decide (c < 48) = true := by simpa using l1
          have HN : Hid (¬ AllDigits s.data.toList) := by
            intro ha; have := ha _ (get_mem s k hlt); have := HC.out; omega
          go_wp2_with fail
          go_ret
          exact ⟨.inr ⟨HN.out, rfl⟩, rfl⟩
        · have b1 : decide (c < 48) = false := by simpa using l1
          by_cases l2 : 57 < c
          · have b2 : decide (57 < c) = true := by simpa using l2
            have HN : Hid (¬ AllDigits s.data.toList) := by
              intro ha; have := ha _ (get_mem s k hlt); have := HC.out; omega
            go_wp2_with fail
            go_ret
            exact ⟨.inr ⟨HN.out, rfl⟩, rfl⟩
          · have b2 : decide (57 < c) = false := by simpa using l2
            have HN : Hid (AllDigits (s.data.toList.take (k + 1))) := all_take s k hlt HA.out (by have := HC.out; omega)
            go_wp2_with fail
            go_round
            case rel => exact ⟨k + 1, by omega, by go_num, HN.out⟩
            case measure => simp [intOf]; omega
      · have HN : Hid (AllDigits s.data.toList) := by
          have e : s.data.toList.take k = s.data.toList := List.take_of_length_le (by rw [size_len]; omega)
          have := HA.out; rw [e] at this; exact this
        go_wp2_with fail
        go_ret
        exact ⟨.inl ⟨HN.out, rfl⟩, rfl⟩

/-- formed, whatever it is handed. -/
theorem formed_any (s : ByteArray) (neg : Bool) (hs : s.size ≤ maxLen) (w : World) :
    Calls Try.prog 30 #[.string s, .bool neg] w fun e w' => (Formed s.data.toList neg ∧ e = .returned (.bool true) ∨ ¬ Formed s.data.toList neg ∧ e = .returned (.bool false)) ∧ w' = w := by
  by_cases h : s.size = 0
  · refine (formed_empty s neg h w).mono fun e w' ⟨he, hw⟩ => ⟨.inr ⟨?_, he⟩, hw⟩
    intro hf; have := hf.1.1; rw [size_len] at this; omega
  · have h' : 0 < s.size := by omega
    have hh := head_get s h'
    by_cases hz : s[0].toNat = 48 ∧ (neg = true ∨ 1 < s.size)
    · refine (formed_zero s neg h' hs hz.1 hz.2 w).mono fun e w' ⟨he, hw⟩ => ⟨.inr ⟨?_, he⟩, hw⟩
      intro hf
      refine hf.1.2 ⟨?_, ?_⟩
      · rw [hh]; congr 1; exact UInt8.toNat_inj.1 hz.1
      · rw [size_len]; exact hz.2
    · have hH : Head s.data.toList neg := by
        refine ⟨by rw [size_len]; exact h', ?_⟩
        rintro ⟨h1, h2⟩
        rw [size_len] at h2
        rw [hh] at h1
        have : s[0] = 48 := by simpa using h1
        exact hz ⟨by rw [this]; rfl, h2⟩
      have hz' : s[0].toNat ≠ 48 ∨ (neg = false ∧ s.size = 1) := by
        by_cases g : s[0].toNat = 48
        · right
          refine ⟨?_, ?_⟩
          · cases neg with
            | false => rfl
            | true => exact absurd ⟨g, .inl rfl⟩ hz
          · rcases Nat.lt_or_ge 1 s.size with g1 | g1
            · exact absurd ⟨g, .inr g1⟩ hz
            · omega
        · exact .inl g
      refine (formed_loop s neg h' hs hz' w).mono fun e w' ⟨he, hw⟩ => ⟨?_, hw⟩
      rcases he with ⟨ha, he⟩ | ⟨ha, he⟩
      · exact .inl ⟨⟨hH, ha⟩, he⟩
      · exact .inr ⟨fun hf => ha hf.2, he⟩

/-- A text without its minus, and whether it has one. -/
def cutL (l : List UInt8) : List UInt8 × Bool := if l.head? = some 45 then (l.tail, true) else (l, false)

theorem ext1 (s : ByteArray) (h : 0 < s.size) : (s.extract 0 1).toList = [s[0]] := by
  rw [ByteArray.toList_eq, Lib.extract_data]
  have e := head_get s h
  cases hl : s.data.toList with
  | nil => rw [hl] at e; cases e
  | cons a l => rw [hl] at e; simp at e; simp [e]

set_option maxHeartbeats 400000 in
theorem cut_yes (s : ByteArray) (h : 0 < s.size) (hs : s.size ≤ maxLen) (h0 : s[0] = 45) (w : World) :
    Calls Try.prog 29 #[.string s, .string ⟨#[45]⟩] w fun e w' => e = .returned (.tuple #[.string (s.extract 1 s.size), .bool true]) ∧ w' = w := by
  unfold maxLen at hs
  have he : ((s.extract 0 1).toList == [45]) = true := by rw [ext1 s h, h0]; rfl
  clear h0
  go_enter Try.func29, Try.ntmps29
  go_wp2
  go_ret2
  exact ⟨rfl, rfl⟩
set_option maxHeartbeats 400000 in
theorem cut_no (s : ByteArray) (h : 0 < s.size) (hs : s.size ≤ maxLen) (h0 : s[0] ≠ 45) (w : World) :
    Calls Try.prog 29 #[.string s, .string ⟨#[45]⟩] w fun e w' => e = .returned (.tuple #[.string s, .bool false]) ∧ w' = w := by
  unfold maxLen at hs
  have he : ((s.extract 0 1).toList == [45]) = false := by rw [ext1 s h]; simp [h0]
  clear h0
  go_enter Try.func29, Try.ntmps29
  go_wp2
  go_ret2
  exact ⟨rfl, rfl⟩
set_option maxHeartbeats 400000 in
theorem cut_empty (s : ByteArray) (h : s.size = 0) (w : World) :
    Calls Try.prog 29 #[.string s, .string ⟨#[45]⟩] w fun e w' => e = .returned (.tuple #[.string s, .bool false]) ∧ w' = w := by
  go_enter Try.func29, Try.ntmps29
  go_wp2
  go_ret2
  exact ⟨rfl, rfl⟩
theorem cut_any (s : ByteArray) (hs : s.size ≤ maxLen) (w : World) : ∃ t : ByteArray, t.data.toList = (cutL s.data.toList).1 ∧ t.size ≤ maxLen ∧
    Calls Try.prog 29 #[.string s, .string ⟨#[45]⟩] w fun e w' => e = .returned (.tuple #[.string t, .bool (cutL s.data.toList).2]) ∧ w' = w := by
  by_cases h : s.size = 0
  · have e : cutL s.data.toList = (s.data.toList, false) := by
      have : s.data.toList = [] := List.length_eq_zero_iff.1 (by rw [size_len]; exact h)
      unfold cutL; rw [this]; rfl
    rw [e]; exact ⟨s, rfl, hs, cut_empty s h w⟩
  · have h' : 0 < s.size := by omega
    have hh := head_get s h'
    by_cases h0 : s[0] = 45
    · have e : cutL s.data.toList = (s.data.toList.tail, true) := by unfold cutL; rw [hh, if_pos (by rw [h0])]
      rw [e]
      have e2 := Lib.extract_to_end s 1
      refine ⟨s.extract 1 s.size, ?_, ?_, cut_yes s h' hs h0 w⟩
      · rw [e2]; simp
      · have : (s.extract 1 s.size).size = (s.extract 1 s.size).data.toList.length := (size_len _).symm
        rw [this, e2, List.length_drop, size_len]; omega
    · have e : cutL s.data.toList = (s.data.toList, false) := by unfold cutL; rw [hh, if_neg (by simpa using h0)]
      rw [e]; exact ⟨s, rfl, hs, cut_no s h' hs h0 w⟩
end Go.Proofs.Ytldbglkapopbiaa
