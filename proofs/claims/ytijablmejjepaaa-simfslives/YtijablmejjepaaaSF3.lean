/- A file system: an act is done; names; a file is cut. -/
import Derived.Test.YtijablmejjepaaaSF2
namespace Go.Proofs.Ytijablmejjepaaa
open Go.RowKit Go.Maps

theorem sfDel_le (s : List UInt8) (l : List (List UInt8 × Nat)) : (sfDel s l).length ≤ l.length := List.length_filter_le _ _
theorem sfIns_len (x : List UInt8 × Nat) : ∀ l, (sfIns x l).length = l.length + 1
  | [] => rfl
  | y :: r => by
    unfold sfIns
    split
    · rfl
    · simp [sfIns_len x r]
theorem sfPut_le (x : List UInt8 × Nat) (l : List (List UInt8 × Nat)) : (sfPut x l).length ≤ l.length + 1 := by
  unfold sfPut; rw [sfIns_len]; have := sfDel_le x.1 l; omega
theorem sfDo_le (l : List (List UInt8 × Nat)) (a : SfA) : (sfDo l a).length ≤ l.length + 1 := by
  unfold sfDo
  split
  · have := sfDel_le a.gone l; omega
  · have := sfPut_le (a.name, ‹Nat›) (sfDel a.gone l); have := sfDel_le a.gone l; omega
theorem turned_only {w w' : World} {m : Nat} (h : w.mapTurned w' m) : Onl (fun k => k = m) w w' := by
  have g := h.grown
  exact ⟨g.os, g.tape, g.output, g.size, fun k hk ho => g.block k hk (fun e => ho (by simpa using e))⟩
theorem turned_cell {w w' : World} {m : Nat} (h : w.mapTurned w' m) {a : Addr} {v : Value} (hc : w.cell? a = some v) : w'.cell? a = some v := by
  obtain ⟨es, clock, es', clock', hb, rfl⟩ := h
  have hne : a.block ≠ m := by
    intro e
    simp [World.cell?, e, hb] at hc
  simp only [World.cell?, ChangeMaps.heap_setBlock_other hb _ hne] at hc ⊢
  exact hc
theorem do_any {w : World} {m : Nat} {bl : Nat → Nat} {l : List (List UInt8 × Nat)} (h : SfMap w m bl l) (hl : l.length < maxLen) (a : SfA) (h1 : a.gone.length ≤ maxLen) (h2 : a.name.length ≤ maxLen) :
    Calls Try.prog 48 #[.agg #[.string ⟨a.gone.toArray⟩, .string ⟨a.name.toArray⟩, sfPv bl a.file], .map (some m)] w fun e w' => e = .returned (.tuple #[]) ∧ SfMap w' m bl (sfDo l a) ∧ Onl (fun k => k = m) w w' := by
  obtain ⟨gone, name, file⟩ := a
  have k1 := keyS gone h1
  have k2 := keyS name h2
  have hm := SfMap.keep (w' := w.alloc (.cells #[.string ⟨gone.toArray⟩, .string ⟨name.toArray⟩, sfPv bl file] 71)) h (Below.heap_alloc _ _ _ (World.ownsMap.lt h))
  have hle := sfDel_le gone l
  cases file with
  | none =>
    simp only [sfPv] at hm ⊢
    go_enter Try.func48, Try.ntmps48
    go_wp2_with (at_delete; refine wpList_delete_own _ rfl _ _ 40 9 rfl 66 keyedS Try.underlying40 ptrE m l.length (sfD bl l) rfl hm _ _ rfl k1 ?_; intro w1 hown1 hturn1; have c2 := turned_cell hturn1 (a := ⟨w.heap.size, 2, none⟩) (v := .pointer none) (by simp))
    refine bodyPost_end (results_none rfl _ _ _) rfl ?_
    exact ⟨rfl, .of hown1 (sfD_del bl gone l), (Onl.alloc _).then (turned_only hturn1)⟩
  | some i =>
    simp only [sfPv] at hm ⊢
    go_enter Try.func48, Try.ntmps48
    go_wp2_with (first
      | (at_delete; refine wpList_delete_own _ rfl _ _ 40 9 rfl 66 keyedS Try.underlying40 ptrE m l.length (sfD bl l) rfl hm _ _ rfl k1 ?_; intro w1 hown1 hturn1; have c1 := turned_cell hturn1 (a := ⟨w.heap.size, 1, none⟩) (v := .string ⟨name.toArray⟩) (by simp); have c2 := turned_cell hturn1 (a := ⟨w.heap.size, 2, none⟩) (v := .pointer (some ⟨bl i, 0, none⟩)) (by simp))
      | (at_mapUpdate; refine wpList_mapUpdate_in _ rfl _ _ _ 40 rfl 9 66 keyedS Try.underlying40 ptrE m l.length _ rfl hown1 hl _ _ _ rfl rfl k2 (.lit (.int .i64 (bl i : Int))) [] rfl ?_; intro w2 hown2 hturn2))
    refine bodyPost_end (results_none rfl _ _ _) rfl ?_
    refine ⟨rfl, .of hown2 ?_, ((Onl.alloc _).then (turned_only hturn1)).then (turned_only hturn2)⟩
    rw [sfD_del]
    exact sfD_put bl (name, i) _
theorem sfOk_take {l : List UInt8} {k : Nat} (hk : k < l.length) (h : (l.take k).all sfOkC = true) (hc : sfOkC l[k] = true) : (l.take (k + 1)).all sfOkC = true := by
  rw [List.take_add_one, List.getElem?_eq_getElem hk, List.all_append, h]
  simpa using hc
theorem sfOk_no {l : List UInt8} {k : Nat} (hk : k < l.length) (hc : sfOkC l[k] = false) : l.all sfOkC = false := by
  cases h : l.all sfOkC with
  | false => rfl
  | true =>
    have := List.all_eq_true.1 h _ (List.getElem_mem hk)
    rw [hc] at this; cases this
theorem isName_b (s : ByteArray) (w : World) : Calls Try.prog 34 #[.string s] w fun e w' => e = .returned (.bool (sfName s.data.toList)) ∧ w' = w := by
  have hsl : s.data.toList.length = s.size := Array.length_toList
  by_cases h1 : s.size < 1
  · have e : sfName s.data.toList = false := by unfold sfName; rw [hsl, decide_eq_false (by omega : ¬ 1 ≤ s.size)]; rfl
    rw [e]
    clear hsl
    have h1' : ((s.size : Int) < 1) := by omega
    go_enter Try.func34, Try.ntmps34
    go_wp2
    go_ret
    exact ⟨rfl, rfl⟩
  · by_cases h2 : 32 < s.size
    · have e : sfName s.data.toList = false := by unfold sfName; rw [hsl, decide_eq_false (by omega : ¬ s.size ≤ 32), Bool.and_false]; rfl
      rw [e]
      clear hsl
      have h1' : ¬ ((s.size : Int) < 1) := by omega
      have h2' : ((32 : Int) < s.size) := by omega
      go_enter Try.func34, Try.ntmps34
      go_wp2
      go_ret
      exact ⟨rfl, rfl⟩
    · have h1' : ¬ ((s.size : Int) < 1) := by omega
      have h2' : ¬ ((32 : Int) < s.size) := by omega
      have HE : Hid (sfName s.data.toList = s.data.toList.all sfOkC) := by show sfName s.data.toList = _; unfold sfName; rw [hsl, decide_eq_true (by omega : 1 ≤ s.size), decide_eq_true (by omega : s.size ≤ 32)]; rfl
      have HL : Hid (s.data.toList.length = s.size) := hsl
      clear hsl
      go_enter Try.func34, Try.ntmps34
      go_wp2_with fail
      go_loopw [15] (fun i wr => ∃ k : Nat, i = .int .i64 (k : Int) ∧ k ≤ s.size ∧ Hid ((s.data.toList.take k).all sfOkC = true) ∧ wr = w) (fun i _ => s.size - (intOf i).toNat)
      case atStart => exact ⟨0, rfl, by omega, rfl, rfl⟩
      case round =>
        obtain ⟨k, rfl, hk, HA, rfl⟩ := hrel
        by_cases hlt : k < s.size
        · have hxe : s[k] = s.data.toList[k]'(by have := HL.out; omega) := rfl
          have HT : Hid (sfOkC s[k] = true → (s.data.toList.take (k + 1)).all sfOkC = true) := fun h => sfOk_take (by have := HL.out; omega) HA.out (hxe ▸ h)
          have HF : Hid (sfOkC s[k] = false → s.data.toList.all sfOkC = false) := fun h => sfOk_no (by have := HL.out; omega) (hxe ▸ h)
          clear hxe HA
          have hlt' : (k : Int) < (s.size : Int) := by omega
          generalize hx : s[k] = x at *
          have hall : (97 ≤ x.toNat ∧ x.toNat ≤ 122) ∨ (97 ≤ x.toNat ∧ 122 < x.toNat) ∨ (x.toNat < 97 ∧ 48 ≤ x.toNat ∧ x.toNat ≤ 57) ∨ (x.toNat < 97 ∧ 48 ≤ x.toNat ∧ 57 < x.toNat) ∨ (x.toNat < 48 ∧ x.toNat = 46) ∨ (x.toNat < 48 ∧ x.toNat ≠ 46 ∧ x.toNat = 45) ∨ (x.toNat < 48 ∧ x.toNat ≠ 46 ∧ x.toNat ≠ 45) := by omega
          rcases hall with h | h | h | h | h | h | h
          · have hb : sfOkC x = true := by unfold sfOkC; simp; omega
            have i0 : (97 : Int) ≤ (x.toNat : Int) := by omega
            have i1 : (x.toNat : Int) ≤ 122 := by omega
            have HN := (show Hid ((s.data.toList.take (k + 1)).all sfOkC = true) from HT.out hb)
            clear hb h HT HF
            go_wp2_with fail
            go_roundw
            case rel => exact ⟨k + 1, by go_num, by omega, HN, trivial⟩
            case measure => simp [intOf]; omega
          · have hb : sfOkC x = false := by unfold sfOkC; simp; omega
            have i0 : (97 : Int) ≤ (x.toNat : Int) := by omega
            have i1 : ¬ (x.toNat : Int) ≤ 122 := by omega
            have i2 : (48 : Int) ≤ (x.toNat : Int) := by omega
            have i3 : ¬ (x.toNat : Int) ≤ 57 := by omega
            have i4 : ((x.toNat : Int) == 46) = false := by simp; omega
            have i5 : ((x.toNat : Int) == 45) = false := by simp; omega
            have HN : Hid (sfName s.data.toList = false) := HE.out.trans (HF.out hb)
            clear hb h HT HF HE
            go_wp2_with fail
            go_ret
            exact ⟨by rw [HN.out]; rfl, rfl⟩
          · have hb : sfOkC x = true := by unfold sfOkC; simp; omega
            have i0 : ¬ (97 : Int) ≤ (x.toNat : Int) := by omega
            have i1 : (48 : Int) ≤ (x.toNat : Int) := by omega
            have i2 : (x.toNat : Int) ≤ 57 := by omega
            have HN := (show Hid ((s.data.toList.take (k + 1)).all sfOkC = true) from HT.out hb)
            clear hb h HT HF
            go_wp2_with fail
            go_roundw
            case rel => exact ⟨k + 1, by go_num, by omega, HN, trivial⟩
            case measure => simp [intOf]; omega
          · have hb : sfOkC x = false := by unfold sfOkC; simp; omega
            have i0 : ¬ (97 : Int) ≤ (x.toNat : Int) := by omega
            have i1 : (48 : Int) ≤ (x.toNat : Int) := by omega
            have i2 : ¬ (x.toNat : Int) ≤ 57 := by omega
            have i3 : ((x.toNat : Int) == 46) = false := by simp; omega
            have i4 : ((x.toNat : Int) == 45) = false := by simp; omega
            have HN : Hid (sfName s.data.toList = false) := HE.out.trans (HF.out hb)
            clear hb h HT HF HE
            go_wp2_with fail
            go_ret
            exact ⟨by rw [HN.out]; rfl, rfl⟩
          · have hb : sfOkC x = true := by unfold sfOkC; simp; omega
            have i0 : ¬ (97 : Int) ≤ (x.toNat : Int) := by omega
            have i1 : ¬ (48 : Int) ≤ (x.toNat : Int) := by omega
            have i2 : ((x.toNat : Int) == 46) = true := by simp; omega
            have HN := (show Hid ((s.data.toList.take (k + 1)).all sfOkC = true) from HT.out hb)
            clear hb h HT HF
            go_wp2_with fail
            go_roundw
            case rel => exact ⟨k + 1, by go_num, by omega, HN, trivial⟩
            case measure => simp [intOf]; omega
          · have hb : sfOkC x = true := by unfold sfOkC; simp; omega
            have i0 : ¬ (97 : Int) ≤ (x.toNat : Int) := by omega
            have i1 : ¬ (48 : Int) ≤ (x.toNat : Int) := by omega
            have i2 : ((x.toNat : Int) == 46) = false := by simp; omega
            have i3 : ((x.toNat : Int) == 45) = true := by simp; omega
            have HN := (show Hid ((s.data.toList.take (k + 1)).all sfOkC = true) from HT.out hb)
            clear hb h HT HF
            go_wp2_with fail
            go_roundw
            case rel => exact ⟨k + 1, by go_num, by omega, HN, trivial⟩
            case measure => simp [intOf]; omega
          · have hb : sfOkC x = false := by unfold sfOkC; simp; omega
            have i0 : ¬ (97 : Int) ≤ (x.toNat : Int) := by omega
            have i1 : ¬ (48 : Int) ≤ (x.toNat : Int) := by omega
            have i2 : ((x.toNat : Int) == 46) = false := by simp; omega
            have i3 : ((x.toNat : Int) == 45) = false := by simp; omega
            have HN : Hid (sfName s.data.toList = false) := HE.out.trans (HF.out hb)
            clear hb h HT HF HE
            go_wp2_with fail
            go_ret
            exact ⟨by rw [HN.out]; rfl, rfl⟩
        · have hlt' : ¬ (k : Int) < (s.size : Int) := by omega
          have hks : k = s.size := by omega
          have HN : Hid (sfName s.data.toList = true) := by
            show sfName s.data.toList = true
            rw [HE.out]
            have := HA.out
            rwa [List.take_of_length_le (by have := HL.out; omega)] at this
          clear hks HE HA HL
          go_wp2_with fail
          go_ret
          exact ⟨by rw [HN.out]; rfl, rfl⟩
theorem isName_any (s : List UInt8) (w : World) : Calls Try.prog 34 #[.string ⟨s.toArray⟩] w fun e w' => e = .returned (.bool (sfName s)) ∧ w' = w :=
  isName_b ⟨s.toArray⟩ w
end Go.Proofs.Ytijablmejjepaaa
