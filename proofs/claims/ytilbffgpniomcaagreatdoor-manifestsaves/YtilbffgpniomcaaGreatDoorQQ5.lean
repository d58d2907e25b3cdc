/- SF3 SF4 RH SF5 SF6, joined. -/
import Derived.Test.YtilbffgpniomcaaGreatDoorQQ1
import Derived.Test.YtilbffgpniomcaaGreatDoorQQ2
import Derived.Test.YtilbffgpniomcaaGreatDoorQQ4
/- A file system: an act is done; names; a file is cut. -/
namespace Go.Proofs.YtilbffgpniomcaaGreatDoor
open Go.RowKit Go.Maps

theorem sfDel_le (s : List UInt8) (l : List (List UInt8 × Nat)) : (sfDel s l).length ≤ l.length := List.length_filter_le _ _
theorem sfIns_len (x : List UInt8 × Nat) : ∀ l, (sfIns x l).length = l.length + 1
  | [] => rfl
  | y :: r => by
    unfold sfIns
    split
    · rfl
    · simp [sfIns_len x r]
theorem sfPut_le (x : List UInt8 × Nat) (l : List (List UInt8 × Nat)) : (sfPut x l).length ≤ l.length + 1 := by
  unfold sfPut; rw [sfIns_len]; have := sfDel_le x.1 l; omega
theorem sfDo_le (l : List (List UInt8 × Nat)) (a : SfA) : (sfDo l a).length ≤ l.length + 1 := by
  unfold sfDo
  split
  · have := sfDel_le a.gone l; omega
  · have := sfPut_le (a.name, ‹Nat›) (sfDel a.gone l); have := sfDel_le a.gone l; omega
theorem turned_only {w w' : World} {m : Nat} (h : w.mapTurned w' m) : Onl (fun k => k = m) w w' := by
  have g := h.grown
  exact ⟨g.os, g.tape, g.output, g.size, fun k hk ho => g.block k hk (fun e => ho (by simpa using e))⟩
theorem turned_cell {w w' : World} {m : Nat} (h : w.mapTurned w' m) {a : Addr} {v : Value} (hc : w.cell? a = some v) : w'.cell? a = some v := by
  obtain ⟨es, clock, es', clock', hb, rfl⟩ := h
  have hne : a.block ≠ m := by
    intro e
    simp [World.cell?, e, hb] at hc
  simp only [World.cell?, ChangeMaps.heap_setBlock_other hb _ hne] at hc ⊢
  exact hc
theorem do_any {w : World} {m : Nat} {bl : Nat → Nat} {l : List (List UInt8 × Nat)} (h : SfMap w m bl l) (hl : l.length < maxLen) (a : SfA) (h1 : a.gone.length ≤ maxLen) (h2 : a.name.length ≤ maxLen) :
    Calls Tryz.prog 67 #[.agg #[.string ⟨a.gone.toArray⟩, .string ⟨a.name.toArray⟩, sfPv bl a.file], .map (some m)] w fun e w' => e = .returned (.tuple #[]) ∧ SfMap w' m bl (sfDo l a) ∧ Onl (fun k => k = m) w w' := by
  obtain ⟨gone, name, file⟩ := a
  have k1 := keyS gone h1
  have k2 := keyS name h2
  have hm := SfMap.keep (w' := w.alloc (.cells #[.string ⟨gone.toArray⟩, .string ⟨name.toArray⟩, sfPv bl file] 83)) h (Below.heap_alloc _ _ _ (World.ownsMap.lt h))
  have hle := sfDel_le gone l
  cases file with
  | none =>
    simp only [sfPv] at hm ⊢
    go_enter Tryz.func67, Tryz.ntmps67
    go_wp2_with (at_delete; refine wpList_delete_own _ rfl _ _ 73 9 rfl 78 keyedS Tryz.underlying73 ptrE m l.length (sfD bl l) rfl hm _ _ rfl k1 ?_; intro w1 hown1 hturn1; have c2 := turned_cell hturn1 (a := ⟨w.heap.size, 2, none⟩) (v := .pointer none) (by simp))
    refine bodyPost_end (results_none rfl _ _ _) rfl ?_
    exact ⟨rfl, .of hown1 (sfD_del bl gone l), (Onl.alloc _).then (turned_only hturn1)⟩
  | some i =>
    simp only [sfPv] at hm ⊢
    go_enter Tryz.func67, Tryz.ntmps67
    go_wp2_with (first
      | (at_delete; refine wpList_delete_own _ rfl _ _ 73 9 rfl 78 keyedS Tryz.underlying73 ptrE m l.length (sfD bl l) rfl hm _ _ rfl k1 ?_; intro w1 hown1 hturn1; have c1 := turned_cell hturn1 (a := ⟨w.heap.size, 1, none⟩) (v := .string ⟨name.toArray⟩) (by simp); have c2 := turned_cell hturn1 (a := ⟨w.heap.size, 2, none⟩) (v := .pointer (some ⟨bl i, 0, none⟩)) (by simp))
      | (at_mapUpdate; refine wpList_mapUpdate_in _ rfl _ _ _ 73 rfl 9 78 keyedS Tryz.underlying73 ptrE m l.length _ rfl hown1 hl _ _ _ rfl rfl k2 (.lit (.int .i64 (bl i : Int))) [] rfl ?_; intro w2 hown2 hturn2))
    refine bodyPost_end (results_none rfl _ _ _) rfl ?_
    refine ⟨rfl, .of hown2 ?_, ((Onl.alloc _).then (turned_only hturn1)).then (turned_only hturn2)⟩
    rw [sfD_del]
    exact sfD_put bl (name, i) _
theorem sfOk_take {l : List UInt8} {k : Nat} (hk : k < l.length) (h : (l.take k).all sfOkC = true) (hc : sfOkC l[k] = true) : (l.take (k + 1)).all sfOkC = true := by
  rw [List.take_add_one, List.getElem?_eq_getElem hk, List.all_append, h]
  simpa using hc
theorem sfOk_no {l : List UInt8} {k : Nat} (hk : k < l.length) (hc : sfOkC l[k] = false) : l.all sfOkC = false := by
  cases h : l.all sfOkC with
  | false => rfl
  | true =>
    have := List.all_eq_true.1 h _ (List.getElem_mem hk)
    rw [hc] at this; cases this
theorem isName_b (s : ByteArray) (w : World) : Calls Tryz.prog 31 #[.string s] w fun e w' => e = .returned (.bool (sfName s.data.toList)) ∧ w' = w := by
  have hsl : s.data.toList.length = s.size := Array.length_toList
  by_cases h1 : s.size < 1
  · have e : sfName s.data.toList = false := by unfold sfName; rw [hsl, decide_eq_false (by omega : ¬ 1 ≤ s.size)]; rfl
    rw [e]
    clear hsl
    have h1' : ((s.size : Int) < 1) := by omega
    go_enter Tryz.func31, Tryz.ntmps31
    go_wp2
    go_ret
    exact ⟨rfl, rfl⟩
  · by_cases h2 : 32 < s.size
    · have e : sfName s.data.toList = false := by unfold sfName; rw [hsl, decide_eq_false (by omega : ¬ s.size ≤ 32), Bool.and_false]; rfl
      rw [e]
      clear hsl
      have h1' : ¬ ((s.size : Int) < 1) := by omega
      have h2' : ((32 : Int) < s.size) := by omega
      go_enter Tryz.func31, Tryz.ntmps31
      go_wp2
      go_ret
      exact ⟨rfl, rfl⟩
    · have h1' : ¬ ((s.size : Int) < 1) := by omega
      have h2' : ¬ ((32 : Int) < s.size) := by omega
      have HE : Hid (sfName s.data.toList = s.data.toList.all sfOkC) := by show sfName s.data.toList = _; unfold sfName; rw [hsl, decide_eq_true (by omega : 1 ≤ s.size), decide_eq_true (by omega : s.size ≤ 32)]; rfl
      have HL : Hid (s.data.toList.length = s.size) := hsl
      clear hsl
      go_enter Tryz.func31, Tryz.ntmps31
      go_wp2_with fail
      go_loopw [15] (fun i wr => ∃ k : Nat, i = .int .i64 (k : Int) ∧ k ≤ s.size ∧ Hid ((s.data.toList.take k).all sfOkC = true) ∧ wr = w) (fun i _ => s.size - (intOf i).toNat)
      case atStart => exact ⟨0, rfl, by omega, rfl, rfl⟩
      case round =>
        obtain ⟨k, rfl, hk, HA, rfl⟩ := hrel
        by_cases hlt : k < s.size
        · have hxe : s[k] = s.data.toList[k]'(by have := HL.out; omega) := rfl
          have HT : Hid (sfOkC s[k] = true → (s.data.toList.take (k + 1)).all sfOkC = true) := fun h => sfOk_take (by have := HL.out; omega) HA.out (hxe ▸ h)
          have HF : Hid (sfOkC s[k] = false → s.data.toList.all sfOkC = false) := fun h => sfOk_no (by have := HL.out; omega) (hxe ▸ h)
          clear hxe HA
          have hlt' : (k : Int) < (s.size : Int) := by omega
          generalize hx : s[k] = x at *
          have hall : (97 ≤ x.toNat ∧ x.toNat ≤ 122) ∨ (97 ≤ x.toNat ∧ 122 < x.toNat) ∨ (x.toNat < 97 ∧ 48 ≤ x.toNat ∧ x.toNat ≤ 57) ∨ (x.toNat < 97 ∧ 48 ≤ x.toNat ∧ 57 < x.toNat) ∨ (x.toNat < 48 ∧ x.toNat = 46) ∨ (x.toNat < 48 ∧ x.toNat ≠ 46 ∧ x.toNat = 45) ∨ (x.toNat < 48 ∧ x.toNat ≠ 46 ∧ x.toNat ≠ 45) := by omega
          rcases hall with h | h | h | h | h | h | h
          · have hb : sfOkC x = true := by unfold sfOkC; simp; omega
            have i0 : (97 : Int) ≤ (x.toNat : Int) := by omega
            have i1 : (x.toNat : Int) ≤ 122 := by omega
            have HN := (show Hid ((s.data.toList.take (k + 1)).all sfOkC = true) from HT.out hb)
            clear hb h HT HF
            go_wp2_with fail
            go_roundw
            case rel => exact ⟨k + 1, by go_num, by omega, HN, trivial⟩
            case measure => simp [intOf]; omega
          · have hb : sfOkC x = false := by unfold sfOkC; simp; omega
            have i0 : (97 : Int) ≤ (x.toNat : Int) := by omega
            have i1 : ¬ (x.toNat : Int) ≤ 122 := by omega
            have i2 : (48 : Int) ≤ (x.toNat : Int) := by omega
            have i3 : ¬ (x.toNat : Int) ≤ 57 := by omega
            have i4 : ((x.toNat : Int) == 46) = false := by simp; omega
            have i5 : ((x.toNat : Int) == 45) = false := by simp; omega
            have HN : Hid (sfName s.data.toList = false) := HE.out.trans (HF.out hb)
            clear hb h HT HF HE
            go_wp2_with fail
            go_ret
            exact ⟨by rw [HN.out]; rfl, rfl⟩
          · have hb : sfOkC x = true := by unfold sfOkC; simp; omega
            have i0 : ¬ (97 : Int) ≤ (x.toNat : Int) := by omega
            have i1 : (48 : Int) ≤ (x.toNat : Int) := by omega
            have i2 : (x.toNat : Int) ≤ 57 := by omega
            have HN := (show Hid ((s.data.toList.take (k + 1)).all sfOkC = true) from HT.out hb)
            clear hb h HT HF
            go_wp2_with fail
            go_roundw
            case rel => exact ⟨k + 1, by go_num, by omega, HN, trivial⟩
            case measure => simp [intOf]; omega
          · have hb : sfOkC x = false := by unfold sfOkC; simp; omega
            have i0 : ¬ (97 : Int) ≤ (x.toNat : Int) := by omega
            have i1 : (48 : Int) ≤ (x.toNat : Int) := by omega
            have i2 : ¬ (x.toNat : Int) ≤ 57 := by omega
            have i3 : ((x.toNat : Int) == 46) = false := by simp; omega
            have i4 : ((x.toNat : Int) == 45) = false := by simp; omega
            have HN : Hid (sfName s.data.toList = false) := HE.out.trans (HF.out hb)
            clear hb h HT HF HE
            go_wp2_with fail
            go_ret
            exact ⟨by rw [HN.out]; rfl, rfl⟩
          · have hb : sfOkC x = true := by unfold sfOkC; simp; omega
            have i0 : ¬ (97 : Int) ≤ (x.toNat : Int) := by omega
            have i1 : ¬ (48 : Int) ≤ (x.toNat : Int) := by omega
            have i2 : ((x.toNat : Int) == 46) = true := by simp; omega
            have HN := (show Hid ((s.data.toList.take (k + 1)).all sfOkC = true) from HT.out hb)
            clear hb h HT HF
            go_wp2_with fail
            go_roundw
            case rel => exact ⟨k + 1, by go_num, by omega, HN, trivial⟩
            case measure => simp [intOf]; omega
          · have hb : sfOkC x = true := by unfold sfOkC; simp; omega
            have i0 : ¬ (97 : Int) ≤ (x.toNat : Int) := by omega
            have i1 : ¬ (48 : Int) ≤ (x.toNat : Int) := by omega
            have i2 : ((x.toNat : Int) == 46) = false := by simp; omega
            have i3 : ((x.toNat : Int) == 45) = true := by simp; omega
            have HN := (show Hid ((s.data.toList.take (k + 1)).all sfOkC = true) from HT.out hb)
            clear hb h HT HF
            go_wp2_with fail
            go_roundw
            case rel => exact ⟨k + 1, by go_num, by omega, HN, trivial⟩
            case measure => simp [intOf]; omega
          · have hb : sfOkC x = false := by unfold sfOkC; simp; omega
            have i0 : ¬ (97 : Int) ≤ (x.toNat : Int) := by omega
            have i1 : ¬ (48 : Int) ≤ (x.toNat : Int) := by omega
            have i2 : ((x.toNat : Int) == 46) = false := by simp; omega
            have i3 : ((x.toNat : Int) == 45) = false := by simp; omega
            have HN : Hid (sfName s.data.toList = false) := HE.out.trans (HF.out hb)
            clear hb h HT HF HE
            go_wp2_with fail
            go_ret
            exact ⟨by rw [HN.out]; rfl, rfl⟩
        · have hlt' : ¬ (k : Int) < (s.size : Int) := by omega
          have hks : k = s.size := by omega
          have HN : Hid (sfName s.data.toList = true) := by
            show sfName s.data.toList = true
            rw [HE.out]
            have := HA.out
            rwa [List.take_of_length_le (by have := HL.out; omega)] at this
          clear hks HE HA HL
          go_wp2_with fail
          go_ret
          exact ⟨by rw [HN.out]; rfl, rfl⟩
theorem isName_any (s : List UInt8) (w : World) : Calls Tryz.prog 31 #[.string ⟨s.toArray⟩] w fun e w' => e = .returned (.bool (sfName s)) ∧ w' = w :=
  isName_b ⟨s.toArray⟩ w
end Go.Proofs.YtilbffgpniomcaaGreatDoor

/- A file system: a file is cut; acts are settled; the directory is changed. -/
namespace Go.Proofs.YtilbffgpniomcaaGreatDoor
open Go.RowKit Go.Maps

theorem add_zero' (a : Addr) : a.add 0 = a := by simp [Addr.add]
theorem run_slice_3 (a : Option Addr) (n cap N : Nat) (h : N ≤ cap) (w : World) : (Instr.slice 22 (.slice a n cap) none (some (.int .i64 (N : Int))) (some (.int .i64 (N : Int)))).run Tryz.prog w = .ok (.slice a N N) w := by
  have ha : (Option.map (fun x : Addr => x.add 0) a) = a := by cases a <;> simp [add_zero']
  simp [Instr.slice, run_underlying Tryz.underlying22, Instr.sliceBounds, Instr.sliceBound, asIntOf, h, Result.andThen, ha]
theorem cut_any {w : World} {b : Nat} {v : Value} {f : List UInt8 × Nat} (hf : w.heap[b]? = some (.cells #[v, .int .i64 (f.2 : Int)] 81)) (hb : BOwn w v f.1) (hs : f.2 ≤ f.1.length) (hl : f.1.length ≤ 1048576) (keep : Int) :
    Calls Tryz.prog 61 #[.pointer (some ⟨b, 0, none⟩), .int .i64 keep] w fun e w' => e = .returned (.tuple #[]) ∧
      ∃ v', (∀ k, v'.ownBlock = some k → v.ownBlock = some k) ∧ w'.heap[b]? = some (.cells #[v', .int .i64 ((sfCut f keep).2 : Int)] 81) ∧ BOwn w' v' (sfCut f keep).1 ∧ Onl (fun k => k = b) w w' ∧ w'.heap.size = w.heap.size := by
  obtain ⟨a, cap, rfl, hc1, hc2, hc3, hc4⟩ := hb.form
  obtain ⟨N, HN⟩ := hid_ex (f.2 + min (max keep 0).toNat (f.1.length - f.2))
  have hN : N ≤ f.1.length := by have := HN.out; omega
  have hsl := run_slice_3 a f.1.length cap N (by omega)
  have hmx : ∀ ts t w', (Builtin.max_ ts t #[.int .i64 keep, .int .i64 0]).run Tryz.prog w' = .ok (.int .i64 (((max keep 0).toNat : Nat) : Int)) w' := by
    intro ts t w'
    simp only [Builtin.max_]
    by_cases hk : keep < 0
    · have : (max keep 0).toNat = 0 := by omega
      simp [Builtin.max2, this]; omega
    · have : (((max keep 0).toNat : Nat) : Int) = keep := by omega
      rw [this]
      simp [Builtin.max2]; omega
  have hmn : ∀ ts t w', (Builtin.min_ ts t #[.int .i64 (((max keep 0).toNat : Nat) : Int), .int .i64 ((f.1.length : Int) - (f.2 : Int))]).run Tryz.prog w' = .ok (.int .i64 ((N : Int) - (f.2 : Int))) w' := by
    intro ts t w'
    have hx := HN.out
    simp [Builtin.min_, Builtin.min2]
    omega
  have c0 : ∀ n, (w.drewN n).cell? ⟨b, 0, none⟩ = some (.slice a f.1.length cap) := fun n => by simp [World.cell?, World.drewN, hf]
  have c1 : ∀ n, (w.drewN n).cell? ⟨b, 1, none⟩ = some (.int .i64 (f.2 : Int)) := fun n => by simp [World.cell?, World.drewN, hf]
  have z0 : ∀ n, (w.drewN n).frozen? ⟨b, 0, none⟩ = false := fun n => by simp [World.frozen?, World.drewN, hf]
  have z1 : ∀ n, (w.drewN n).frozen? ⟨b, 1, none⟩ = false := fun n => by simp [World.frozen?, World.drewN, hf]
  have HF := (show Hid _ from hf)
  have HB := (show Hid (BOwn w (.slice a f.1.length cap) f.1) from hb)
  clear hf hb
  generalize hk0 : (max keep 0).toNat = K at *
  have HKK : Hid ((max keep 0).toNat = K) := hk0
  clear hk0
  generalize hq : f.1.length = L at *
  have HQ : Hid (f.1.length = L) := hq
  clear hq
  generalize hq : f.2 = S at *
  have HS : Hid (f.2 = S) := hq
  clear hq
  go_enter Tryz.func61, Tryz.ntmps61
  go_wp2_with fail
  go_quiet (fail)
  go_wp2_with fail
  refine bodyPost_end (results_none rfl _ _ _) rfl ?_
  have eN : (S : Int) + ((N : Int) - S) = N := by omega
  rw [eN, Int.toNat_natCast]
  have e2 : (sfCut f keep).2 = N := by unfold sfCut; rw [HQ.out, HS.out, HN.out, HKK.out]
  have e1 : (sfCut f keep).1 = f.1.take N := by have : (sfCut f keep).1 = f.1.take (sfCut f keep).2 := rfl; rw [this, e2]
  rw [e1, e2]
  have g1 := cells_set (w := w.drewN nq) HF.out 0 (.slice a N N)
  have g2 := cells_set g1 1 (.int .i64 (N : Int))
  refine ⟨rfl, .slice a N N, ?_, ?_, ?_, ?_, ?_⟩
  · intro k hk; cases a <;> exact hk
  · simpa using g2
  · cases a with
    | none =>
      have : N = 0 := by have := (hc4 rfl).1; omega
      subst this
      exact GOwn.nil _ _ _
    | some x =>
      have hx := hc3 x rfl
      rw [hx] at HB ⊢
      have hcut := HB.out.cut (c := N) (by rw [HQ.out]; exact hN)
      refine GOwn.keep hcut fun k hk => ?_
      obtain ⟨cur, hc⟩ := GOwn.block hcut hk
      have hne := ty_ne hc HF.out (by decide)
      rw [Below.heap_setCell _ _ _ _ hne, Below.heap_setCell _ _ _ _ hne]
      rfl
  · exact ⟨rfl, rfl, rfl, by simp [World.setCell, World.drewN], fun k _ ho => by rw [Below.heap_setCell _ _ _ _ ho, Below.heap_setCell _ _ _ _ ho]; rfl⟩
  · simp [World.setCell, World.drewN]
end Go.Proofs.YtilbffgpniomcaaGreatDoor

/- A drawn region with a store at its end: what is loaded ahead of it is taken in the world ahead of it. -/
namespace Go.Proofs.YtilbffgpniomcaaGreatDoor
open Go.RowKit

section
variable {P : Program} {ops : Array Oper} {Q : Exit → Act → World → Prop} {md : Region.Mode} {k : Nat} {St Pr : World → Prop}
/-- What holds all the time, and what holds till operation k has come up. -/
def StK (k : Nat) (St Pr : World → Prop) (L : Array Bool) (w : World) : Prop := St w ∧ (L.getD k false = false → Pr w)
def wpAnyS (P : Program) (md : Region.Mode) (ops : Array Oper) (Q : Exit → Act → World → Prop) (k : Nat) (St Pr : World → Prop) : Nat → Array Bool → Act → World → Prop
  | 0, listed, a, w => Region.ready md ops listed = [] ∧ Q .normal a w
  | fuel + 1, listed, a, w =>
    (Region.ready md ops listed = [] → Q .normal a w) ∧
    ∀ i ∈ Region.ready md ops listed, wpOp P ops Q i (fun a' w' => StK k St Pr (listed.setIfInBounds i true) w' ∧ wpAnyS P md ops Q k St Pr fuel (listed.setIfInBounds i true) a' w') a w
theorem wpAny_of_S : ∀ (fuel : Nat) (listed : Array Bool) (a : Act) (w : World), wpAnyS P md ops Q k St Pr fuel listed a w → wpAny P md ops Q fuel listed a w
  | 0, _, _, _, h => h
  | fuel + 1, _, _, _, h => ⟨h.1, fun i hi => wpOp_mono (fun a' w' h' => wpAny_of_S fuel _ a' w' h'.2) (h.2 i hi)⟩
/-- Whatever came up, what it waits for came up. -/
def Cl (md : Region.Mode) (ops : Array Oper) (L : Array Bool) : Prop := ∀ j o, ops[j]? = some o → L.getD j false = true → ∀ e ∈ o.after, Region.binds md e = true → L.getD e.on false = true
def clB (md : Region.Mode) (ops : Array Oper) (L : Array Bool) : Bool := (List.range ops.size).all fun j => !L.getD j false || match ops[j]? with | some o => o.after.all (fun e => !Region.binds md e || L.getD e.on false) | none => true
theorem clB_spec {L : Array Bool} (h : clB md ops L = true) : Cl md ops L := by
  intro j o ho hl e he hb
  have h1 := List.all_eq_true.1 h j (List.mem_range.2 (Array.getElem?_eq_some_iff.1 ho).1)
  rw [hl, ho] at h1
  simp only [Bool.not_true, Bool.false_or] at h1
  have h2 := Array.all_eq_true_iff_forall_mem.1 h1 e he
  rw [hb] at h2
  simpa using h2
theorem Cl.set {L : Array Bool} {j : Nat} (h : Cl md ops L) (hj : j ∈ Region.ready md ops L) : Cl md ops (L.setIfInBounds j true) := by
  obtain ⟨_, o, ho, hall⟩ := mem_ready.1 hj
  intro i oi hoi hl e he hb
  by_cases hij : j = i
  · subst hij
    rw [ho] at hoi
    obtain rfl : o = oi := by simpa using hoi
    exact getD_set_true (hall e he hb)
  · rw [getD_set_ne false hij] at hl
    exact getD_set_true (h i oi hoi hl e he hb)
/-- Does operation k wait for i? -/
def waits (md : Region.Mode) (ops : Array Oper) (k i : Nat) : Bool := match ops[k]? with | some o => o.after.any (fun e => Region.binds md e && e.on == i) | none => false
theorem wpAnyS_first {i : Nat} {oi : Oper} {v : Value} (hi : ops[i]? = some oi) (hsel : ∀ (j : Nat) (o : Oper) cs b, ops[j]? = some o → o.op ≠ .select cs b)
    (hQ : ∀ c a w, Q (.panic c) (a.put oi.dst v) w → Q (.panic c) a w) (hik : i ≠ k) (dep : Bool) (hdep : waits md ops k i = dep) :
    ∀ (fuel : Nat) (listed : Array Bool) (a : Act) (w : World), Cl md ops listed →
      (∀ j oj, ops[j]? = some oj → j ≠ i → listed.getD j true = false → (∀ e ∈ oj.after, Region.binds md e = true → e.on ≠ i) → oi.apart ops oj = true) →
      i ∈ Region.ready md ops listed → YieldsIf P ops (fun w' => St w' ∧ (dep = true → Pr w')) oi v a → StK k St Pr listed w →
      wpAnyS P md ops Q k St Pr fuel (listed.setIfInBounds i true) (a.put oi.dst v) w → wpAnyS P md ops Q k St Pr (fuel + 1) listed a w := by
  have hdone : ∀ (listed : Array Bool) (w : World), Cl md ops listed → i ∈ Region.ready md ops listed → StK k St Pr listed w → (St w ∧ (dep = true → Pr w)) := fun listed w hcl hr hS => by
    refine ⟨hS.1, fun hd => hS.2 ?_⟩
    subst hdep
    unfold waits at hd
    cases hok : ops[k]? with
    | none => rw [hok] at hd; cases hd
    | some ok =>
      rw [hok] at hd
      obtain ⟨e, he, hq⟩ := Array.any_eq_true'.1 hd
      simp only [Bool.and_eq_true, beq_iff_eq] at hq
      cases hl : listed.getD k false with
      | false => rfl
      | true =>
        have h1 := hcl k ok hok hl e he hq.1
        rw [hq.2] at h1
        have h0 := (mem_ready.1 hr).1
        rcases Nat.lt_or_ge i listed.size with h' | h'
        · simp [h'] at h0 h1; rw [h0] at h1; cases h1
        · simp [Array.getElem?_eq_none h'] at h1
  have hset : ∀ (listed : Array Bool) (w : World), StK k St Pr listed w → StK k St Pr (listed.setIfInBounds i true) w := fun listed w h => ⟨h.1, fun hk => h.2 (by rw [getD_set_ne false hik] at hk; exact hk)⟩
  intro fuel
  induction fuel with
  | zero =>
    intro listed a w hcl _ hr hy hS H
    refine ⟨fun h => (by rw [h] at hr; cases hr), fun j hj => ?_⟩
    by_cases hji : j = i
    · subst hji; exact YieldsIf.wpOp (S := fun w' => St w' ∧ (dep = true → Pr w')) hi hy (hdone _ _ hcl hr hS) ⟨hset _ _ hS, H⟩
    · have := ready_mono hj hji
      rw [H.1] at this
      cases this
  | succ fuel ih =>
    intro listed a w hcl hfree hr hy hS H
    refine ⟨fun h => (by rw [h] at hr; cases hr), fun j hj => ?_⟩
    by_cases hji : j = i
    · subst hji; exact YieldsIf.wpOp (S := fun w' => St w' ∧ (dep = true → Pr w')) hi hy (hdone _ _ hcl hr hS) ⟨hset _ _ hS, H⟩
    · have h1 := H.2 j (ready_mono hj hji)
      obtain ⟨hjun, oj, hoj, hall⟩ := mem_ready.1 hj
      have hnot : ∀ e ∈ oj.after, Region.binds md e = true → e.on ≠ i := fun e he hb heq => by
        have h1 := hall e he hb
        have h0 := (mem_ready.1 hr).1
        rw [heq] at h1
        rcases Nat.lt_or_ge i listed.size with h' | h'
        · simp [h'] at h0 h1; rw [h0] at h1; cases h1
        · simp [Array.getElem?_eq_none h'] at h1
      have h2 := wpOp_putIf hoj (hfree j oj hoj hji hjun hnot) (fun cs b => hsel i oi cs b hi) (fun cs b => hsel j oj cs b hoj) hQ hy h1
      have hfree' : ∀ k ok, ops[k]? = some ok → k ≠ i → (listed.setIfInBounds j true).getD k true = false →
          (∀ e ∈ ok.after, Region.binds md e = true → e.on ≠ i) → oi.apart ops ok = true := fun k ok hk hki hun hno => by
        refine hfree k ok hk hki ?_ hno
        by_cases hjk : j = k
        · subst hjk; exact hjun
        · rw [getD_set_ne true hjk] at hun; exact hun
      refine wpOp_mono (fun a' w' h3 => ?_) h2
      have hS' : StK k St Pr (listed.setIfInBounds j true) w' := ⟨h3.2.1.1, fun hk => h3.2.1.2 (by
        rw [Array.setIfInBounds_comm _ _ (Ne.symm hji), getD_set_ne false hik]; exact hk)⟩
      refine ⟨hS', ih (listed.setIfInBounds j true) a' w' (hcl.set hj) hfree' (ready_mono hr (Ne.symm hji)) h3.1 hS' ?_⟩
      rw [Array.setIfInBounds_comm _ _ hji]
      exact h3.2.2
theorem wpAnyS_take {i : Nat} {oi : Oper} {v : Value} {fuel : Nat} {listed : Array Bool} {a : Act} {w : World} (dep : Bool) (hi : ops[i]? = some oi)
    (hs : Region.noSelect ops = true) (hf : Region.free md ops listed i = true) (hr : (Region.ready md ops listed).contains i = true) (hcl : clB md ops listed = true) (hik : Nat.beq i k = false) (hdep : waits md ops k i = dep)
    (hQ : ∀ c a w, Q (.panic c) (a.put oi.dst v) w → Q (.panic c) a w) (hy : YieldsIf P ops (fun w' => St w' ∧ (dep = true → Pr w')) oi v a) (hS : StK k St Pr listed w)
    (h : StK k St Pr (listed.setIfInBounds i true) w → wpAnyS P md ops Q k St Pr fuel (listed.setIfInBounds i true) (a.put oi.dst v) w) : wpAnyS P md ops Q k St Pr (fuel + 1) listed a w := by
  have hne : i ≠ k := fun e => by subst e; simp at hik
  exact wpAnyS_first hi (Region.noSelect_spec hs) hQ hne dep hdep fuel listed a w (clB_spec hcl) (Region.free_spec hi hf) (by simpa using hr) hy hS (h ⟨hS.1, fun hk => hS.2 (by rw [getD_set_ne false hne] at hk; exact hk)⟩)
theorem wpAnyS_ready {i : Nat} {o : Oper} {fuel : Nat} {listed : Array Bool} {a : Act} {w : World} (hr : Region.ready md ops listed = [i]) (ho : ops[i]? = some o)
    (h : ∀ K : Act → World → Prop, Shut (∀ a w, StK k St Pr (listed.setIfInBounds i true) w → (StK k St Pr (listed.setIfInBounds i true) w → wpAnyS P md ops Q k St Pr fuel (listed.setIfInBounds i true) a w) → K a w) → if Region.wanted o (yielded ops a.tmps) = true then Oper.wp P o a w K Q else K (a.put o.dst undef) w) : wpAnyS P md ops Q k St Pr (fuel + 1) listed a w := by
  refine ⟨fun h0 => (by rw [hr] at h0; cases h0), fun j hj => ?_⟩
  rw [hr] at hj
  obtain rfl : j = i := by simpa using hj
  exact wpOp_step ho (fun K' hK => h K' (fun a w h1 h2 => hK a w ⟨h1, h2 h1⟩))
theorem wpAnyS_done {listed : Array Bool} {a : Act} {w : World} (hr : Region.ready md ops listed = []) (h : Q .normal a w) : ∀ fuel, wpAnyS P md ops Q k St Pr fuel listed a w
  | 0 => ⟨hr, h⟩
  | _ + 1 => ⟨fun _ => h, by rw [hr]; simp⟩
theorem wp_region_S {id : Nat} {a : Act} {w : World} (k : Nat) (St Pr : World → Prop) (hm : P.follows .mixedOrders = true) (hS : St w.drew) (hP : Pr w.drew)
    (h : StK k St Pr (Array.replicate ops.size false) w.drew → wpAnyS P .any ops Q k St Pr ops.size (Array.replicate ops.size false) a w.drew) : (Code.region id ops true).wp P Q a w :=
  wp_region_any hm (wpAny_of_S _ _ _ _ (h ⟨hS, fun _ => hP⟩))
end
end Go.Proofs.YtilbffgpniomcaaGreatDoor

/- A file system: acts are settled; the directory is changed. -/
namespace Go.Proofs.YtilbffgpniomcaaGreatDoor
open Go.RowKit Go.Maps

theorem elemA : Tryz.prog.elem 74 = 83 := by kernel_rfl
theorem run_slice_u (a : Option Addr) (n cap N : Nat) (h : N ≤ cap) (w : World) : (Instr.slice 74 (.slice a n cap) none (some (.int .i64 (N : Int))) none).run Tryz.prog w = .ok (.slice a N cap) w := by
  have ha : (Option.map (fun x : Addr => x.add 0) a) = a := by cases a <;> simp [add_zero']
  simp [Instr.slice, run_underlying Tryz.underlying74, Instr.sliceBounds, Instr.sliceBound, asIntOf, h, Result.andThen, ha]
theorem flat3 {α : Type} (f : α → List Value) (hf : ∀ a, (f a).length = 3) : ∀ (l : List α) (j : Nat) (hj : j < l.length) (i : Nat), i < 3 → (l.flatMap f)[j * 3 + i]? = (f l[j])[i]?
  | a :: l, 0, _, i, hi => by
    rw [List.flatMap_cons, List.getElem?_append_left (by rw [hf]; omega)]
    simp
  | a :: l, j + 1, hj, i, hi => by
    rw [List.flatMap_cons, List.getElem?_append_right (by rw [hf]; omega), hf]
    have := flat3 f hf l j (by simpa using hj) i hi
    rw [show (j + 1) * 3 + i - 3 = j * 3 + i by omega, this]
    simp
theorem GOwn.at3 {α : Type} {w : World} {e : TypeId} {q n cap : Nat} {l : List α} {f : α → List Value} (h : GOwn w e 3 (.slice (some ⟨q, 0, none⟩) n cap) l.length (l.flatMap f)) (hf : ∀ a, (f a).length = 3) (j : Nat) (hj : j < l.length) (i : Nat) (u : Value) (hi : (f l[j])[i]? = some u) : w.cell? ⟨q, j * 3 + i, none⟩ = some u := by
  have hi3 : i < 3 := by have := (List.getElem?_eq_some_iff.1 hi).1; rw [hf] at this; exact this
  have := h.cells (g := q) rfl (j * 3 + i) u (by rw [flat3 f hf l j hj i hi3]; exact hi)
  have ea : (⟨q, 0, none⟩ : Addr).add (j * 3 + i) = ⟨q, j * 3 + i, none⟩ := by simp [Addr.add]; omega
  rw [ea] at this
  exact this
theorem foldl_take_succ {l : List SfA} {j : Nat} (hj : j < l.length) (o : List (List UInt8 × Nat)) : (l.take (j + 1)).foldl sfDo o = sfDo ((l.take j).foldl sfDo o) l[j] := by
  rw [List.take_add_one, List.getElem?_eq_getElem hj, List.foldl_append]; rfl
theorem sfPv_ptr (bl : Nat → Nat) (o : Option Nat) : ∃ pt, sfPv bl o = .pointer pt := by cases o <;> exact ⟨_, rfl⟩
theorem cell_of {w : World} {b : Nat} {cs : Array Value} {T : TypeId} (h : w.heap[b]? = some (.cells cs T)) (i : Nat) (v : Value) (hv : cs[i]? = some v) : w.cell? ⟨b, i, none⟩ = some v := by
  obtain ⟨hi, rfl⟩ := Array.getElem?_eq_some_iff.1 hv
  simp [World.cell?, h, hi]
theorem settle_any {w : World} {O : Nat → Prop} {g m1 m2 : Nat} {pv : Value} {bl : Nat → Nat} {vs : Nat → Value} {s : SfS} (h : FsAt w O g m1 m2 pv bl vs s) (hw : SfWf s) (k : Nat) (hk : k ≤ s.pend.length) :
    Calls Tryz.prog 59 #[.pointer (some ⟨g, 0, none⟩), .int .i64 (k : Int)] w fun e w' => e = .returned (.tuple #[]) ∧ FsAt w' O g m1 m2 (.slice none 0 0) bl vs (sfSettle s k) ∧ Onl O w w' := by
  obtain ⟨a, cap, rfl, hc1, hc2, hc3, hc4⟩ := h.hp.form
  have c3 := h.c3
  have hsl := run_slice_u a s.pend.length cap k (by omega)
  have hkb : (k : Int) ≤ 9223372036854775807 := by simp only [maxLen] at hc2; omega
  have HF : Hid (FsAt w O g m1 m2 (.slice a s.pend.length cap) bl vs s) := h
  have HW : Hid (SfWf s) := hw
  clear h hw
  go_enter Tryz.func59, Tryz.ntmps59
  go_wp2_with fail
  clear c3 hsl
  go_loopw [13] (fun i wr => ∃ j : Nat, i = .int .i64 (j : Int) ∧ j ≤ k ∧ Hid (FsAt wr O g m1 m2 (.slice a s.pend.length cap) bl vs { s with old := (s.pend.take j).foldl sfDo s.old }) ∧ Hid (Onl O w wr)) (fun i _ => k - (intOf i).toNat)
  case atStart => exact ⟨0, rfl, by omega, HF, Onl.refl _ _⟩
  case round =>
    obtain ⟨j, rfl, hj, HR, HO⟩ := hrel
    by_cases hlt : j < k
    · have hlt' : (j : Int) < (k : Int) := by omega
      cases a with
      | none => have := (hc4 rfl).1; omega
      | some q =>
        obtain ⟨q, rfl⟩ : ∃ b : Nat, q = ⟨b, 0, none⟩ := ⟨_, hc3 q rfl⟩
        have hjl : j < s.pend.length := by omega
        obtain ⟨A, HA⟩ := hid_ex (s.pend[j])
        have hp := HR.out.hp
        have x0 := hp.at3 (fun _ => rfl) j hjl 0 (.string ⟨A.gone.toArray⟩) (by rw [HA.out]; rfl)
        have x1 := hp.at3 (fun _ => rfl) j hjl 1 (.string ⟨A.name.toArray⟩) (by rw [HA.out]; rfl)
        have x2 := hp.at3 (fun _ => rfl) j hjl 2 (sfPv bl A.file) (by rw [HA.out]; rfl)
        rw [Nat.add_zero] at x0
        obtain ⟨pt, hpt⟩ := sfPv_ptr bl A.file
        have HPT : Hid (sfPv bl A.file = .pointer pt) := hpt
        rw [hpt] at x2
        clear hp hpt
        go_wp2_with fail
        clear x0 x1 x2
        have HX : Hid ((wr.alloc (.cells #[.string ⟨A.gone.toArray⟩, .string ⟨A.name.toArray⟩, .pointer pt] 83)).heap[wr.heap.size]? = some (.cells #[.string ⟨A.gone.toArray⟩, .string ⟨A.name.toArray⟩, .pointer pt] 83)) := heap_alloc_new _ _
        have HR1 : Hid (FsAt (wr.alloc (.cells #[.string ⟨A.gone.toArray⟩, .string ⟨A.name.toArray⟩, .pointer pt] 83)) O g m1 m2 (.slice (some ⟨q, 0, none⟩) s.pend.length cap) bl vs { s with old := (s.pend.take j).foldl sfDo s.old }) := HR.out.keep (fun k hk => Below.heap_alloc _ _ _ (HR.out.lt k hk)) (by simp)
        have HO1 : Hid (Onl O w (wr.alloc (.cells #[.string ⟨A.gone.toArray⟩, .string ⟨A.name.toArray⟩, .pointer pt] 83))) := HO.out.then (Onl.alloc _)
        clear HR HO
        generalize (wr.alloc (.cells #[.string ⟨A.gone.toArray⟩, .string ⟨A.name.toArray⟩, .pointer pt] 83)) = w1 at *
        have cm := HR1.out.c2
        have y0 := cell_of HX.out 0 _ rfl
        have y1 := cell_of HX.out 1 _ rfl
        have y2 := cell_of HX.out 2 _ rfl
        have HDO : Hid (Calls Tryz.prog 67 #[.agg #[.string ⟨A.gone.toArray⟩, .string ⟨A.name.toArray⟩, .pointer pt], .map (some m2)] w1.drew fun e w' => e = .returned (.tuple #[]) ∧ FsAt w' O g m1 m2 (.slice (some ⟨q, 0, none⟩) s.pend.length cap) bl vs { s with old := (s.pend.take (j + 1)).foldl sfDo s.old } ∧ Onl O w1 w') := by
          have hA := HW.out.pi A (by rw [HA.out]; exact List.getElem_mem hjl)
          have hm2 : SfMap w1.drew m2 bl ((s.pend.take j).foldl sfDo s.old) := HR1.out.h2
          have := do_any hm2 (by have := HW.out.ln j; simp only [maxLen]; omega) A (by simp only [maxLen]; omega) (by simp only [maxLen]; omega)
          rw [HPT.out] at this
          refine this.mono ?_
          rintro e w' ⟨he, h1, h2⟩
          refine ⟨he, ?_, ⟨h2.os, h2.tape, h2.output, h2.size, fun k hk ho => h2.block k hk (fun e => ho (e ▸ HR1.out.o2))⟩⟩
          rw [foldl_take_succ hjl, ← HA.out]
          exact HR1.out.set2 (w' := w') h2.size (fun k hk hne => h2.block k (HR1.out.lt k hk) hne) h1
        refine wp_region_noPanic ?_
        refine wp_region_S 5 (fun _ => True) (fun w' => w'.cell? ⟨wr.heap.size, 0, none⟩ = some (.string ⟨A.gone.toArray⟩) ∧ w'.cell? ⟨wr.heap.size, 1, none⟩ = some (.string ⟨A.name.toArray⟩) ∧ w'.cell? ⟨wr.heap.size, 2, none⟩ = some (.pointer pt) ∧ w'.cell? ⟨g, 2, none⟩ = some (.map (some m2))) (by kernel_rfl) ?_ ?_ (fun hHeld => ?_)
        · trivial
        · exact ⟨y0, y1, y2, cm⟩
        refine wpAnyS_take (i := 0) (v := .agg #[.string ⟨A.gone.toArray⟩, .string ⟨A.name.toArray⟩, .pointer pt]) true rfl (by kernel_rfl) (by kernel_rfl) (by kernel_rfl) (by kernel_rfl) (by kernel_rfl) (by kernel_rfl) (fun _ _ _ h => h) (Or.inl ⟨by rfl, ?_⟩) hHeld (fun hHeld => ?_)
        · (intro w1 hSw; have hSw2 := hSw.2 rfl; have hSw := hSw.1; (try dsimp only at hSw hSw2); go_simp)
        simp only [List.getElem_toArray, List.getElem_cons_zero, Act.put, List.setIfInBounds_toArray, List.set_cons_zero, List.set_cons_succ]
        refine wpAnyS_take (i := 1) (v := .pointer (some ⟨g, 0, none⟩)) _ rfl (by kernel_rfl) (by kernel_rfl) (by kernel_rfl) (by kernel_rfl) (by kernel_rfl) rfl (fun _ _ _ h => h) (Or.inl ⟨by rfl, ?_⟩) hHeld (fun hHeld => ?_)
        · (intro w1 hSw; have hSw := hSw.1; (try dsimp only at hSw); go_simp)
        simp only [List.getElem_toArray, List.getElem_cons_succ, List.getElem_cons_zero, Act.put, List.setIfInBounds_toArray, List.set_cons_zero, List.set_cons_succ]
        refine wpAnyS_take (i := 2) (v := .pointer (some ⟨g, 0, none⟩)) _ rfl (by kernel_rfl) (by kernel_rfl) (by kernel_rfl) (by kernel_rfl) (by kernel_rfl) rfl (fun _ _ _ h => h) (Or.inl ⟨by rfl, ?_⟩) hHeld (fun hHeld => ?_)
        · (intro w1 hSw; have hSw := hSw.1; (try dsimp only at hSw); go_simp)
        simp only [List.getElem_toArray, List.getElem_cons_succ, List.getElem_cons_zero, Act.put, List.setIfInBounds_toArray, List.set_cons_zero, List.set_cons_succ]
        refine wpAnyS_take (i := 3) (v := .pointer (some ⟨g, 2, none⟩)) _ rfl (by kernel_rfl) (by kernel_rfl) (by kernel_rfl) (by kernel_rfl) (by kernel_rfl) rfl (fun _ _ _ h => h) (Or.inl ⟨by rfl, ?_⟩) hHeld (fun hHeld => ?_)
        · (intro w1 hSw; have hSw := hSw.1; (try dsimp only at hSw); go_simp)
        simp only [List.getElem_toArray, List.getElem_cons_succ, List.getElem_cons_zero, Act.put, List.setIfInBounds_toArray, List.set_cons_zero, List.set_cons_succ]
        refine wpAnyS_take (i := 4) (v := .map (some m2)) true rfl (by kernel_rfl) (by kernel_rfl) (by kernel_rfl) (by kernel_rfl) (by kernel_rfl) (by kernel_rfl) (fun _ _ _ h => h) (Or.inl ⟨by rfl, ?_⟩) hHeld (fun hHeld => ?_)
        · (intro w1 hSw; have hSw2 := hSw.2 rfl; have hSw := hSw.1; (try dsimp only at hSw hSw2); go_simp)
        simp only [List.getElem_toArray, List.getElem_cons_succ, List.getElem_cons_zero, Act.put, List.setIfInBounds_toArray, List.set_cons_zero, List.set_cons_succ]
        refine wpAnyS_ready (i := 5) (by kernel_rfl) rfl (fun K hK => ?_)
        go_simp
        refine HDO.out.mono ?_
        rintro e w2 ⟨rfl, hf2, ho2⟩
        have HR2 := (show Hid (FsAt w2 O g m1 m2 (.slice (some ⟨q, 0, none⟩) s.pend.length cap) bl vs { s with old := (s.pend.take (j + 1)).foldl sfDo s.old }) from hf2)
        have HO2 : Hid (Onl O w w2) := HO1.out.then ho2
        clear hf2 ho2 HDO HO1 HR1 HX y0 y1 y2 cm
        go_simp
        refine hK.out _ _ ⟨?_, fun hno => absurd hno (by decide)⟩ (fun hHeld => ?_)
        · trivial
        clear hK K
        refine wpAnyS_done (by kernel_rfl) ?_ _
        refine NoPanic.normal ?_
        go_wp2_with fail
        go_roundw
        case rel => exact ⟨j + 1, by go_num, by omega, HR2, HO2⟩
        case measure => simp [intOf]; omega
    · have hlt' : ¬ (j : Int) < (k : Int) := by omega
      obtain rfl : j = k := by omega
      have fz := HR.out.fz 3
      have c3 := HR.out.c3
      go_wp2_with fail
      refine bodyPost_end (results_none rfl _ _ _) rfl ?_
      refine ⟨rfl, ?_, HO.out.then (Onl.set (a := ⟨g, 3, none⟩) HR.out.og _)⟩
      refine FsAt.setG (s := { s with old := (s.pend.take j).foldl sfDo s.old }) HR.out (fun _ q => q) (fun k q => by have := HR.out.lt k q; simp [World.setCell]; exact this) (fun k _ hk _ => Below.heap_setCell _ _ _ _ hk) ?_ (GOwn.nil _ _ _) (fun k hk => by simp [Value.ownBlock] at hk)
      have := cells_set HR.out.hg 3 (.slice none 0 0); simpa using this
end Go.Proofs.YtilbffgpniomcaaGreatDoor

/- A file system: the directory is changed. -/
namespace Go.Proofs.YtilbffgpniomcaaGreatDoor
open Go.RowKit Go.Maps

theorem wp_app_runG {w w' : World} {o : Oper} {a : Act} {K : Act → World → Prop} {Q : Exit → Act → World → Prop} (s x : Operand) (t ty : TypeId) (ho : o.op = .call { callee := .builtin .append, args := #[s, x], argTypes := #[t, t] }) (hty : o.type = ty) (v vx v' : Value) (hs : a.eval s = v) (hx : a.eval x = vx)
    (hrun : (Builtin.append_ #[t, t] ty #[v, vx]).run Tryz.prog w = .ok v' w') (h : K (a.put o.dst v') w') : o.wp Tryz.prog a w K Q := by
  subst hty
  unfold Oper.wp
  simp [execOp, ho, resolve, invoke, builtin, hs, hx, hrun, Result.andThen]
  exact h
theorem sfPlan_dir (s : SfS) : (sfPlan s).2.dir = s.dir := by unfold sfPlan; (split; rfl; split <;> rfl)
theorem sfPlan_old (s : SfS) : (sfPlan s).2.old = s.old := by unfold sfPlan; (split; rfl; split <;> rfl)
theorem sfPlan_pend (s : SfS) : (sfPlan s).2.pend = s.pend := by unfold sfPlan; (split; rfl; split <;> rfl)
theorem sfPlan_fls (s : SfS) : (sfPlan s).2.fls = s.fls := by unfold sfPlan; (split; rfl; split <;> rfl)
theorem sfPlan_room (s : SfS) : (sfPlan s).2.room = s.room := by unfold sfPlan; (split; rfl; split <;> rfl)
theorem SfWf.dl {s : SfS} (h : SfWf s) : s.dir.length ≤ 256 := by have := h.ln s.pend.length; rw [List.take_length, ← h.ap] at this; exact this
theorem infoA : (Tryz.prog.info? 83).map (fun i => (i.zero, i.size, i.bytes)) = some (some (.agg #[.string ⟨#[]⟩, .string ⟨#[]⟩, .pointer none]), 3, 40) := by kernel_rfl
theorem run_appA {w : World} (ty : TypeId) (bl : Nat → Nat) (v vx : Value) (P : List SfA) (a : SfA) (h : GOwn w 83 3 v P.length (P.flatMap (sfAv bl))) (hx : GSrc w 3 vx 1 (sfAv bl a)) (hl : P.length < 1099511627776) :
    ∃ v' w', (Builtin.append_ #[74, 74] ty #[v, vx]).run Tryz.prog w = .ok v' w' ∧ GOwn w' 83 3 v' (P ++ [a]).length ((P ++ [a]).flatMap (sfAv bl)) ∧ w.grownBy w' v.ownBlock ∧ (∀ k, v'.ownBlock = some k → v.ownBlock = some k ∨ (w.heap.size ≤ k ∧ k < w'.heap.size)) := by
  obtain ⟨i0, hi, hz0, hz1, hz2⟩ := info_parts infoA
  obtain ⟨v', w', h1, h2, h3, h4⟩ := run_gapp (P := Tryz.prog) 74 ty 83 i0 _ 3 40 Tryz.underlying74 hi hz0 hz1 hz2 rfl v P.length _ h vx 1 (sfAv bl a) hx (by
    intro u hu
    obtain ⟨pt, hpt⟩ := sfPv_ptr bl a.file
    simp only [sfAv, hpt, List.mem_cons, List.not_mem_nil, or_false] at hu
    rcases hu with rfl | rfl | rfl <;> rfl) (by simp only [maxLen]; omega) (by omega)
  exact ⟨v', w', h1, by rw [List.length_append, List.flatMap_append]; simpa using h2, h3, h4⟩
theorem change_any {w : World} {O : Nat → Prop} {g m1 m2 : Nat} {pv : Value} {bl : Nat → Nat} {vs : Nat → Value} {s : SfS} (h : FsAt w O g m1 m2 pv bl vs s) (hw : SfWf s) (a : SfA) (h1 : a.gone.length ≤ maxLen) (h2 : a.name.length ≤ maxLen) (hpn : s.pend.length < 1099511627776) :
    Calls Tryz.prog 32 #[.pointer (some ⟨g, 0, none⟩), .agg #[.string ⟨a.gone.toArray⟩, .string ⟨a.name.toArray⟩, sfPv bl a.file]] w fun e w' => e = .returned (.int .i64 (sfChange s a).1) ∧ (∃ pv', FsAt w' (Grw O w w') g m1 m2 pv' bl vs (sfChange s a).2) ∧ Onl O w w' := by
  obtain ⟨A, HA⟩ := hid_ex a
  obtain ⟨pt, hpt⟩ := sfPv_ptr bl a.file
  rw [hpt]
  have HPT : Hid (sfPv bl a.file = .pointer pt) := hpt
  clear hpt
  have HW : Hid (SfWf s) := hw
  have HF0 : Hid (FsAt w O g m1 m2 pv bl vs s) := h
  have HF1 : Hid (FsAt (w.alloc (.cells #[.string ⟨a.gone.toArray⟩, .string ⟨a.name.toArray⟩, .pointer pt] 83)) O g m1 m2 pv bl vs s) := h.keep (fun k hk => Below.heap_alloc _ _ _ (h.lt k hk)) (by simp)
  have HX : Hid ((w.alloc (.cells #[.string ⟨a.gone.toArray⟩, .string ⟨a.name.toArray⟩, .pointer pt] 83)).heap[w.heap.size]? = some (.cells #[.string ⟨a.gone.toArray⟩, .string ⟨a.name.toArray⟩, .pointer pt] 83)) := heap_alloc_new _ _
  have HO1 : Hid (Onl O w (w.alloc (.cells #[.string ⟨a.gone.toArray⟩, .string ⟨a.name.toArray⟩, .pointer pt] 83))) := Onl.alloc _
  have HNO : Hid (¬ O w.heap.size) := fun q => by have := h.lt _ q; omega
  clear h hw
  unfold sfChange
  by_cases hE : (sfPlan s).1 = 0
  · rw [if_pos hE]
    obtain ⟨S, HS⟩ := hid_ex (sfPlan s).2
    rw [← HS.out]
    go_enter Tryz.func32, Tryz.ntmps32
    go_wp2_with fail
    refine (planned_any HF1.out HW.out).mono ?_
    rintro e w2 ⟨rfl, hf2, ho2, hs2⟩
    have HF2 : Hid (FsAt w2 O g m1 m2 pv bl vs (sfPlan s).2) := hf2
    have HO2 : Hid (Onl O w w2) := HO1.out.then ho2
    have HX2 : Hid (w2.heap[w.heap.size]? = some (.cells #[.string ⟨a.gone.toArray⟩, .string ⟨a.name.toArray⟩, .pointer pt] 83)) := (ho2.block _ (by simp) HNO.out).trans HX.out
    clear hf2 ho2 hs2 HF1 HO1 HX
    rw [hE]
    rw [← HS.out] at HF2
    have HD : Hid (S.dir = s.dir) := by show S.dir = _; rw [HS.out]; exact sfPlan_dir s
    have HP : Hid (S.pend = s.pend) := by show S.pend = _; rw [HS.out]; exact sfPlan_pend s
    clear hE
    go_wp2_with fail
    have cm := HF2.out.c1
    have y0 := cell_of HX2.out 0 _ rfl
    have y1 := cell_of HX2.out 1 _ rfl
    have y2 := cell_of HX2.out 2 _ rfl
    have HDO : Hid (Calls Tryz.prog 67 #[.agg #[.string ⟨a.gone.toArray⟩, .string ⟨a.name.toArray⟩, .pointer pt], .map (some m1)] w2.drew fun e w' => e = .returned (.tuple #[]) ∧ FsAt w' O g m1 m2 pv bl vs { S with dir := sfDo S.dir a } ∧ Onl O w2 w') := by
      have hm1 : SfMap w2.drew m1 bl S.dir := HF2.out.h1
      have := do_any hm1 (by have := HW.out.dl; rw [HD.out]; simp only [maxLen]; omega) a h1 h2
      rw [HPT.out] at this
      refine this.mono ?_
      rintro e w' ⟨he, h1, h2⟩
      refine ⟨he, HF2.out.set1 (w' := w') h2.size (fun k hk hne => h2.block k (HF2.out.lt k hk) hne) h1, ⟨h2.os, h2.tape, h2.output, h2.size, fun k hk ho => h2.block k hk (fun e => ho (e ▸ HF2.out.o1))⟩⟩
    refine wp_region_noPanic ?_
    refine wp_region_S 5 (fun _ => True) (fun w' => w'.cell? ⟨w.heap.size, 0, none⟩ = some (.string ⟨a.gone.toArray⟩) ∧ w'.cell? ⟨w.heap.size, 1, none⟩ = some (.string ⟨a.name.toArray⟩) ∧ w'.cell? ⟨w.heap.size, 2, none⟩ = some (.pointer pt) ∧ w'.cell? ⟨g, 1, none⟩ = some (.map (some m1))) (by kernel_rfl) ?_ ?_ (fun hHeld => ?_)
    · trivial
    · exact ⟨y0, y1, y2, cm⟩
    refine wpAnyS_take (i := 0) (v := .agg #[.string ⟨a.gone.toArray⟩, .string ⟨a.name.toArray⟩, .pointer pt]) true rfl (by kernel_rfl) (by kernel_rfl) (by kernel_rfl) (by kernel_rfl) (by kernel_rfl) (by kernel_rfl) (fun _ _ _ h => h) (Or.inl ⟨by rfl, ?_⟩) hHeld (fun hHeld => ?_)
    · (intro w1 hSw; have hSw2 := hSw.2 rfl; have hSw := hSw.1; (try dsimp only at hSw hSw2); go_simp)
    simp only [List.getElem_toArray, List.getElem_cons_zero, Act.put, List.setIfInBounds_toArray, List.set_cons_zero, List.set_cons_succ]
    refine wpAnyS_take (i := 1) (v := .pointer (some ⟨g, 0, none⟩)) _ rfl (by kernel_rfl) (by kernel_rfl) (by kernel_rfl) (by kernel_rfl) (by kernel_rfl) rfl (fun _ _ _ h => h) (Or.inl ⟨by rfl, ?_⟩) hHeld (fun hHeld => ?_)
    · (intro w1 hSw; have hSw := hSw.1; (try dsimp only at hSw); go_simp)
    simp only [List.getElem_toArray, List.getElem_cons_succ, List.getElem_cons_zero, Act.put, List.setIfInBounds_toArray, List.set_cons_zero, List.set_cons_succ]
    refine wpAnyS_take (i := 2) (v := .pointer (some ⟨g, 0, none⟩)) _ rfl (by kernel_rfl) (by kernel_rfl) (by kernel_rfl) (by kernel_rfl) (by kernel_rfl) rfl (fun _ _ _ h => h) (Or.inl ⟨by rfl, ?_⟩) hHeld (fun hHeld => ?_)
    · (intro w1 hSw; have hSw := hSw.1; (try dsimp only at hSw); go_simp)
    simp only [List.getElem_toArray, List.getElem_cons_succ, List.getElem_cons_zero, Act.put, List.setIfInBounds_toArray, List.set_cons_zero, List.set_cons_succ]
    refine wpAnyS_take (i := 3) (v := .pointer (some ⟨g, 1, none⟩)) _ rfl (by kernel_rfl) (by kernel_rfl) (by kernel_rfl) (by kernel_rfl) (by kernel_rfl) rfl (fun _ _ _ h => h) (Or.inl ⟨by rfl, ?_⟩) hHeld (fun hHeld => ?_)
    · (intro w1 hSw; have hSw := hSw.1; (try dsimp only at hSw); go_simp)
    simp only [List.getElem_toArray, List.getElem_cons_succ, List.getElem_cons_zero, Act.put, List.setIfInBounds_toArray, List.set_cons_zero, List.set_cons_succ]
    refine wpAnyS_take (i := 4) (v := .map (some m1)) true rfl (by kernel_rfl) (by kernel_rfl) (by kernel_rfl) (by kernel_rfl) (by kernel_rfl) (by kernel_rfl) (fun _ _ _ h => h) (Or.inl ⟨by rfl, ?_⟩) hHeld (fun hHeld => ?_)
    · (intro w1 hSw; have hSw2 := hSw.2 rfl; have hSw := hSw.1; (try dsimp only at hSw hSw2); go_simp)
    simp only [List.getElem_toArray, List.getElem_cons_succ, List.getElem_cons_zero, Act.put, List.setIfInBounds_toArray, List.set_cons_zero, List.set_cons_succ]
    refine wpAnyS_ready (i := 5) (by kernel_rfl) rfl (fun K hK => ?_)
    go_simp
    refine HDO.out.mono ?_
    rintro e w3 ⟨rfl, hf3, ho3⟩
    have HF3 := (show Hid (FsAt w3 O g m1 m2 pv bl vs { S with dir := sfDo S.dir a }) from hf3)
    have HO3 : Hid (Onl O w w3) := HO2.out.then ho3
    have HX3 : Hid (w3.heap[w.heap.size]? = some (.cells #[.string ⟨a.gone.toArray⟩, .string ⟨a.name.toArray⟩, .pointer pt] 83)) := (ho3.block _ (Array.getElem?_eq_some_iff.1 HX2.out).1 HNO.out).trans HX2.out
    clear hf3 ho3 HDO HO2 HF2 HX2 y0 y1 y2 cm
    go_simp
    refine hK.out _ _ ⟨?_, fun hno => absurd hno (by decide)⟩ (fun hHeld => ?_)
    · trivial
    clear hK K
    refine wpAnyS_done (by kernel_rfl) ?_ _
    refine NoPanic.normal ?_
    go_wp2_with fail
    have y0 := cell_of HX3.out 0 _ rfl
    have y1 := cell_of HX3.out 1 _ rfl
    have y2 := cell_of HX3.out 2 _ rfl
    have cp := HF3.out.c3
    have fp := HF3.out.fz 3
    obtain ⟨pa, pc, hpv, _⟩ := HF3.out.hp.form
    subst hpv
    generalize hN : S.pend.length = N at *
    have HN : Hid (S.pend.length = N) := hN
    clear hN
    have HF3' : Hid (FsAt w3 O g m1 m2 (.slice pa N pc) bl vs { S with dir := sfDo S.dir a }) := HF3.out
    clear HF3
    obtain ⟨w4, HW4⟩ := hid_ex ((w3.alloc (.cells #[.string ⟨a.gone.toArray⟩, .string ⟨a.name.toArray⟩, .pointer pt] 83)).drew)
    have hk4 : ∀ k, k < w3.heap.size → w4.heap[k]? = w3.heap[k]? := fun k hk => by rw [HW4.out]; exact Below.heap_alloc w3 _ k hk
    have hs4 : w4.heap.size = w3.heap.size + 1 := by rw [HW4.out]; exact World.size_alloc _ _
    obtain ⟨v', w5, hrun, hg5, hgr, hloc⟩ := run_appA (w := w4) 74 bl (.slice pa N pc) (.slice (some ⟨w3.heap.size, 0, none⟩) 1 1) S.pend a (by
      refine HF3'.out.hp.keep fun k hk => hk4 k (HF3'.out.lt k (HF3'.out.op k hk))) (by
      refine ⟨rfl, .inr ⟨_, _, rfl, fun j u hj => ?_⟩⟩
      have hb4 : w4.heap[w3.heap.size]? = some (.cells #[.string ⟨a.gone.toArray⟩, .string ⟨a.name.toArray⟩, .pointer pt] 83) := by rw [HW4.out]; exact heap_alloc_new w3 _
      simp only [sfAv, HPT.out] at hj
      match j, hj with
      | 0, hj => simp at hj; subst hj; exact cell_of hb4 0 _ rfl
      | 1, hj => simp at hj; subst hj; exact cell_of hb4 1 _ rfl
      | 2, hj => simp at hj; subst hj; exact cell_of hb4 2 _ rfl) (by rw [HP.out]; exact hpn)
    have hg3 := (Array.getElem?_eq_some_iff.1 HF3'.out.hg).1
    obtain ⟨va, vc, hv', -⟩ := hg5.form
    obtain ⟨M, HM⟩ := hid_ex ((S.pend ++ [a]).length)
    rw [← HM.out] at hv'
    subst hv'
    have HG5 : Hid (w5.heap[g]? = some (.cells #[.int .i64 S.room, .map (some m1), .map (some m2), .slice pa N pc, .int .i64 S.left, .int .i64 S.fault] 76)) := by
      show w5.heap[g]? = _
      rw [hgr.block g (by omega) (fun e => ?_), hk4 g hg3]
      · exact HF3'.out.hg
      · obtain ⟨cur, hc⟩ := HF3'.out.pvT e.symm
        exact ty_ne hc HF3'.out.hg (by decide) rfl
    have HS5 : Hid (w4.heap.size ≤ w5.heap.size) := hgr.size
    have HGO : Hid (GOwn w5 83 3 (.slice va M vc) (S.pend ++ [a]).length ((S.pend ++ [a]).flatMap (sfAv bl))) := hg5
    have HGR : Hid (w4.grownBy w5 (Value.slice pa N pc).ownBlock) := hgr
    have HLC : Hid (∀ k, (Value.slice va M vc).ownBlock = some k → (Value.slice pa N pc).ownBlock = some k ∨ (w4.heap.size ≤ k ∧ k < w5.heap.size)) := hloc
    have HK4 : Hid (∀ k, k < w3.heap.size → w4.heap[k]? = w3.heap[k]?) := hk4
    have HZ4 : Hid (w4.heap.size = w3.heap.size + 1) := hs4
    have d3 : w5.cell? ⟨g, 3, none⟩ = some (.slice pa N pc) := cell_of HG5.out 3 _ rfl
    have e3 : w5.frozen? ⟨g, 3, none⟩ = false := by simp [World.frozen?, HG5.out]
    have z0 : w4.cell? ⟨w.heap.size, 0, none⟩ = some (.string ⟨a.gone.toArray⟩) := (World.cell?_of_block (hk4 _ (Array.getElem?_eq_some_iff.1 HX3.out).1)).trans y0
    have z1 : w4.cell? ⟨w.heap.size, 1, none⟩ = some (.string ⟨a.name.toArray⟩) := (World.cell?_of_block (hk4 _ (Array.getElem?_eq_some_iff.1 HX3.out).1)).trans y1
    have z2 : w4.cell? ⟨w.heap.size, 2, none⟩ = some (.pointer pt) := (World.cell?_of_block (hk4 _ (Array.getElem?_eq_some_iff.1 HX3.out).1)).trans y2
    have z3 : w4.cell? ⟨g, 3, none⟩ = some (.slice pa N pc) := (World.cell?_of_block (hk4 _ hg3)).trans cp
    have hb5 : w5.heap[w.heap.size]? = w4.heap[w.heap.size]? := hgr.block _ (by have := (Array.getElem?_eq_some_iff.1 HX3.out).1; omega) (fun e => HNO.out (HF3'.out.op _ e.symm))
    have u0 := (World.cell?_of_block (a := ⟨w.heap.size, 0, none⟩) hb5).trans z0
    have u1 := (World.cell?_of_block (a := ⟨w.heap.size, 1, none⟩) hb5).trans z1
    have u2 := (World.cell?_of_block (a := ⟨w.heap.size, 2, none⟩) hb5).trans z2
    clear hg5 hgr hloc hk4 hs4 hb5
    refine wp_region_noPanic ?_
    refine wp_region_S 7 (fun w' => w'.cell? ⟨w.heap.size, 0, none⟩ = some (.string ⟨a.gone.toArray⟩) ∧ w'.cell? ⟨w.heap.size, 1, none⟩ = some (.string ⟨a.name.toArray⟩) ∧ w'.cell? ⟨w.heap.size, 2, none⟩ = some (.pointer pt)) (fun w' => w'.cell? ⟨g, 3, none⟩ = some (.slice pa N pc)) (by kernel_rfl) ?_ ?_ (fun hHeld => ?_)
    · exact ⟨y0, y1, y2⟩
    · exact cp
    refine wpAnyS_take (i := 0) (v := .pointer (some ⟨g, 0, none⟩)) _ rfl (by kernel_rfl) (by kernel_rfl) (by kernel_rfl) (by kernel_rfl) (by kernel_rfl) rfl (fun _ _ _ h => h) (Or.inl ⟨by rfl, ?_⟩) hHeld (fun hHeld => ?_)
    · (intro w1 hSw; have hSw := hSw.1; (try dsimp only at hSw); go_simp)
    simp only [List.getElem_toArray, List.getElem_cons_zero, Act.put, List.setIfInBounds_toArray, List.set_cons_zero, List.set_cons_succ]
    refine wpAnyS_take (i := 1) (v := .pointer (some ⟨g, 0, none⟩)) _ rfl (by kernel_rfl) (by kernel_rfl) (by kernel_rfl) (by kernel_rfl) (by kernel_rfl) rfl (fun _ _ _ h => h) (Or.inl ⟨by rfl, ?_⟩) hHeld (fun hHeld => ?_)
    · (intro w1 hSw; have hSw := hSw.1; (try dsimp only at hSw); go_simp)
    simp only [List.getElem_toArray, List.getElem_cons_succ, List.getElem_cons_zero, Act.put, List.setIfInBounds_toArray, List.set_cons_zero, List.set_cons_succ]
    refine wpAnyS_take (i := 2) (v := .pointer (some ⟨g, 0, none⟩)) _ rfl (by kernel_rfl) (by kernel_rfl) (by kernel_rfl) (by kernel_rfl) (by kernel_rfl) rfl (fun _ _ _ h => h) (Or.inl ⟨by rfl, ?_⟩) hHeld (fun hHeld => ?_)
    · (intro w1 hSw; have hSw := hSw.1; (try dsimp only at hSw); go_simp)
    simp only [List.getElem_toArray, List.getElem_cons_succ, List.getElem_cons_zero, Act.put, List.setIfInBounds_toArray, List.set_cons_zero, List.set_cons_succ]
    refine wpAnyS_take (i := 3) (v := .pointer (some ⟨g, 3, none⟩)) _ rfl (by kernel_rfl) (by kernel_rfl) (by kernel_rfl) (by kernel_rfl) (by kernel_rfl) rfl (fun _ _ _ h => h) (Or.inl ⟨by rfl, ?_⟩) hHeld (fun hHeld => ?_)
    · (intro w1 hSw; have hSw := hSw.1; (try dsimp only at hSw); go_simp)
    simp only [List.getElem_toArray, List.getElem_cons_succ, List.getElem_cons_zero, Act.put, List.setIfInBounds_toArray, List.set_cons_zero, List.set_cons_succ]
    refine wpAnyS_take (i := 4) (v := .slice pa N pc) true rfl (by kernel_rfl) (by kernel_rfl) (by kernel_rfl) (by kernel_rfl) (by kernel_rfl) (by kernel_rfl) (fun _ _ _ h => h) (Or.inl ⟨by rfl, ?_⟩) hHeld (fun hHeld => ?_)
    · (intro w1 hSw; have hSw2 := hSw.2 rfl; have hSw := hSw.1; (try dsimp only at hSw hSw2); go_simp)
    simp only [List.getElem_toArray, List.getElem_cons_succ, List.getElem_cons_zero, Act.put, List.setIfInBounds_toArray, List.set_cons_zero, List.set_cons_succ]
    refine wpAnyS_take (i := 5) (v := .agg #[.string ⟨a.gone.toArray⟩, .string ⟨a.name.toArray⟩, .pointer pt]) _ rfl (by kernel_rfl) (by kernel_rfl) (by kernel_rfl) (by kernel_rfl) (by kernel_rfl) rfl (fun _ _ _ h => h) (Or.inl ⟨by rfl, ?_⟩) hHeld (fun hHeld => ?_)
    · (intro w1 hSw; have hSw := hSw.1; (try dsimp only at hSw); go_simp)
    simp only [List.getElem_toArray, List.getElem_cons_succ, List.getElem_cons_zero, Act.put, List.setIfInBounds_toArray, List.set_cons_zero, List.set_cons_succ]
    clear y0 y1 y2 cp fp
    refine wpAnyS_ready (i := 6) (by kernel_rfl) rfl (fun K hK => ?_)
    go_simp
    rw [← HW4.out]
    refine hK.out _ _ ⟨?_, fun _ => ?_⟩ (fun hHeld => ?_)
    · exact ⟨z0, z1, z2⟩
    · exact z3
    clear hK K
    refine wpAnyS_ready (i := 7) (by kernel_rfl) rfl (fun K hK => ?_)
    refine wp_app_runG (.tmp 21) (.tmp 23) 74 74 rfl rfl _ _ _ (by simp [Act.eval]) (by simp [Act.eval]) hrun ?_
    simp only [List.getElem_toArray, List.getElem_cons_succ, List.getElem_cons_zero, Act.put, List.setIfInBounds_toArray, List.set_cons_zero, List.set_cons_succ]
    refine hK.out _ _ ⟨?_, fun hno => absurd hno (by decide)⟩ (fun hHeld => ?_)
    · exact ⟨u0, u1, u2⟩
    clear hK K
    clear z0 z1 z2 z3
    refine wpAnyS_take (i := 8) (v := .pointer (some ⟨g, 0, none⟩)) _ rfl (by kernel_rfl) (by kernel_rfl) (by kernel_rfl) (by kernel_rfl) (by kernel_rfl) rfl (fun _ _ _ h => h) (Or.inl ⟨by rfl, ?_⟩) hHeld (fun hHeld => ?_)
    · (intro w1 hSw; have hSw := hSw.1; (try dsimp only at hSw); go_simp)
    simp only [List.getElem_toArray, List.getElem_cons_succ, List.getElem_cons_zero, Act.put, List.setIfInBounds_toArray, List.set_cons_zero, List.set_cons_succ]
    refine wpAnyS_take (i := 9) (v := .pointer (some ⟨g, 3, none⟩)) _ rfl (by kernel_rfl) (by kernel_rfl) (by kernel_rfl) (by kernel_rfl) (by kernel_rfl) rfl (fun _ _ _ h => h) (Or.inl ⟨by rfl, ?_⟩) hHeld (fun hHeld => ?_)
    · (intro w1 hSw; have hSw := hSw.1; (try dsimp only at hSw); go_simp)
    simp only [List.getElem_toArray, List.getElem_cons_succ, List.getElem_cons_zero, Act.put, List.setIfInBounds_toArray, List.set_cons_zero, List.set_cons_succ]
    refine wpAnyS_ready (i := 10) (by kernel_rfl) rfl (fun K hK => ?_)
    go_simp
    refine hK.out _ _ ⟨?_, fun hno => absurd hno (by decide)⟩ (fun hHeld => ?_)
    · exact ⟨(World.cell?_setCell_other _ _ _ _ (by simp)).trans u0, (World.cell?_setCell_other _ _ _ _ (by simp)).trans u1, (World.cell?_setCell_other _ _ _ _ (by simp)).trans u2⟩
    clear hK K
    refine wpAnyS_done (by kernel_rfl) ?_ _
    refine NoPanic.normal ?_
    go_wp2_with fail
    go_ret
    refine ⟨rfl, ⟨.slice va M vc, ?_⟩, ?_⟩
    · refine FsAt.setG (s := { S with dir := sfDo S.dir a }) HF3'.out (fun _ q => .inl q) (fun k q => ?_) (fun k ho hk hp => ?_) ?_ (HGO.out.keep fun k hk => ?_) (fun k hk => ?_)
      · have : k < w5.heap.size := by
          have h3 := HO3.out.size
          rcases q with q | q
          · have := HF3'.out.lt k q; have := HS5.out; have := HZ4.out; omega
          · simpa [World.setCell] using q.2
        simpa [World.setCell] using this
      · rw [Below.heap_setCell _ _ _ _ hk, HGR.out.block k (by have := HF3'.out.lt k ho; have := HZ4.out; omega) hp, HK4.out k (HF3'.out.lt k ho)]
      · have := cells_set HG5.out 3 (.slice va M vc); simpa using this
      · obtain ⟨cur, hc⟩ := HGO.out.block hk
        exact Below.heap_setCell _ _ _ _ (ty_ne hc HG5.out (by decide))
      · rcases HLC.out k hk with q | q
        · exact .inl (HF3'.out.op k q)
        · exact .inr ⟨by have := HO3.out.size; have := HZ4.out; omega, by simpa [World.setCell] using q.2⟩
    · refine HO3.out.then ⟨?_, ?_, ?_, ?_, fun k hk ho => ?_⟩
      · show w5.os = _; rw [HGR.out.os, HW4.out]; rfl
      · show w5.tape = _; rw [HGR.out.tape, HW4.out]; rfl
      · show w5.output = _; rw [HGR.out.output, HW4.out]; rfl
      · have := HS5.out; have := HZ4.out; simp [World.setCell]; omega
      · have hne : k ≠ g := fun e => ho (e ▸ HF3'.out.og)
        rw [Below.heap_setCell _ _ _ _ hne, HGR.out.block k (by have := HZ4.out; omega) (fun e => ho (HF3'.out.op k e.symm)), HK4.out k hk]
  · rw [if_neg hE]
    have hE' : ((sfPlan s).1 == 0) = false := by simpa using hE
    go_enter Tryz.func32, Tryz.ntmps32
    go_wp2_with fail
    refine (planned_any HF1.out HW.out).mono ?_
    rintro e w2 ⟨rfl, hf2, ho2, hs2⟩
    have HF2 : Hid (FsAt w2 O g m1 m2 pv bl vs (sfPlan s).2) := hf2
    have HO2 : Hid (Onl O w w2) := HO1.out.then ho2
    have HX2 : Hid (w2.heap[w.heap.size]? = some (.cells #[.string ⟨a.gone.toArray⟩, .string ⟨a.name.toArray⟩, .pointer pt] 83)) := (ho2.block _ (by simp) HNO.out).trans HX.out
    clear hf2 ho2 hs2 HF1 HO1 HX
    go_wp2_with fail
    go_ret
    exact ⟨rfl, ⟨pv, HF2.out.wider (fun _ q => .inl q) (Grw.lt HF0.out.lt HO2.out.size)⟩, HO2.out⟩
end Go.Proofs.YtilbffgpniomcaaGreatDoor
