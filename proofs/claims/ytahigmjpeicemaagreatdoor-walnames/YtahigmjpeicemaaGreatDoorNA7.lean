/- SF2 SF3 SL0 SF4 RH, joined. -/
import Derived.Test.YtahigmjpeicemaaGreatDoorNA1
import Derived.Test.YtahigmjpeicemaaGreatDoorNA6
import Derived.RegionTactic
import Derived.BigRegion
import Derived.Deep.QuietTactic
import Derived.BigQuiet
import Derived.OwnWalk
/- A file system's calls, plainly; its small ones in memory. -/
namespace Go.Proofs.YtahigmjpeicemaaGreatDoor
open Go.RowKit Go.Maps

def sfOkC (c : UInt8) : Bool := (decide (97 ≤ c.toNat) && decide (c.toNat ≤ 122)) || (decide (48 ≤ c.toNat) && decide (c.toNat ≤ 57)) || (c.toNat == 46) || (c.toNat == 45)
def sfName (s : List UInt8) : Bool := decide (1 ≤ s.length) && decide (s.length ≤ 32) && s.all sfOkC
def sfPlan (s : SfS) : Int × SfS := if s.fault = 0 then (0, s) else if 0 < s.left then (0, { s with left := s.left - 1 }) else (s.fault, { s with fault := 0 })
def sfChange (s : SfS) (a : SfA) : Int × SfS := if (sfPlan s).1 = 0 then (0, { (sfPlan s).2 with dir := sfDo (sfPlan s).2.dir a, pend := (sfPlan s).2.pend ++ [a] }) else sfPlan s
def sfNew (s : SfS) : SfS := { s with fls := s.fls ++ [([], 0)] }
def sfCreate (s : SfS) (n : List UInt8) : Int × SfS := if sfName n = false then (1, s) else if (sfLook n s.dir).isSome = true then (80, s) else if 256 ≤ s.dir.length then (81, s) else sfChange (sfNew s) ⟨[], n, some s.fls.length⟩
def sfUsed (s : SfS) : Nat := (s.dir.map fun p => (s.fl p.2).1.length).sum
def sfAppend (s : SfS) (n b : List UInt8) : Int × SfS := match sfLook n s.dir with
  | none => (4, s)
  | some i => if 1048576 < (s.fl i).1.length + b.length then (2, s) else if s.room < ((sfUsed s + b.length : Nat) : Int) then (81, s) else
    if (sfPlan s).1 = 0 then (0, (sfPlan s).2.setF i ((s.fl i).1 ++ b, (s.fl i).2)) else sfPlan s
def sfSync (s : SfS) (n : List UInt8) : Int × SfS := match sfLook n s.dir with
  | none => (4, s)
  | some i => if (sfPlan s).1 = 0 then (0, (sfPlan s).2.setF i ((s.fl i).1, (s.fl i).1.length)) else sfPlan s
def sfRename (s : SfS) (n m : List UInt8) : Int × SfS := if sfName m = false then (1, s) else match sfLook n s.dir with
  | none => (4, s)
  | some i => sfChange s ⟨n, m, some i⟩
def sfRemove (s : SfS) (n : List UInt8) : Int × SfS := match sfLook n s.dir with
  | none => (4, s)
  | some _ => sfChange s ⟨n, [], none⟩
def sfSettle (s : SfS) (k : Nat) : SfS := { s with old := (s.pend.take k).foldl sfDo s.old, pend := [] }
def sfSyncDir (s : SfS) : Int × SfS := if (sfPlan s).1 = 0 then (0, sfSettle (sfPlan s).2 s.pend.length) else sfPlan s
def sfCut (f : List UInt8 × Nat) (keep : Int) : List UInt8 × Nat := (f.1.take (f.2 + min (max keep 0).toNat (f.1.length - f.2)), f.2 + min (max keep 0).toNat (f.1.length - f.2))
def sfCuts : List (List UInt8 × Nat) → List Int → List (List UInt8 × Nat) → List (List UInt8 × Nat)
  | [], _, fls => fls
  | p :: r, ks, fls => sfCuts r ks.tail (fls.set p.2 (sfCut (fls.getD p.2 ([], 0)) (ks.headD 0)))
def sfCrash (s : SfS) (n : Int) (ks : List Int) : SfS :=
  { sfSettle s (max n 0).toNat with dir := (sfSettle s (max n 0).toNat).old, fls := sfCuts (sfSettle s (max n 0).toNat).old ks s.fls, fault := 0 }
def sfFail (s : SfS) (n e : Int) : Int × SfS := if e ≠ 81 ∧ e ≠ 82 then (1, s) else if n < 0 then (0, { s with fault := 0 }) else (0, { s with left := n, fault := e })
/-- What every file system is. -/
structure SfWf (s : SfS) : Prop where
  r1 : 1 ≤ s.room
  r2 : s.room < 9223372036854775808
  l1 : -9223372036854775808 ≤ s.left
  l2 : s.left < 9223372036854775808
  di : ∀ p ∈ s.dir, p.2 < s.fls.length ∧ p.1.length ≤ 32
  oi : ∀ p ∈ s.old, p.2 < s.fls.length ∧ p.1.length ≤ 32
  pi : ∀ a ∈ s.pend, (∀ i, a.file = some i → i < s.fls.length) ∧ a.gone.length ≤ 32 ∧ a.name.length ≤ 32
  ap : s.dir = s.pend.foldl sfDo s.old
  ln : ∀ k, ((s.pend.take k).foldl sfDo s.old).length ≤ 256
  sy : ∀ (i : Nat) (f : List UInt8 × Nat), s.fls[i]? = some f → f.2 ≤ f.1.length ∧ f.1.length ≤ 1048576

theorem made_nil (w : World) : Calls Tryz.prog 39 #[.pointer none] w fun e w' => e = .returned (.bool false) ∧ w' = w := by
  go_enter Tryz.func39, Tryz.ntmps39
  go_wp2
  go_ret
  exact ⟨rfl, rfl⟩
theorem made_zero {g : Nat} (w : World) (h : w.cell? ⟨g, 0, none⟩ = some (.int .i64 0)) : Calls Tryz.prog 39 #[.pointer (some ⟨g, 0, none⟩)] w fun e w' => e = .returned (.bool false) ∧ w' = w := by
  go_enter Tryz.func39, Tryz.ntmps39
  go_wp2
  go_ret
  exact ⟨rfl, rfl⟩
theorem made_cell {g : Nat} {r : Int} (w : World) (h : w.cell? ⟨g, 0, none⟩ = some (.int .i64 r)) (h1 : 1 ≤ r) : Calls Tryz.prog 39 #[.pointer (some ⟨g, 0, none⟩)] w fun e w' => e = .returned (.bool true) ∧ w' = w := by
  have hd : (0 : Int) < r := by omega
  go_enter Tryz.func39, Tryz.ntmps39
  go_wp2
  go_ret
  exact ⟨rfl, rfl⟩
theorem FsAt.c0 {w : World} {O : Nat → Prop} {g m1 m2 : Nat} {pv : Value} {bl : Nat → Nat} {vs : Nat → Value} {s : SfS} (h : FsAt w O g m1 m2 pv bl vs s) : w.cell? ⟨g, 0, none⟩ = some (.int .i64 s.room) := by simp [World.cell?, h.hg]
theorem FsAt.c1 {w : World} {O : Nat → Prop} {g m1 m2 : Nat} {pv : Value} {bl : Nat → Nat} {vs : Nat → Value} {s : SfS} (h : FsAt w O g m1 m2 pv bl vs s) : w.cell? ⟨g, 1, none⟩ = some (.map (some m1)) := by simp [World.cell?, h.hg]
theorem FsAt.c2 {w : World} {O : Nat → Prop} {g m1 m2 : Nat} {pv : Value} {bl : Nat → Nat} {vs : Nat → Value} {s : SfS} (h : FsAt w O g m1 m2 pv bl vs s) : w.cell? ⟨g, 2, none⟩ = some (.map (some m2)) := by simp [World.cell?, h.hg]
theorem FsAt.c3 {w : World} {O : Nat → Prop} {g m1 m2 : Nat} {pv : Value} {bl : Nat → Nat} {vs : Nat → Value} {s : SfS} (h : FsAt w O g m1 m2 pv bl vs s) : w.cell? ⟨g, 3, none⟩ = some pv := by simp [World.cell?, h.hg]
theorem FsAt.c4 {w : World} {O : Nat → Prop} {g m1 m2 : Nat} {pv : Value} {bl : Nat → Nat} {vs : Nat → Value} {s : SfS} (h : FsAt w O g m1 m2 pv bl vs s) : w.cell? ⟨g, 4, none⟩ = some (.int .i64 s.left) := by simp [World.cell?, h.hg]
theorem FsAt.c5 {w : World} {O : Nat → Prop} {g m1 m2 : Nat} {pv : Value} {bl : Nat → Nat} {vs : Nat → Value} {s : SfS} (h : FsAt w O g m1 m2 pv bl vs s) : w.cell? ⟨g, 5, none⟩ = some (.int .i64 s.fault) := by simp [World.cell?, h.hg]
theorem FsAt.fz {w : World} {O : Nat → Prop} {g m1 m2 : Nat} {pv : Value} {bl : Nat → Nat} {vs : Nat → Value} {s : SfS} (h : FsAt w O g m1 m2 pv bl vs s) (k : Nat) : w.frozen? ⟨g, k, none⟩ = false := by simp [World.frozen?, h.hg]
theorem made_any {w : World} {O : Nat → Prop} {g m1 m2 : Nat} {pv : Value} {bl : Nat → Nat} {vs : Nat → Value} {s : SfS} (h : FsAt w O g m1 m2 pv bl vs s) (hw : SfWf s) :
    Calls Tryz.prog 39 #[.pointer (some ⟨g, 0, none⟩)] w fun e w' => e = .returned (.bool true) ∧ w' = w := made_cell w h.c0 hw.r1
theorem find_nil (n : List UInt8) (w : World) : Calls Tryz.prog 50 #[.pointer none, .string ⟨n.toArray⟩] w fun e w' => e = .returned (.tuple #[.pointer none, .int .i64 6]) ∧ w' = w := by
  go_enter Tryz.func50, Tryz.ntmps50
  go_wp2_with (go_at_call 39; refine (made_nil _).mono ?_; rintro e w' ⟨rfl, rfl⟩)
  go_ret2
  exact ⟨rfl, rfl⟩
theorem find_zero {g : Nat} (n : List UInt8) (w : World) (h : w.cell? ⟨g, 0, none⟩ = some (.int .i64 0)) : Calls Tryz.prog 50 #[.pointer (some ⟨g, 0, none⟩), .string ⟨n.toArray⟩] w fun e w' => e = .returned (.tuple #[.pointer none, .int .i64 6]) ∧ w' = w := by
  go_enter Tryz.func50, Tryz.ntmps50
  go_wp2_with (go_at_call 39; refine (made_zero _ h).mono ?_; rintro e w' ⟨rfl, rfl⟩)
  go_ret2
  exact ⟨rfl, rfl⟩
def sfFe : Option Nat → Int
  | none => 4
  | some _ => 0
theorem find_any {w : World} {O : Nat → Prop} {g m1 m2 : Nat} {pv : Value} {bl : Nat → Nat} {vs : Nat → Value} {s : SfS} (h : FsAt w O g m1 m2 pv bl vs s) (hw : SfWf s) (n : List UInt8) (hn : n.length ≤ maxLen) :
    Calls Tryz.prog 50 #[.pointer (some ⟨g, 0, none⟩), .string ⟨n.toArray⟩] w fun e w' => e = .returned (.tuple #[sfPv bl (sfLook n s.dir), .int .i64 (sfFe (sfLook n s.dir))]) ∧ w' = w := by
  have c0 := h.c0
  have c1 := h.c1
  have hr := h.h1.look n hn
  have h1 := hw.r1
  clear h hw
  cases hl : sfLook n s.dir with
  | none =>
    rw [hl] at hr
    simp only [sfPv] at hr
    go_enter Tryz.func50, Tryz.ntmps50
    go_wp2_with (go_at_call 39; refine (made_cell _ c0 h1).mono ?_; rintro e w' ⟨rfl, rfl⟩)
    go_ret2
    exact ⟨rfl, rfl⟩
  | some i =>
    rw [hl] at hr
    simp only [sfPv] at hr
    go_enter Tryz.func50, Tryz.ntmps50
    go_wp2_with (go_at_call 39; refine (made_cell _ c0 h1).mono ?_; rintro e w' ⟨rfl, rfl⟩)
    go_ret2
    exact ⟨rfl, rfl⟩
theorem cells_set {w : World} {g : Nat} {cs : Array Value} {T : TypeId} (h : w.heap[g]? = some (.cells cs T)) (k : Nat) (v : Value) : (w.setCell ⟨g, k, none⟩ v).heap[g]? = some (.cells (cs.setIfInBounds k v) T) := heap_setCell_same w g k cs T v h
theorem planned_any {w : World} {O : Nat → Prop} {g m1 m2 : Nat} {pv : Value} {bl : Nat → Nat} {vs : Nat → Value} {s : SfS} (h : FsAt w O g m1 m2 pv bl vs s) (hw : SfWf s) :
    Calls Tryz.prog 52 #[.pointer (some ⟨g, 0, none⟩)] w fun e w' => e = .returned (.int .i64 (sfPlan s).1) ∧ FsAt w' O g m1 m2 pv bl vs (sfPlan s).2 ∧ Onl O w w' ∧ w'.heap.size = w.heap.size := by
  have c4 := h.c4
  have c5 := h.c5
  have f4 := h.fz 4
  have f5 := h.fz 5
  unfold sfPlan
  by_cases h0 : s.fault = 0
  · rw [if_pos h0]
    rw [h0] at c5
    have H := (show Hid _ from h)
    clear h hw h0
    go_enter Tryz.func52, Tryz.ntmps52
    go_wp2
    go_ret
    exact ⟨rfl, H.out, Onl.refl _ _, rfl⟩
  · rw [if_neg h0]
    have h0' : (s.fault == 0) = false := by simpa using h0
    by_cases hl : 0 < s.left
    · rw [if_pos hl]
      have H := (show Hid _ from h)
      have l2 := hw.l2
      have hl' : 1 ≤ s.left := hl
      clear h hw
      go_enter Tryz.func52, Tryz.ntmps52
      go_wp2
      go_ret
      refine ⟨rfl, ?_, Onl.set (a := ⟨g, 4, none⟩) H.out.og _, by simp [World.setCell]⟩
      refine H.out.setG (fun _ q => q) (fun k q => by have := H.out.lt k q; simp [World.setCell]; exact this) (fun k _ hk _ => Below.heap_setCell _ _ _ _ hk) ?_ (H.out.hp.keep fun k hk => ?_) H.out.op
      · have := cells_set H.out.hg 4 (.int .i64 (s.left - 1)); simpa using this
      · obtain ⟨cur, hc⟩ := H.out.pvT hk
        exact Below.heap_setCell _ _ _ _ (ty_ne hc H.out.hg (by decide))
    · rw [if_neg hl]
      have H := (show Hid _ from h)
      clear h hw
      go_enter Tryz.func52, Tryz.ntmps52
      go_wp2
      go_ret
      refine ⟨rfl, ?_, Onl.set (a := ⟨g, 5, none⟩) H.out.og _, by simp [World.setCell]⟩
      refine H.out.setG (fun _ q => q) (fun k q => by have := H.out.lt k q; simp [World.setCell]; exact this) (fun k _ hk _ => Below.heap_setCell _ _ _ _ hk) ?_ (H.out.hp.keep fun k hk => ?_) H.out.op
      · have := cells_set H.out.hg 5 (.int .i64 0); simpa using this
      · obtain ⟨cur, hc⟩ := H.out.pvT hk
        exact Below.heap_setCell _ _ _ _ (ty_ne hc H.out.hg (by decide))
theorem new_no (r : Int) (w : World) (h : r < 1) : Calls Tryz.prog 12 #[.int .i64 r] w fun e w' => e = .returned (.tuple #[.pointer none, .int .i64 1]) ∧ w' = w := by
  go_enter Tryz.func12, Tryz.ntmps12
  go_wp2
  go_ret2
  exact ⟨rfl, rfl⟩
def sfZ (r : Int) : SfS := ⟨r, [], [], [], 0, 0, []⟩
theorem new_fs (r : Int) (w : World) : FsAt (((w.alloc (.map #[] 0)).alloc (.map #[] 0)).alloc (.cells #[.int .i64 r, .map (some w.heap.size), .map (some (w.heap.size + 1)), .slice none 0 0, .int .i64 0, .int .i64 0] 76)) (fun k => w.heap.size ≤ k ∧ k < w.heap.size + 3) (w.heap.size + 2) w.heap.size (w.heap.size + 1) (.slice none 0 0) (fun _ => 0) (fun _ => .slice none 0 0) (sfZ r) := by
  have e0 := heap_alloc_new w (.map #[] 0)
  have e1 := heap_alloc_new (w.alloc (.map #[] 0)) (.map #[] 0)
  have e2 := heap_alloc_new ((w.alloc (.map #[] 0)).alloc (.map #[] 0)) (.cells #[.int .i64 r, .map (some w.heap.size), .map (some (w.heap.size + 1)), .slice none 0 0, .int .i64 0, .int .i64 0] 76)
  have m0 := World.ownsMap_made w Tryz.prog 9 ptrE
  have m1 := World.ownsMap_made (w.alloc (.map #[] 0)) Tryz.prog 9 ptrE
  simp only [World.size_alloc] at e1 e2 m1
  refine ⟨fun k hk => by simp only [World.size_alloc]; omega, by omega, by omega, by omega, by omega, e2, SfMap.keep (w := w.alloc (.map #[] 0)) m0 ?_, SfMap.keep (w := (w.alloc (.map #[] 0)).alloc (.map #[] 0)) m1 ?_, GOwn.nil _ _ _, fun k hk => by simp [Value.ownBlock] at hk, ⟨?_, ?_, ?_, ?_, ?_, ?_⟩⟩
  · rw [Below.heap_alloc _ _ _ (by simp; omega), Below.heap_alloc _ _ _ (by simp)]
  · rw [Below.heap_alloc _ _ _ (by simp)]
  all_goals (intro i; intros; simp [sfZ] at *)
theorem sfWf_zero {r : Int} (h1 : 1 ≤ r) (h2 : r < 9223372036854775808) : SfWf (sfZ r) := by
  refine ⟨h1, h2, by simp [sfZ], by simp [sfZ], ?_, ?_, ?_, rfl, ?_, ?_⟩ <;> simp [sfZ]
theorem new_any (r : Int) (w : World) (h : 1 ≤ r) : Calls Tryz.prog 12 #[.int .i64 r] w fun e w' => e = .returned (.tuple #[.pointer (some ⟨w.heap.size + 2, 0, none⟩), .int .i64 0]) ∧
    FsAt w' (fun k => w.heap.size ≤ k ∧ k < w.heap.size + 3) (w.heap.size + 2) w.heap.size (w.heap.size + 1) (.slice none 0 0) (fun _ => 0) (fun _ => .slice none 0 0) (sfZ r) ∧ Below w.heap.size w w' ∧ w'.heap.size = w.heap.size + 3 := by
  have h2 : ¬ r < 1 := by omega
  have hmm := @run_makeMap Tryz.prog
  go_enter Tryz.func12, Tryz.ntmps12
  go_wp2
  go_ret2
  exact ⟨rfl, new_fs r w, ((((Below.refl _ _).alloc (Nat.le_refl _) _).alloc (by simp) _).alloc (by simp; omega) _), by simp⟩
end Go.Proofs.YtahigmjpeicemaaGreatDoor

/- A file system: an act is done; names; a file is cut. -/
namespace Go.Proofs.YtahigmjpeicemaaGreatDoor
open Go.RowKit Go.Maps

theorem sfDel_le (s : List UInt8) (l : List (List UInt8 × Nat)) : (sfDel s l).length ≤ l.length := List.length_filter_le _ _
theorem sfIns_len (x : List UInt8 × Nat) : ∀ l, (sfIns x l).length = l.length + 1
  | [] => rfl
  | y :: r => by
    unfold sfIns
    split
    · rfl
    · simp [sfIns_len x r]
theorem sfPut_le (x : List UInt8 × Nat) (l : List (List UInt8 × Nat)) : (sfPut x l).length ≤ l.length + 1 := by
  unfold sfPut; rw [sfIns_len]; have := sfDel_le x.1 l; omega
theorem sfDo_le (l : List (List UInt8 × Nat)) (a : SfA) : (sfDo l a).length ≤ l.length + 1 := by
  unfold sfDo
  split
  · have := sfDel_le a.gone l; omega
  · have := sfPut_le (a.name, ‹Nat›) (sfDel a.gone l); have := sfDel_le a.gone l; omega
theorem turned_only {w w' : World} {m : Nat} (h : w.mapTurned w' m) : Onl (fun k => k = m) w w' := by
  have g := h.grown
  exact ⟨g.os, g.tape, g.output, g.size, fun k hk ho => g.block k hk (fun e => ho (by simpa using e))⟩
theorem turned_cell {w w' : World} {m : Nat} (h : w.mapTurned w' m) {a : Addr} {v : Value} (hc : w.cell? a = some v) : w'.cell? a = some v := by
  obtain ⟨es, clock, es', clock', hb, rfl⟩ := h
  have hne : a.block ≠ m := by
    intro e
    simp [World.cell?, e, hb] at hc
  simp only [World.cell?, ChangeMaps.heap_setBlock_other hb _ hne] at hc ⊢
  exact hc
theorem do_any {w : World} {m : Nat} {bl : Nat → Nat} {l : List (List UInt8 × Nat)} (h : SfMap w m bl l) (hl : l.length < maxLen) (a : SfA) (h1 : a.gone.length ≤ maxLen) (h2 : a.name.length ≤ maxLen) :
    Calls Tryz.prog 93 #[.agg #[.string ⟨a.gone.toArray⟩, .string ⟨a.name.toArray⟩, sfPv bl a.file], .map (some m)] w fun e w' => e = .returned (.tuple #[]) ∧ SfMap w' m bl (sfDo l a) ∧ Onl (fun k => k = m) w w' := by
  obtain ⟨gone, name, file⟩ := a
  have k1 := keyS gone h1
  have k2 := keyS name h2
  have hm := SfMap.keep (w' := w.alloc (.cells #[.string ⟨gone.toArray⟩, .string ⟨name.toArray⟩, sfPv bl file] 116)) h (Below.heap_alloc _ _ _ (World.ownsMap.lt h))
  have hle := sfDel_le gone l
  cases file with
  | none =>
    simp only [sfPv] at hm ⊢
    go_enter Tryz.func93, Tryz.ntmps93
    go_wp2_with (at_delete; refine wpList_delete_own _ rfl _ _ 73 9 rfl 88 keyedS Tryz.underlying73 ptrE m l.length (sfD bl l) rfl hm _ _ rfl k1 ?_; intro w1 hown1 hturn1; have c2 := turned_cell hturn1 (a := ⟨w.heap.size, 2, none⟩) (v := .pointer none) (by simp))
    refine bodyPost_end (results_none rfl _ _ _) rfl ?_
    exact ⟨rfl, .of hown1 (sfD_del bl gone l), (Onl.alloc _).then (turned_only hturn1)⟩
  | some i =>
    simp only [sfPv] at hm ⊢
    go_enter Tryz.func93, Tryz.ntmps93
    go_wp2_with (first
      | (at_delete; refine wpList_delete_own _ rfl _ _ 73 9 rfl 88 keyedS Tryz.underlying73 ptrE m l.length (sfD bl l) rfl hm _ _ rfl k1 ?_; intro w1 hown1 hturn1; have c1 := turned_cell hturn1 (a := ⟨w.heap.size, 1, none⟩) (v := .string ⟨name.toArray⟩) (by simp); have c2 := turned_cell hturn1 (a := ⟨w.heap.size, 2, none⟩) (v := .pointer (some ⟨bl i, 0, none⟩)) (by simp))
      | (at_mapUpdate; refine wpList_mapUpdate_in _ rfl _ _ _ 73 rfl 9 88 keyedS Tryz.underlying73 ptrE m l.length _ rfl hown1 hl _ _ _ rfl rfl k2 (.lit (.int .i64 (bl i : Int))) [] rfl ?_; intro w2 hown2 hturn2))
    refine bodyPost_end (results_none rfl _ _ _) rfl ?_
    refine ⟨rfl, .of hown2 ?_, ((Onl.alloc _).then (turned_only hturn1)).then (turned_only hturn2)⟩
    rw [sfD_del]
    exact sfD_put bl (name, i) _
theorem sfOk_take {l : List UInt8} {k : Nat} (hk : k < l.length) (h : (l.take k).all sfOkC = true) (hc : sfOkC l[k] = true) : (l.take (k + 1)).all sfOkC = true := by
  rw [List.take_add_one, List.getElem?_eq_getElem hk, List.all_append, h]
  simpa using hc
theorem sfOk_no {l : List UInt8} {k : Nat} (hk : k < l.length) (hc : sfOkC l[k] = false) : l.all sfOkC = false := by
  cases h : l.all sfOkC with
  | false => rfl
  | true =>
    have := List.all_eq_true.1 h _ (List.getElem_mem hk)
    rw [hc] at this; cases this
theorem isName_b (s : ByteArray) (w : World) : Calls Tryz.prog 70 #[.string s] w fun e w' => e = .returned (.bool (sfName s.data.toList)) ∧ w' = w := by
  have hsl : s.data.toList.length = s.size := Array.length_toList
  by_cases h1 : s.size < 1
  · have e : sfName s.data.toList = false := by unfold sfName; rw [hsl, decide_eq_false (by omega : ¬ 1 ≤ s.size)]; rfl
    rw [e]
    clear hsl
    have h1' : ((s.size : Int) < 1) := by omega
    go_enter Tryz.func70, Tryz.ntmps70
    go_wp2
    go_ret
    exact ⟨rfl, rfl⟩
  · by_cases h2 : 32 < s.size
    · have e : sfName s.data.toList = false := by unfold sfName; rw [hsl, decide_eq_false (by omega : ¬ s.size ≤ 32), Bool.and_false]; rfl
      rw [e]
      clear hsl
      have h1' : ¬ ((s.size : Int) < 1) := by omega
      have h2' : ((32 : Int) < s.size) := by omega
      go_enter Tryz.func70, Tryz.ntmps70
      go_wp2
      go_ret
      exact ⟨rfl, rfl⟩
    · have h1' : ¬ ((s.size : Int) < 1) := by omega
      have h2' : ¬ ((32 : Int) < s.size) := by omega
      have HE : Hid (sfName s.data.toList = s.data.toList.all sfOkC) := by show sfName s.data.toList = _; unfold sfName; rw [hsl, decide_eq_true (by omega : 1 ≤ s.size), decide_eq_true (by omega : s.size ≤ 32)]; rfl
      have HL : Hid (s.data.toList.length = s.size) := hsl
      clear hsl
      go_enter Tryz.func70, Tryz.ntmps70
      go_wp2_with fail
      go_loopw [15] (fun i wr => ∃ k : Nat, i = .int .i64 (k : Int) ∧ k ≤ s.size ∧ Hid ((s.data.toList.take k).all sfOkC = true) ∧ wr = w) (fun i _ => s.size - (intOf i).toNat)
      case atStart => exact ⟨0, rfl, by omega, rfl, rfl⟩
      case round =>
        obtain ⟨k, rfl, hk, HA, rfl⟩ := hrel
        by_cases hlt : k < s.size
        · have hxe : s[k] = s.data.toList[k]'(by have := HL.out; omega) := rfl
          have HT : Hid (sfOkC s[k] = true → (s.data.toList.take (k + 1)).all sfOkC = true) := fun h => sfOk_take (by have := HL.out; omega) HA.out (hxe ▸ h)
          have HF : Hid (sfOkC s[k] = false → s.data.toList.all sfOkC = false) := fun h => sfOk_no (by have := HL.out; omega) (hxe ▸ h)
          clear hxe HA
          have hlt' : (k : Int) < (s.size : Int) := by omega
          generalize hx : s[k] = x at *
          have hall : (97 ≤ x.toNat ∧ x.toNat ≤ 122) ∨ (97 ≤ x.toNat ∧ 122 < x.toNat) ∨ (x.toNat < 97 ∧ 48 ≤ x.toNat ∧ x.toNat ≤ 57) ∨ (x.toNat < 97 ∧ 48 ≤ x.toNat ∧ 57 < x.toNat) ∨ (x.toNat < 48 ∧ x.toNat = 46) ∨ (x.toNat < 48 ∧ x.toNat ≠ 46 ∧ x.toNat = 45) ∨ (x.toNat < 48 ∧ x.toNat ≠ 46 ∧ x.toNat ≠ 45) := by omega
          rcases hall with h | h | h | h | h | h | h
          · have hb : sfOkC x = true := by unfold sfOkC; simp; omega
            have i0 : (97 : Int) ≤ (x.toNat : Int) := by omega
            have i1 : (x.toNat : Int) ≤ 122 := by omega
            have HN := (show Hid ((s.data.toList.take (k + 1)).all sfOkC = true) from HT.out hb)
            clear hb h HT HF
            go_wp2_with fail
            go_roundw
            case rel => exact ⟨k + 1, by go_num, by omega, HN, trivial⟩
            case measure => simp [intOf]; omega
          · have hb : sfOkC x = false := by unfold sfOkC; simp; omega
            have i0 : (97 : Int) ≤ (x.toNat : Int) := by omega
            have i1 : ¬ (x.toNat : Int) ≤ 122 := by omega
            have i2 : (48 : Int) ≤ (x.toNat : Int) := by omega
            have i3 : ¬ (x.toNat : Int) ≤ 57 := by omega
            have i4 : ((x.toNat : Int) == 46) = false := by simp; omega
            have i5 : ((x.toNat : Int) == 45) = false := by simp; omega
            have HN : Hid (sfName s.data.toList = false) := HE.out.trans (HF.out hb)
            clear hb h HT HF HE
            go_wp2_with fail
            go_ret
            exact ⟨by rw [HN.out]; rfl, rfl⟩
          · have hb : sfOkC x = true := by unfold sfOkC; simp; omega
            have i0 : ¬ (97 : Int) ≤ (x.toNat : Int) := by omega
            have i1 : (48 : Int) ≤ (x.toNat : Int) := by omega
            have i2 : (x.toNat : Int) ≤ 57 := by omega
            have HN := (show Hid ((s.data.toList.take (k + 1)).all sfOkC = true) from HT.out hb)
            clear hb h HT HF
            go_wp2_with fail
            go_roundw
            case rel => exact ⟨k + 1, by go_num, by omega, HN, trivial⟩
            case measure => simp [intOf]; omega
          · have hb : sfOkC x = false := by unfold sfOkC; simp; omega
            have i0 : ¬ (97 : Int) ≤ (x.toNat : Int) := by omega
            have i1 : (48 : Int) ≤ (x.toNat : Int) := by omega
            have i2 : ¬ (x.toNat : Int) ≤ 57 := by omega
            have i3 : ((x.toNat : Int) == 46) = false := by simp; omega
            have i4 : ((x.toNat : Int) == 45) = false := by simp; omega
            have HN : Hid (sfName s.data.toList = false) := HE.out.trans (HF.out hb)
            clear hb h HT HF HE
            go_wp2_with fail
            go_ret
            exact ⟨by rw [HN.out]; rfl, rfl⟩
          · have hb : sfOkC x = true := by unfold sfOkC; simp; omega
            have i0 : ¬ (97 : Int) ≤ (x.toNat : Int) := by omega
            have i1 : ¬ (48 : Int) ≤ (x.toNat : Int) := by omega
            have i2 : ((x.toNat : Int) == 46) = true := by simp; omega
            have HN := (show Hid ((s.data.toList.take (k + 1)).all sfOkC = true) from HT.out hb)
            clear hb h HT HF
            go_wp2_with fail
            go_roundw
            case rel => exact ⟨k + 1, by go_num, by omega, HN, trivial⟩
            case measure => simp [intOf]; omega
          · have hb : sfOkC x = true := by unfold sfOkC; simp; omega
            have i0 : ¬ (97 : Int) ≤ (x.toNat : Int) := by omega
            have i1 : ¬ (48 : Int) ≤ (x.toNat : Int) := by omega
            have i2 : ((x.toNat : Int) == 46) = false := by simp; omega
            have i3 : ((x.toNat : Int) == 45) = true := by simp; omega
            have HN := (show Hid ((s.data.toList.take (k + 1)).all sfOkC = true) from HT.out hb)
            clear hb h HT HF
            go_wp2_with fail
            go_roundw
            case rel => exact ⟨k + 1, by go_num, by omega, HN, trivial⟩
            case measure => simp [intOf]; omega
          · have hb : sfOkC x = false := by unfold sfOkC; simp; omega
            have i0 : ¬ (97 : Int) ≤ (x.toNat : Int) := by omega
            have i1 : ¬ (48 : Int) ≤ (x.toNat : Int) := by omega
            have i2 : ((x.toNat : Int) == 46) = false := by simp; omega
            have i3 : ((x.toNat : Int) == 45) = false := by simp; omega
            have HN : Hid (sfName s.data.toList = false) := HE.out.trans (HF.out hb)
            clear hb h HT HF HE
            go_wp2_with fail
            go_ret
            exact ⟨by rw [HN.out]; rfl, rfl⟩
        · have hlt' : ¬ (k : Int) < (s.size : Int) := by omega
          have hks : k = s.size := by omega
          have HN : Hid (sfName s.data.toList = true) := by
            show sfName s.data.toList = true
            rw [HE.out]
            have := HA.out
            rwa [List.take_of_length_le (by have := HL.out; omega)] at this
          clear hks HE HA HL
          go_wp2_with fail
          go_ret
          exact ⟨by rw [HN.out]; rfl, rfl⟩
theorem isName_any (s : List UInt8) (w : World) : Calls Tryz.prog 70 #[.string ⟨s.toArray⟩] w fun e w' => e = .returned (.bool (sfName s)) ∧ w' = w :=
  isName_b ⟨s.toArray⟩ w
end Go.Proofs.YtahigmjpeicemaaGreatDoor

/- Parts of bytes that a slice reads, as one value each. -/
namespace Go.Proofs.YtahigmjpeicemaaGreatDoor
open Go.RowKit

theorem size8 (w : World) : (sizeOf 5).run Tryz.prog w = .ok 1 w := by
  simp [sizeOf]
  rfl
theorem elem8 : Tryz.prog.elem 28 = 5 := by kernel_rfl
theorem und8 : Tryz.prog.underlying 28 = some (.slice (Tryz.prog.elem 28)) := by rw [elem8]; exact Tryz.underlying28
theorem Reads.sliced {w : World} {a : Option Addr} {cap : Nat} {l : List UInt8} (h : Reads w (.slice a l.length cap) l) {c d : Nat} (hc : c ≤ d) (hd : d ≤ l.length) : Reads w (sliced a c d cap 1) ((l.take d).drop c) := by
  unfold Go.sliced
  rcases Nat.eq_zero_or_pos (d - c) with h0 | h0
  · have e : (l.take d).drop c = [] := List.drop_eq_nil_of_le (by simp; omega)
    rw [e, h0]
    refine .inl ⟨rfl, _, _, rfl, fun hn => ?_⟩
    split at hn
    · subst hn; omega
    · rcases h with ⟨_, a', cap', hv, hz⟩ | ⟨b, off, cap', hv, _⟩
      · simp at hv
        obtain ⟨rfl, _, rfl⟩ := hv
        cases a with
        | none => rw [hz rfl]; omega
        | some x => simp at hn
      · simp at hv
        obtain ⟨rfl, _⟩ := hv
        simp at hn
  · rcases h with ⟨rfl, _⟩ | ⟨b, off, cap', hv, h2, h3, h4, h5, h6⟩
    · simp at hd; omega
    · simp at hv
      obtain ⟨rfl, rfl⟩ := hv
      rw [if_neg (by omega)]
      have hl : ((l.take d).drop c).length = d - c := by simp; omega
      have ea : Option.map (fun x : Addr => x.add (c * 1)) (some (⟨b, off, none⟩ : Addr)) = some ⟨b, off + c, none⟩ := by simp [Addr.add]
      rw [ea]
      refine .inr ⟨b, off + c, cap - c, by rw [hl], by omega, by omega, by omega, h5, fun j hj => ?_⟩
      rw [Nat.add_assoc, h6 (c + j) (by omega)]
      simp
/-- l[c:] -/
theorem sl_from {w : World} {a : Option Addr} {cap : Nat} {l : List UInt8} (h : Reads w (.slice a l.length cap) l) {c : Nat} (hc : c ≤ l.length) :
    ∃ a' cap', (∀ w', (Instr.slice 28 (.slice a l.length cap) (some (.int .i64 (c : Int))) none none).run Tryz.prog w' = .ok (.slice a' (l.length - c) cap') w') ∧ Reads w (.slice a' (l.length - c) cap') (l.drop c) := by
  refine ⟨(if cap = c then a else a.map (·.add (c * 1))), cap - c, fun w' => ?_, ?_⟩
  rotate_left
  · have := h.sliced hc (Nat.le_refl _)
    rw [List.take_length] at this
    exact this
  · rw [run_slice_l _ _ _ _ _ und8 _ _ (by omega) (by omega), elem8, size8]
    rfl
/-- l[:d] -/
theorem sl_upto {w : World} {a : Option Addr} {cap : Nat} {l : List UInt8} (h : Reads w (.slice a l.length cap) l) {d : Nat} (hd : d ≤ l.length) :
    ∃ a' cap', (∀ w', (Instr.slice 28 (.slice a l.length cap) none (some (.int .i64 (d : Int))) none).run Tryz.prog w' = .ok (.slice a' d cap') w') ∧ Reads w (.slice a' d cap') (l.take d) := by
  have hcap : d ≤ cap := by
    rcases Nat.eq_zero_or_pos l.length with h0 | h0
    · omega
    · have := h.cap h0; omega
  refine ⟨(if cap = 0 then a else a.map (·.add (0 * 1))), cap - 0, fun w' => ?_, ?_⟩
  rotate_left
  · exact h.sliced (Nat.zero_le d) hd
  · rw [run_slice_h _ _ _ _ _ und8 _ _ (by omega) (by omega), elem8, size8]
    rfl
/-- l[c:d] -/
theorem sl_part {w : World} {a : Option Addr} {cap : Nat} {l : List UInt8} (h : Reads w (.slice a l.length cap) l) {c d : Nat} (hc : c ≤ d) (hd : d ≤ l.length) :
    ∃ a' cap', (∀ w', (Instr.slice 28 (.slice a l.length cap) (some (.int .i64 (c : Int))) (some (.int .i64 (d : Int))) none).run Tryz.prog w' = .ok (.slice a' (d - c) cap') w') ∧ Reads w (.slice a' (d - c) cap') ((l.take d).drop c) := by
  have hcap : d ≤ cap := by
    rcases Nat.eq_zero_or_pos l.length with h0 | h0
    · omega
    · have := h.cap h0; omega
  refine ⟨(if cap = c then a else a.map (·.add (c * 1))), cap - c, fun w' => ?_, ?_⟩
  rotate_left
  · exact h.sliced hc hd
  · rw [run_slice_lh _ _ _ _ _ und8 _ _ _ _ (by omega) (by omega) (by omega), elem8, size8]
    rfl
end Go.Proofs.YtahigmjpeicemaaGreatDoor

/- A file system: a file is cut; acts are settled; the directory is changed. -/
namespace Go.Proofs.YtahigmjpeicemaaGreatDoor
open Go.RowKit Go.Maps

theorem add_zero' (a : Addr) : a.add 0 = a := by simp [Addr.add]
theorem run_slice_3 (a : Option Addr) (n cap N : Nat) (h : N ≤ cap) (w : World) : (Instr.slice 28 (.slice a n cap) none (some (.int .i64 (N : Int))) (some (.int .i64 (N : Int)))).run Tryz.prog w = .ok (.slice a N N) w := by
  have ha : (Option.map (fun x : Addr => x.add 0) a) = a := by cases a <;> simp [add_zero']
  simp [Instr.slice, run_underlying Tryz.underlying28, Instr.sliceBounds, Instr.sliceBound, asIntOf, h, Result.andThen, ha]
theorem cut_any {w : World} {b : Nat} {v : Value} {f : List UInt8 × Nat} (hf : w.heap[b]? = some (.cells #[v, .int .i64 (f.2 : Int)] 102)) (hb : BOwn w v f.1) (hs : f.2 ≤ f.1.length) (hl : f.1.length ≤ 1048576) (keep : Int) :
    Calls Tryz.prog 65 #[.pointer (some ⟨b, 0, none⟩), .int .i64 keep] w fun e w' => e = .returned (.tuple #[]) ∧
      ∃ v', (∀ k, v'.ownBlock = some k → v.ownBlock = some k) ∧ w'.heap[b]? = some (.cells #[v', .int .i64 ((sfCut f keep).2 : Int)] 102) ∧ BOwn w' v' (sfCut f keep).1 ∧ Onl (fun k => k = b) w w' ∧ w'.heap.size = w.heap.size := by
  obtain ⟨a, cap, rfl, hc1, hc2, hc3, hc4⟩ := hb.form
  obtain ⟨N, HN⟩ := hid_ex (f.2 + min (max keep 0).toNat (f.1.length - f.2))
  have hN : N ≤ f.1.length := by have := HN.out; omega
  have hsl := run_slice_3 a f.1.length cap N (by omega)
  have hmx : ∀ ts t w', (Builtin.max_ ts t #[.int .i64 keep, .int .i64 0]).run Tryz.prog w' = .ok (.int .i64 (((max keep 0).toNat : Nat) : Int)) w' := by
    intro ts t w'
    simp only [Builtin.max_]
    by_cases hk : keep < 0
    · have : (max keep 0).toNat = 0 := by omega
      simp [Builtin.max2, this]; omega
    · have : (((max keep 0).toNat : Nat) : Int) = keep := by omega
      rw [this]
      simp [Builtin.max2]; omega
  have hmn : ∀ ts t w', (Builtin.min_ ts t #[.int .i64 (((max keep 0).toNat : Nat) : Int), .int .i64 ((f.1.length : Int) - (f.2 : Int))]).run Tryz.prog w' = .ok (.int .i64 ((N : Int) - (f.2 : Int))) w' := by
    intro ts t w'
    have hx := HN.out
    simp [Builtin.min_, Builtin.min2]
    omega
  have c0 : ∀ n, (w.drewN n).cell? ⟨b, 0, none⟩ = some (.slice a f.1.length cap) := fun n => by simp [World.cell?, World.drewN, hf]
  have c1 : ∀ n, (w.drewN n).cell? ⟨b, 1, none⟩ = some (.int .i64 (f.2 : Int)) := fun n => by simp [World.cell?, World.drewN, hf]
  have z0 : ∀ n, (w.drewN n).frozen? ⟨b, 0, none⟩ = false := fun n => by simp [World.frozen?, World.drewN, hf]
  have z1 : ∀ n, (w.drewN n).frozen? ⟨b, 1, none⟩ = false := fun n => by simp [World.frozen?, World.drewN, hf]
  have HF := (show Hid _ from hf)
  have HB := (show Hid (BOwn w (.slice a f.1.length cap) f.1) from hb)
  clear hf hb
  generalize hk0 : (max keep 0).toNat = K at *
  have HKK : Hid ((max keep 0).toNat = K) := hk0
  clear hk0
  generalize hq : f.1.length = L at *
  have HQ : Hid (f.1.length = L) := hq
  clear hq
  generalize hq : f.2 = S at *
  have HS : Hid (f.2 = S) := hq
  clear hq
  go_enter Tryz.func65, Tryz.ntmps65
  go_wp2_with fail
  go_quiet (fail)
  go_wp2_with fail
  refine bodyPost_end (results_none rfl _ _ _) rfl ?_
  have eN : (S : Int) + ((N : Int) - S) = N := by omega
  rw [eN, Int.toNat_natCast]
  have e2 : (sfCut f keep).2 = N := by unfold sfCut; rw [HQ.out, HS.out, HN.out, HKK.out]
  have e1 : (sfCut f keep).1 = f.1.take N := by have : (sfCut f keep).1 = f.1.take (sfCut f keep).2 := rfl; rw [this, e2]
  rw [e1, e2]
  have g1 := cells_set (w := w.drewN nq) HF.out 0 (.slice a N N)
  have g2 := cells_set g1 1 (.int .i64 (N : Int))
  refine ⟨rfl, .slice a N N, ?_, ?_, ?_, ?_, ?_⟩
  · intro k hk; cases a <;> exact hk
  · simpa using g2
  · cases a with
    | none =>
      have : N = 0 := by have := (hc4 rfl).1; omega
      subst this
      exact GOwn.nil _ _ _
    | some x =>
      have hx := hc3 x rfl
      rw [hx] at HB ⊢
      have hcut := HB.out.cut (c := N) (by rw [HQ.out]; exact hN)
      refine GOwn.keep hcut fun k hk => ?_
      obtain ⟨cur, hc⟩ := GOwn.block hcut hk
      have hne := ty_ne hc HF.out (by decide)
      rw [Below.heap_setCell _ _ _ _ hne, Below.heap_setCell _ _ _ _ hne]
      rfl
  · exact ⟨rfl, rfl, rfl, by simp [World.setCell, World.drewN], fun k _ ho => by rw [Below.heap_setCell _ _ _ _ ho, Below.heap_setCell _ _ _ _ ho]; rfl⟩
  · simp [World.setCell, World.drewN]
end Go.Proofs.YtahigmjpeicemaaGreatDoor

/- A drawn region with a store at its end: what is loaded ahead of it is taken in the world ahead of it. -/
namespace Go.Proofs.YtahigmjpeicemaaGreatDoor
open Go.RowKit

section
variable {P : Program} {ops : Array Oper} {Q : Exit → Act → World → Prop} {md : Region.Mode} {k : Nat} {St Pr : World → Prop}
/-- What holds all the time, and what holds till operation k has come up. -/
def StK (k : Nat) (St Pr : World → Prop) (L : Array Bool) (w : World) : Prop := St w ∧ (L.getD k false = false → Pr w)
def wpAnyS (P : Program) (md : Region.Mode) (ops : Array Oper) (Q : Exit → Act → World → Prop) (k : Nat) (St Pr : World → Prop) : Nat → Array Bool → Act → World → Prop
  | 0, listed, a, w => Region.ready md ops listed = [] ∧ Q .normal a w
  | fuel + 1, listed, a, w =>
    (Region.ready md ops listed = [] → Q .normal a w) ∧
    ∀ i ∈ Region.ready md ops listed, wpOp P ops Q i (fun a' w' => StK k St Pr (listed.setIfInBounds i true) w' ∧ wpAnyS P md ops Q k St Pr fuel (listed.setIfInBounds i true) a' w') a w
theorem wpAny_of_S : ∀ (fuel : Nat) (listed : Array Bool) (a : Act) (w : World), wpAnyS P md ops Q k St Pr fuel listed a w → wpAny P md ops Q fuel listed a w
  | 0, _, _, _, h => h
  | fuel + 1, _, _, _, h => ⟨h.1, fun i hi => wpOp_mono (fun a' w' h' => wpAny_of_S fuel _ a' w' h'.2) (h.2 i hi)⟩
/-- Whatever came up, what it waits for came up. -/
def Cl (md : Region.Mode) (ops : Array Oper) (L : Array Bool) : Prop := ∀ j o, ops[j]? = some o → L.getD j false = true → ∀ e ∈ o.after, Region.binds md e = true → L.getD e.on false = true
def clB (md : Region.Mode) (ops : Array Oper) (L : Array Bool) : Bool := (List.range ops.size).all fun j => !L.getD j false || match ops[j]? with | some o => o.after.all (fun e => !Region.binds md e || L.getD e.on false) | none => true
theorem clB_spec {L : Array Bool} (h : clB md ops L = true) : Cl md ops L := by
  intro j o ho hl e he hb
  have h1 := List.all_eq_true.1 h j (List.mem_range.2 (Array.getElem?_eq_some_iff.1 ho).1)
  rw [hl, ho] at h1
  simp only [Bool.not_true, Bool.false_or] at h1
  have h2 := Array.all_eq_true_iff_forall_mem.1 h1 e he
  rw [hb] at h2
  simpa using h2
theorem Cl.set {L : Array Bool} {j : Nat} (h : Cl md ops L) (hj : j ∈ Region.ready md ops L) : Cl md ops (L.setIfInBounds j true) := by
  obtain ⟨_, o, ho, hall⟩ := mem_ready.1 hj
  intro i oi hoi hl e he hb
  by_cases hij : j = i
  · subst hij
    rw [ho] at hoi
    obtain rfl : o = oi := by simpa using hoi
    exact getD_set_true (hall e he hb)
  · rw [getD_set_ne false hij] at hl
    exact getD_set_true (h i oi hoi hl e he hb)
/-- Does operation k wait for i? -/
def waits (md : Region.Mode) (ops : Array Oper) (k i : Nat) : Bool := match ops[k]? with | some o => o.after.any (fun e => Region.binds md e && e.on == i) | none => false
theorem wpAnyS_first {i : Nat} {oi : Oper} {v : Value} (hi : ops[i]? = some oi) (hsel : ∀ (j : Nat) (o : Oper) cs b, ops[j]? = some o → o.op ≠ .select cs b)
    (hQ : ∀ c a w, Q (.panic c) (a.put oi.dst v) w → Q (.panic c) a w) (hik : i ≠ k) (dep : Bool) (hdep : waits md ops k i = dep) :
    ∀ (fuel : Nat) (listed : Array Bool) (a : Act) (w : World), Cl md ops listed →
      (∀ j oj, ops[j]? = some oj → j ≠ i → listed.getD j true = false → (∀ e ∈ oj.after, Region.binds md e = true → e.on ≠ i) → oi.apart ops oj = true) →
      i ∈ Region.ready md ops listed → YieldsIf P ops (fun w' => St w' ∧ (dep = true → Pr w')) oi v a → StK k St Pr listed w →
      wpAnyS P md ops Q k St Pr fuel (listed.setIfInBounds i true) (a.put oi.dst v) w → wpAnyS P md ops Q k St Pr (fuel + 1) listed a w := by
  have hdone : ∀ (listed : Array Bool) (w : World), Cl md ops listed → i ∈ Region.ready md ops listed → StK k St Pr listed w → (St w ∧ (dep = true → Pr w)) := fun listed w hcl hr hS => by
    refine ⟨hS.1, fun hd => hS.2 ?_⟩
    subst hdep
    unfold waits at hd
    cases hok : ops[k]? with
    | none => rw [hok] at hd; cases hd
    | some ok =>
      rw [hok] at hd
      obtain ⟨e, he, hq⟩ := Array.any_eq_true'.1 hd
      simp only [Bool.and_eq_true, beq_iff_eq] at hq
      cases hl : listed.getD k false with
      | false => rfl
      | true =>
        have h1 := hcl k ok hok hl e he hq.1
        rw [hq.2] at h1
        have h0 := (mem_ready.1 hr).1
        rcases Nat.lt_or_ge i listed.size with h' | h'
        · simp [h'] at h0 h1; rw [h0] at h1; cases h1
        · simp [Array.getElem?_eq_none h'] at h1
  have hset : ∀ (listed : Array Bool) (w : World), StK k St Pr listed w → StK k St Pr (listed.setIfInBounds i true) w := fun listed w h => ⟨h.1, fun hk => h.2 (by rw [getD_set_ne false hik] at hk; exact hk)⟩
  intro fuel
  induction fuel with
  | zero =>
    intro listed a w hcl _ hr hy hS H
    refine ⟨fun h => (by rw [h] at hr; cases hr), fun j hj => ?_⟩
    by_cases hji : j = i
    · subst hji; exact YieldsIf.wpOp (S := fun w' => St w' ∧ (dep = true → Pr w')) hi hy (hdone _ _ hcl hr hS) ⟨hset _ _ hS, H⟩
    · have := ready_mono hj hji
      rw [H.1] at this
      cases this
  | succ fuel ih =>
    intro listed a w hcl hfree hr hy hS H
    refine ⟨fun h => (by rw [h] at hr; cases hr), fun j hj => ?_⟩
    by_cases hji : j = i
    · subst hji; exact YieldsIf.wpOp (S := fun w' => St w' ∧ (dep = true → Pr w')) hi hy (hdone _ _ hcl hr hS) ⟨hset _ _ hS, H⟩
    · have h1 := H.2 j (ready_mono hj hji)
      obtain ⟨hjun, oj, hoj, hall⟩ := mem_ready.1 hj
      have hnot : ∀ e ∈ oj.after, Region.binds md e = true → e.on ≠ i := fun e he hb heq => by
        have h1 := hall e he hb
        have h0 := (mem_ready.1 hr).1
        rw [heq] at h1
        rcases Nat.lt_or_ge i listed.size with h' | h'
        · simp [h'] at h0 h1; rw [h0] at h1; cases h1
        · simp [Array.getElem?_eq_none h'] at h1
      have h2 := wpOp_putIf hoj (hfree j oj hoj hji hjun hnot) (fun cs b => hsel i oi cs b hi) (fun cs b => hsel j oj cs b hoj) hQ hy h1
      have hfree' : ∀ k ok, ops[k]? = some ok → k ≠ i → (listed.setIfInBounds j true).getD k true = false →
          (∀ e ∈ ok.after, Region.binds md e = true → e.on ≠ i) → oi.apart ops ok = true := fun k ok hk hki hun hno => by
        refine hfree k ok hk hki ?_ hno
        by_cases hjk : j = k
        · subst hjk; exact hjun
        · rw [getD_set_ne true hjk] at hun; exact hun
      refine wpOp_mono (fun a' w' h3 => ?_) h2
      have hS' : StK k St Pr (listed.setIfInBounds j true) w' := ⟨h3.2.1.1, fun hk => h3.2.1.2 (by
        rw [Array.setIfInBounds_comm _ _ (Ne.symm hji), getD_set_ne false hik]; exact hk)⟩
      refine ⟨hS', ih (listed.setIfInBounds j true) a' w' (hcl.set hj) hfree' (ready_mono hr (Ne.symm hji)) h3.1 hS' ?_⟩
      rw [Array.setIfInBounds_comm _ _ hji]
      exact h3.2.2
theorem wpAnyS_take {i : Nat} {oi : Oper} {v : Value} {fuel : Nat} {listed : Array Bool} {a : Act} {w : World} (dep : Bool) (hi : ops[i]? = some oi)
    (hs : Region.noSelect ops = true) (hf : Region.free md ops listed i = true) (hr : (Region.ready md ops listed).contains i = true) (hcl : clB md ops listed = true) (hik : Nat.beq i k = false) (hdep : waits md ops k i = dep)
    (hQ : ∀ c a w, Q (.panic c) (a.put oi.dst v) w → Q (.panic c) a w) (hy : YieldsIf P ops (fun w' => St w' ∧ (dep = true → Pr w')) oi v a) (hS : StK k St Pr listed w)
    (h : StK k St Pr (listed.setIfInBounds i true) w → wpAnyS P md ops Q k St Pr fuel (listed.setIfInBounds i true) (a.put oi.dst v) w) : wpAnyS P md ops Q k St Pr (fuel + 1) listed a w := by
  have hne : i ≠ k := fun e => by subst e; simp at hik
  exact wpAnyS_first hi (Region.noSelect_spec hs) hQ hne dep hdep fuel listed a w (clB_spec hcl) (Region.free_spec hi hf) (by simpa using hr) hy hS (h ⟨hS.1, fun hk => hS.2 (by rw [getD_set_ne false hne] at hk; exact hk)⟩)
theorem wpAnyS_ready {i : Nat} {o : Oper} {fuel : Nat} {listed : Array Bool} {a : Act} {w : World} (hr : Region.ready md ops listed = [i]) (ho : ops[i]? = some o)
    (h : ∀ K : Act → World → Prop, Shut (∀ a w, StK k St Pr (listed.setIfInBounds i true) w → (StK k St Pr (listed.setIfInBounds i true) w → wpAnyS P md ops Q k St Pr fuel (listed.setIfInBounds i true) a w) → K a w) → if Region.wanted o (yielded ops a.tmps) = true then Oper.wp P o a w K Q else K (a.put o.dst undef) w) : wpAnyS P md ops Q k St Pr (fuel + 1) listed a w := by
  refine ⟨fun h0 => (by rw [hr] at h0; cases h0), fun j hj => ?_⟩
  rw [hr] at hj
  obtain rfl : j = i := by simpa using hj
  exact wpOp_step ho (fun K' hK => h K' (fun a w h1 h2 => hK a w ⟨h1, h2 h1⟩))
theorem wpAnyS_done {listed : Array Bool} {a : Act} {w : World} (hr : Region.ready md ops listed = []) (h : Q .normal a w) : ∀ fuel, wpAnyS P md ops Q k St Pr fuel listed a w
  | 0 => ⟨hr, h⟩
  | _ + 1 => ⟨fun _ => h, by rw [hr]; simp⟩
theorem wp_region_S {id : Nat} {a : Act} {w : World} (k : Nat) (St Pr : World → Prop) (hm : P.follows .mixedOrders = true) (hS : St w.drew) (hP : Pr w.drew)
    (h : StK k St Pr (Array.replicate ops.size false) w.drew → wpAnyS P .any ops Q k St Pr ops.size (Array.replicate ops.size false) a w.drew) : (Code.region id ops true).wp P Q a w :=
  wp_region_any hm (wpAny_of_S _ _ _ _ (h ⟨hS, fun _ => hP⟩))
end
end Go.Proofs.YtahigmjpeicemaaGreatDoor
