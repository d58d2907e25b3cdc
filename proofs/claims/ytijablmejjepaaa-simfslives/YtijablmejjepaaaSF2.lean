/- A file system's calls, plainly; its small ones in memory. -/
import Derived.Test.YtijablmejjepaaaSF1
import Derived.Test.YtijablmejjepaaaSS
import Derived.RegionTactic
import Derived.BigRegion
import Derived.Deep.QuietTactic
import Derived.BigQuiet
import Derived.OwnWalk
namespace Go.Proofs.Ytijablmejjepaaa
open Go.RowKit Go.Maps

def sfOkC (c : UInt8) : Bool := (decide (97 ≤ c.toNat) && decide (c.toNat ≤ 122)) || (decide (48 ≤ c.toNat) && decide (c.toNat ≤ 57)) || (c.toNat == 46) || (c.toNat == 45)
def sfName (s : List UInt8) : Bool := decide (1 ≤ s.length) && decide (s.length ≤ 32) && s.all sfOkC
def sfPlan (s : SfS) : Int × SfS := if s.fault = 0 then (0, s) else if 0 < s.left then (0, { s with left := s.left - 1 }) else (s.fault, { s with fault := 0 })
def sfChange (s : SfS) (a : SfA) : Int × SfS := if (sfPlan s).1 = 0 then (0, { (sfPlan s).2 with dir := sfDo (sfPlan s).2.dir a, pend := (sfPlan s).2.pend ++ [a] }) else sfPlan s
def sfNew (s : SfS) : SfS := { s with fls := s.fls ++ [([], 0)] }
def sfCreate (s : SfS) (n : List UInt8) : Int × SfS := if sfName n = false then (1, s) else if (sfLook n s.dir).isSome = true then (80, s) else if 256 ≤ s.dir.length then (81, s) else sfChange (sfNew s) ⟨[], n, some s.fls.length⟩
def sfUsed (s : SfS) : Nat := (s.dir.map fun p => (s.fl p.2).1.length).sum
def sfAppend (s : SfS) (n b : List UInt8) : Int × SfS := match sfLook n s.dir with
  | none => (4, s)
  | some i => if 1048576 < (s.fl i).1.length + b.length then (2, s) else if s.room < ((sfUsed s + b.length : Nat) : Int) then (81, s) else
    if (sfPlan s).1 = 0 then (0, (sfPlan s).2.setF i ((s.fl i).1 ++ b, (s.fl i).2)) else sfPlan s
def sfSync (s : SfS) (n : List UInt8) : Int × SfS := match sfLook n s.dir with
  | none => (4, s)
  | some i => if (sfPlan s).1 = 0 then (0, (sfPlan s).2.setF i ((s.fl i).1, (s.fl i).1.length)) else sfPlan s
def sfRename (s : SfS) (n m : List UInt8) : Int × SfS := if sfName m = false then (1, s) else match sfLook n s.dir with
  | none => (4, s)
  | some i => sfChange s ⟨n, m, some i⟩
def sfRemove (s : SfS) (n : List UInt8) : Int × SfS := match sfLook n s.dir with
  | none => (4, s)
  | some _ => sfChange s ⟨n, [], none⟩
def sfSettle (s : SfS) (k : Nat) : SfS := { s with old := (s.pend.take k).foldl sfDo s.old, pend := [] }
def sfSyncDir (s : SfS) : Int × SfS := if (sfPlan s).1 = 0 then (0, sfSettle (sfPlan s).2 s.pend.length) else sfPlan s
def sfCut (f : List UInt8 × Nat) (keep : Int) : List UInt8 × Nat := (f.1.take (f.2 + min (max keep 0).toNat (f.1.length - f.2)), f.2 + min (max keep 0).toNat (f.1.length - f.2))
def sfCuts : List (List UInt8 × Nat) → List Int → List (List UInt8 × Nat) → List (List UInt8 × Nat)
  | [], _, fls => fls
  | p :: r, ks, fls => sfCuts r ks.tail (fls.set p.2 (sfCut (fls.getD p.2 ([], 0)) (ks.headD 0)))
def sfCrash (s : SfS) (n : Int) (ks : List Int) : SfS :=
  { sfSettle s (max n 0).toNat with dir := (sfSettle s (max n 0).toNat).old, fls := sfCuts (sfSettle s (max n 0).toNat).old ks s.fls, fault := 0 }
def sfFail (s : SfS) (n e : Int) : Int × SfS := if e ≠ 81 ∧ e ≠ 82 then (1, s) else if n < 0 then (0, { s with fault := 0 }) else (0, { s with left := n, fault := e })
/-- What every file system is. -/
structure SfWf (s : SfS) : Prop where
  r1 : 1 ≤ s.room
  r2 : s.room < 9223372036854775808
  l1 : -9223372036854775808 ≤ s.left
  l2 : s.left < 9223372036854775808
  di : ∀ p ∈ s.dir, p.2 < s.fls.length ∧ p.1.length ≤ 32
  oi : ∀ p ∈ s.old, p.2 < s.fls.length ∧ p.1.length ≤ 32
  pi : ∀ a ∈ s.pend, (∀ i, a.file = some i → i < s.fls.length) ∧ a.gone.length ≤ 32 ∧ a.name.length ≤ 32
  ap : s.dir = s.pend.foldl sfDo s.old
  ln : ∀ k, ((s.pend.take k).foldl sfDo s.old).length ≤ 256
  sy : ∀ (i : Nat) (f : List UInt8 × Nat), s.fls[i]? = some f → f.2 ≤ f.1.length ∧ f.1.length ≤ 1048576

theorem made_nil (w : World) : Calls Try.prog 33 #[.pointer none] w fun e w' => e = .returned (.bool false) ∧ w' = w := by
  go_enter Try.func33, Try.ntmps33
  go_wp2
  go_ret
  exact ⟨rfl, rfl⟩
theorem made_zero {g : Nat} (w : World) (h : w.cell? ⟨g, 0, none⟩ = some (.int .i64 0)) : Calls Try.prog 33 #[.pointer (some ⟨g, 0, none⟩)] w fun e w' => e = .returned (.bool false) ∧ w' = w := by
  go_enter Try.func33, Try.ntmps33
  go_wp2
  go_ret
  exact ⟨rfl, rfl⟩
theorem made_cell {g : Nat} {r : Int} (w : World) (h : w.cell? ⟨g, 0, none⟩ = some (.int .i64 r)) (h1 : 1 ≤ r) : Calls Try.prog 33 #[.pointer (some ⟨g, 0, none⟩)] w fun e w' => e = .returned (.bool true) ∧ w' = w := by
  have hd : (0 : Int) < r := by omega
  go_enter Try.func33, Try.ntmps33
  go_wp2
  go_ret
  exact ⟨rfl, rfl⟩
theorem FsAt.c0 {w : World} {O : Nat → Prop} {g m1 m2 : Nat} {pv : Value} {bl : Nat → Nat} {vs : Nat → Value} {s : SfS} (h : FsAt w O g m1 m2 pv bl vs s) : w.cell? ⟨g, 0, none⟩ = some (.int .i64 s.room) := by simp [World.cell?, h.hg]
theorem FsAt.c1 {w : World} {O : Nat → Prop} {g m1 m2 : Nat} {pv : Value} {bl : Nat → Nat} {vs : Nat → Value} {s : SfS} (h : FsAt w O g m1 m2 pv bl vs s) : w.cell? ⟨g, 1, none⟩ = some (.map (some m1)) := by simp [World.cell?, h.hg]
theorem FsAt.c2 {w : World} {O : Nat → Prop} {g m1 m2 : Nat} {pv : Value} {bl : Nat → Nat} {vs : Nat → Value} {s : SfS} (h : FsAt w O g m1 m2 pv bl vs s) : w.cell? ⟨g, 2, none⟩ = some (.map (some m2)) := by simp [World.cell?, h.hg]
theorem FsAt.c3 {w : World} {O : Nat → Prop} {g m1 m2 : Nat} {pv : Value} {bl : Nat → Nat} {vs : Nat → Value} {s : SfS} (h : FsAt w O g m1 m2 pv bl vs s) : w.cell? ⟨g, 3, none⟩ = some pv := by simp [World.cell?, h.hg]
theorem FsAt.c4 {w : World} {O : Nat → Prop} {g m1 m2 : Nat} {pv : Value} {bl : Nat → Nat} {vs : Nat → Value} {s : SfS} (h : FsAt w O g m1 m2 pv bl vs s) : w.cell? ⟨g, 4, none⟩ = some (.int .i64 s.left) := by simp [World.cell?, h.hg]
theorem FsAt.c5 {w : World} {O : Nat → Prop} {g m1 m2 : Nat} {pv : Value} {bl : Nat → Nat} {vs : Nat → Value} {s : SfS} (h : FsAt w O g m1 m2 pv bl vs s) : w.cell? ⟨g, 5, none⟩ = some (.int .i64 s.fault) := by simp [World.cell?, h.hg]
theorem FsAt.fz {w : World} {O : Nat → Prop} {g m1 m2 : Nat} {pv : Value} {bl : Nat → Nat} {vs : Nat → Value} {s : SfS} (h : FsAt w O g m1 m2 pv bl vs s) (k : Nat) : w.frozen? ⟨g, k, none⟩ = false := by simp [World.frozen?, h.hg]
theorem made_any {w : World} {O : Nat → Prop} {g m1 m2 : Nat} {pv : Value} {bl : Nat → Nat} {vs : Nat → Value} {s : SfS} (h : FsAt w O g m1 m2 pv bl vs s) (hw : SfWf s) :
    Calls Try.prog 33 #[.pointer (some ⟨g, 0, none⟩)] w fun e w' => e = .returned (.bool true) ∧ w' = w := made_cell w h.c0 hw.r1
theorem find_nil (n : List UInt8) (w : World) : Calls Try.prog 36 #[.pointer none, .string ⟨n.toArray⟩] w fun e w' => e = .returned (.tuple #[.pointer none, .int .i64 6]) ∧ w' = w := by
  go_enter Try.func36, Try.ntmps36
  go_wp2_with (go_at_call 33; refine (made_nil _).mono ?_; rintro e w' ⟨rfl, rfl⟩)
  go_ret2
  exact ⟨rfl, rfl⟩
theorem find_zero {g : Nat} (n : List UInt8) (w : World) (h : w.cell? ⟨g, 0, none⟩ = some (.int .i64 0)) : Calls Try.prog 36 #[.pointer (some ⟨g, 0, none⟩), .string ⟨n.toArray⟩] w fun e w' => e = .returned (.tuple #[.pointer none, .int .i64 6]) ∧ w' = w := by
  go_enter Try.func36, Try.ntmps36
  go_wp2_with (go_at_call 33; refine (made_zero _ h).mono ?_; rintro e w' ⟨rfl, rfl⟩)
  go_ret2
  exact ⟨rfl, rfl⟩
def sfFe : Option Nat → Int
  | none => 4
  | some _ => 0
theorem find_any {w : World} {O : Nat → Prop} {g m1 m2 : Nat} {pv : Value} {bl : Nat → Nat} {vs : Nat → Value} {s : SfS} (h : FsAt w O g m1 m2 pv bl vs s) (hw : SfWf s) (n : List UInt8) (hn : n.length ≤ maxLen) :
    Calls Try.prog 36 #[.pointer (some ⟨g, 0, none⟩), .string ⟨n.toArray⟩] w fun e w' => e = .returned (.tuple #[sfPv bl (sfLook n s.dir), .int .i64 (sfFe (sfLook n s.dir))]) ∧ w' = w := by
  have c0 := h.c0
  have c1 := h.c1
  have hr := h.h1.look n hn
  have h1 := hw.r1
  clear h hw
  cases hl : sfLook n s.dir with
  | none =>
    rw [hl] at hr
    simp only [sfPv] at hr
    go_enter Try.func36, Try.ntmps36
    go_wp2_with (go_at_call 33; refine (made_cell _ c0 h1).mono ?_; rintro e w' ⟨rfl, rfl⟩)
    go_ret2
    exact ⟨rfl, rfl⟩
  | some i =>
    rw [hl] at hr
    simp only [sfPv] at hr
    go_enter Try.func36, Try.ntmps36
    go_wp2_with (go_at_call 33; refine (made_cell _ c0 h1).mono ?_; rintro e w' ⟨rfl, rfl⟩)
    go_ret2
    exact ⟨rfl, rfl⟩
theorem cells_set {w : World} {g : Nat} {cs : Array Value} {T : TypeId} (h : w.heap[g]? = some (.cells cs T)) (k : Nat) (v : Value) : (w.setCell ⟨g, k, none⟩ v).heap[g]? = some (.cells (cs.setIfInBounds k v) T) := heap_setCell_same w g k cs T v h
theorem planned_any {w : World} {O : Nat → Prop} {g m1 m2 : Nat} {pv : Value} {bl : Nat → Nat} {vs : Nat → Value} {s : SfS} (h : FsAt w O g m1 m2 pv bl vs s) (hw : SfWf s) :
    Calls Try.prog 37 #[.pointer (some ⟨g, 0, none⟩)] w fun e w' => e = .returned (.int .i64 (sfPlan s).1) ∧ FsAt w' O g m1 m2 pv bl vs (sfPlan s).2 ∧ Onl O w w' ∧ w'.heap.size = w.heap.size := by
  have c4 := h.c4
  have c5 := h.c5
  have f4 := h.fz 4
  have f5 := h.fz 5
  unfold sfPlan
  by_cases h0 : s.fault = 0
  · rw [if_pos h0]
    rw [h0] at c5
    have H := (show Hid _ from h)
    clear h hw h0
    go_enter Try.func37, Try.ntmps37
    go_wp2
    go_ret
    exact ⟨rfl, H.out, Onl.refl _ _, rfl⟩
  · rw [if_neg h0]
    have h0' : (s.fault == 0) = false := by simpa using h0
    by_cases hl : 0 < s.left
    · rw [if_pos hl]
      have H := (show Hid _ from h)
      have l2 := hw.l2
      have hl' : 1 ≤ s.left := hl
      clear h hw
      go_enter Try.func37, Try.ntmps37
      go_wp2
      go_ret
      refine ⟨rfl, ?_, Onl.set (a := ⟨g, 4, none⟩) H.out.og _, by simp [World.setCell]⟩
      refine H.out.setG (fun _ q => q) (fun k q => by have := H.out.lt k q; simp [World.setCell]; exact this) (fun k _ hk _ => Below.heap_setCell _ _ _ _ hk) ?_ (H.out.hp.keep fun k hk => ?_) H.out.op
      · have := cells_set H.out.hg 4 (.int .i64 (s.left - 1)); simpa using this
      · obtain ⟨cur, hc⟩ := H.out.pvT hk
        exact Below.heap_setCell _ _ _ _ (ty_ne hc H.out.hg (by decide))
    · rw [if_neg hl]
      have H := (show Hid _ from h)
      clear h hw
      go_enter Try.func37, Try.ntmps37
      go_wp2
      go_ret
      refine ⟨rfl, ?_, Onl.set (a := ⟨g, 5, none⟩) H.out.og _, by simp [World.setCell]⟩
      refine H.out.setG (fun _ q => q) (fun k q => by have := H.out.lt k q; simp [World.setCell]; exact this) (fun k _ hk _ => Below.heap_setCell _ _ _ _ hk) ?_ (H.out.hp.keep fun k hk => ?_) H.out.op
      · have := cells_set H.out.hg 5 (.int .i64 0); simpa using this
      · obtain ⟨cur, hc⟩ := H.out.pvT hk
        exact Below.heap_setCell _ _ _ _ (ty_ne hc H.out.hg (by decide))
theorem new_no (r : Int) (w : World) (h : r < 1) : Calls Try.prog 4 #[.int .i64 r] w fun e w' => e = .returned (.tuple #[.pointer none, .int .i64 1]) ∧ w' = w := by
  go_enter Try.func4, Try.ntmps4
  go_wp2
  go_ret2
  exact ⟨rfl, rfl⟩
def sfZ (r : Int) : SfS := ⟨r, [], [], [], 0, 0, []⟩
theorem new_fs (r : Int) (w : World) : FsAt (((w.alloc (.map #[] 0)).alloc (.map #[] 0)).alloc (.cells #[.int .i64 r, .map (some w.heap.size), .map (some (w.heap.size + 1)), .slice none 0 0, .int .i64 0, .int .i64 0] 43)) (fun k => w.heap.size ≤ k ∧ k < w.heap.size + 3) (w.heap.size + 2) w.heap.size (w.heap.size + 1) (.slice none 0 0) (fun _ => 0) (fun _ => .slice none 0 0) (sfZ r) := by
  have e0 := heap_alloc_new w (.map #[] 0)
  have e1 := heap_alloc_new (w.alloc (.map #[] 0)) (.map #[] 0)
  have e2 := heap_alloc_new ((w.alloc (.map #[] 0)).alloc (.map #[] 0)) (.cells #[.int .i64 r, .map (some w.heap.size), .map (some (w.heap.size + 1)), .slice none 0 0, .int .i64 0, .int .i64 0] 43)
  have m0 := World.ownsMap_made w Try.prog 9 ptrE
  have m1 := World.ownsMap_made (w.alloc (.map #[] 0)) Try.prog 9 ptrE
  simp only [World.size_alloc] at e1 e2 m1
  refine ⟨fun k hk => by simp only [World.size_alloc]; omega, by omega, by omega, by omega, by omega, e2, SfMap.keep (w := w.alloc (.map #[] 0)) m0 ?_, SfMap.keep (w := (w.alloc (.map #[] 0)).alloc (.map #[] 0)) m1 ?_, GOwn.nil _ _ _, fun k hk => by simp [Value.ownBlock] at hk, ⟨?_, ?_, ?_, ?_, ?_, ?_⟩⟩
  · rw [Below.heap_alloc _ _ _ (by simp; omega), Below.heap_alloc _ _ _ (by simp)]
  · rw [Below.heap_alloc _ _ _ (by simp)]
  all_goals (intro i; intros; simp [sfZ] at *)
theorem sfWf_zero {r : Int} (h1 : 1 ≤ r) (h2 : r < 9223372036854775808) : SfWf (sfZ r) := by
  refine ⟨h1, h2, by simp [sfZ], by simp [sfZ], ?_, ?_, ?_, rfl, ?_, ?_⟩ <;> simp [sfZ]
theorem new_any (r : Int) (w : World) (h : 1 ≤ r) : Calls Try.prog 4 #[.int .i64 r] w fun e w' => e = .returned (.tuple #[.pointer (some ⟨w.heap.size + 2, 0, none⟩), .int .i64 0]) ∧
    FsAt w' (fun k => w.heap.size ≤ k ∧ k < w.heap.size + 3) (w.heap.size + 2) w.heap.size (w.heap.size + 1) (.slice none 0 0) (fun _ => 0) (fun _ => .slice none 0 0) (sfZ r) ∧ Below w.heap.size w w' ∧ w'.heap.size = w.heap.size + 3 := by
  have h2 : ¬ r < 1 := by omega
  have hmm := @run_makeMap Try.prog
  go_enter Try.func4, Try.ntmps4
  go_wp2
  go_ret2
  exact ⟨rfl, new_fs r w, ((((Below.refl _ _).alloc (Nat.le_refl _) _).alloc (by simp) _).alloc (by simp; omega) _), by simp⟩
end Go.Proofs.Ytijablmejjepaaa
