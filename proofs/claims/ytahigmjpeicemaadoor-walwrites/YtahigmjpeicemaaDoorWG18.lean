/- SFA SFL SFB SFC SFW, joined. -/
import Derived.Test.YtahigmjpeicemaaDoorWG17
import Derived.Shelf.SlGeneric
import Derived.Shelf.SlIter.Nil
import Derived.Shelf.SortM.Plain
import Derived.Shelf.SortM.SortNone
/- A file system: Read. -/
namespace Go.Proofs.YtahigmjpeicemaaDoor
open Go.RowKit Go.Maps

theorem run_copy_zero {w : World} (ty : TypeId) (d : Option Addr) (dc : Nat) (a : Option Addr) (c : Nat) : (Builtin.copy_ #[28, 28] ty #[.slice d 0 dc, .slice a 0 c]).run Tryd.prog w = .ok (goInt 0) w := by
  have h1 : (Builtin.firstCells 1 0 (.slice a 0 c)).run Tryd.prog w = .ok #[] w := by cases a <;> simp [Builtin.firstCells, loadCells, loadCellsFrom]
  cases d <;> simp [Builtin.copy_, run_underlying Tryd.underlying28, Builtin.lenOf, Result.andThen, h1, storeCells]
theorem mkcopy {w : World} {v : Value} {l : List UInt8} (hR : Reads w v l) (hl : l.length ≤ 1048576) :
    ∃ w3 w4, (Instr.makeSlice 28 (.int .i64 (l.length : Int)) (.int .i64 (l.length : Int))).run Tryd.prog w = .ok (.slice (some ⟨w.heap.size, 0, none⟩) l.length l.length) w3 ∧ Below w.heap.size w w3 ∧
      (Builtin.copy_ #[28, 28] 3 #[.slice (some ⟨w.heap.size, 0, none⟩) l.length l.length, v]).run Tryd.prog w3 = .ok (goInt l.length) w4 ∧ Own w4 w.heap.size (.slice (some ⟨w.heap.size, 0, none⟩) l.length l.length) l ∧ Below w.heap.size w w4 := by
  obtain ⟨i0, hi0, hz0, hz1, hz2⟩ := info_parts info5
  obtain ⟨w3, hrn, hown3, hg3⟩ := run_make_full (P := Tryd.prog) w w.heap.size 28 5 i0 (.int .u8 0) 1 Tryd.underlying28 hi0 hz0 hz1 .i64 .i64 l.length (by rw [hz2]; omega) (by unfold maxLen; omega) (Nat.le_refl _)
  rw [Nat.mul_one] at hown3
  have hO3 : Own w3 w.heap.size (.slice (some ⟨w.heap.size, 0, none⟩) l.length l.length) (List.replicate l.length 0) := own_zeros hown3
  have hB3 : Below w.heap.size w w3 := (Below.refl _ _).grown hg3 (Nat.le_refl _) (fun k hk => by cases hk)
  rcases Nat.eq_zero_or_pos l.length with h0 | h0
  · obtain ⟨a, cap, rfl, _⟩ := hR.form
    have hn : l = [] := List.length_eq_zero_iff.1 h0
    subst hn
    exact ⟨w3, w3, hrn, hB3, run_copy_zero _ _ _ _ _, hO3, hB3⟩
  · obtain ⟨w4, hcp, hO4, hb4, _⟩ := copy_own (off := 0) 3 hO3 (hR.below hB3) h0 (by simp)
    rw [List.take_zero, List.nil_append] at hO4
    rw [Nat.sub_zero] at hcp
    exact ⟨w3, w4, hrn, hB3, hcp, hO4, hB3.trans (hb4.out.mono (Nat.le_refl _))⟩
def sfRead (s : SfS) (n : List UInt8) : List UInt8 := match sfLook n s.dir with
  | none => []
  | some i => (s.fl i).1
theorem read_any {w : World} {O : Nat → Prop} {g m1 m2 : Nat} {pv : Value} {bl : Nat → Nat} {vs : Nat → Value} {s : SfS} (h : FsAt w O g m1 m2 pv bl vs s) (hw : SfWf s) (n : List UInt8) (hn : n.length ≤ maxLen) :
    Calls Tryd.prog 44 #[.pointer (some ⟨g, 0, none⟩), .string ⟨n.toArray⟩] w fun e w' => ∃ v, e = .returned (.tuple #[v, .int .i64 (sfFe (sfLook n s.dir))]) ∧ Own w' w.heap.size v (sfRead s n) ∧ Below w.heap.size w w' := by
  have HF : Hid (FsAt w O g m1 m2 pv bl vs s) := h
  have hfd := find_any h hw n hn
  have hdi := hw.di
  have hfl := fun i => (hw.fl32 i).1
  clear h hw
  unfold sfRead
  cases hL : sfLook n s.dir with
  | none =>
    rw [hL] at hfd
    simp only [sfPv, sfFe] at hfd ⊢
    go_enter Tryd.func44, Tryd.ntmps44
    go_wp2_with (go_at_call 67; refine hfd.mono ?_; rintro e w' ⟨rfl, hw'⟩; subst w')
    go_ret2
    exact ⟨_, rfl, Own.nil _ _, Below.refl _ _⟩
  | some i =>
    rw [hL] at hfd
    simp only [sfPv, sfFe] at hfd ⊢
    have hi : i < s.fls.length := (hdi _ (look_mem hL)).1
    obtain ⟨hf, hb⟩ := HF.out.file hi
    have hRd := hb.reads
    obtain ⟨va, vc, hv, -⟩ := hb.form
    rw [hv] at hf hRd
    obtain ⟨w3, w4, hmk, hB3, hcp, hO4, hB4⟩ := mkcopy hRd (hfl i)
    have x0 := cell_of hf 0 _ rfl
    have x3 := cell_of ((hB3.block _ (Array.getElem?_eq_some_iff.1 hf).1).trans hf) 0 _ rfl
    have HO4 : Hid (Own w4 w.heap.size (.slice (some ⟨w.heap.size, 0, none⟩) (s.fl i).1.length (s.fl i).1.length) (s.fl i).1) := hO4
    have HB4 : Hid (Below w.heap.size w w4) := hB4
    have hlb := hfl i
    clear hf hb hRd hv hO4 hB4 hB3 hL hi hdi hfl
    generalize (s.fl i).1 = l at *
    go_enter Tryd.func44, Tryd.ntmps44
    go_wp2_with (go_at_call 67; refine hfd.mono ?_; rintro e w' ⟨rfl, hw'⟩; subst w')
    go_ret2
    exact ⟨_, rfl, HO4.out, HB4.out⟩
end Go.Proofs.YtahigmjpeicemaaDoor

/- slices.Sorted(maps.Keys(m)) at this program (written by mksfl.py, for one seat), and List. -/
namespace Go.Proofs.YtahigmjpeicemaaDoor
open Go.Shelf Go.Sort Go.RowKit Go.Maps

def sfKeys_ren : Go.Shelf.Ren := ⟨fun | 7 => 53 | 10 => 75 | n => n, fun | 23 => 89 | 26 => 9 | 3 => 98 | 28 => 96 | 0 => 0 | 27 => 95 | 33 => 106 | 4 => 4 | n => n, fun | n => n⟩
theorem sfKeys : Go.Proofs.SlLaysZ.n7 Tryd.prog sfKeys_ren := {
  mixed := by kernel_rfl
  f7 := ⟨Tryd.f53.name, by decide, Tryd.func53.trans (congrArg some (by kernel_rfl))⟩
  f10 := ⟨Tryd.f75.name, by decide, Tryd.func75.trans (congrArg some (by kernel_rfl))⟩
  t0 := Tryd.underlying0
  a0 := Tryd.isAgg0
  z0 := Tryd.sizeOf0
  v0 := Tryd.zeroValue0
  t4 := Tryd.underlying4
  a4 := Tryd.isAgg4
  z4 := Tryd.sizeOf4
  v4 := Tryd.zeroValue4
  t23 := Tryd.underlying89
  a23 := Tryd.isAgg89
  z23 := Tryd.sizeOf89
  v23 := Tryd.zeroValue89
  t26 := Tryd.underlying9
  a26 := Tryd.isAgg9
  z26 := Tryd.sizeOf9
  v26 := Tryd.zeroValue9
  t27 := Tryd.underlying95
  a27 := Tryd.isAgg95
  z27 := Tryd.sizeOf95
  v27 := Tryd.zeroValue95
  t28 := Tryd.underlying96
  a28 := Tryd.isAgg96
  z28 := Tryd.sizeOf96
  v28 := Tryd.zeroValue96
  t33 := Tryd.underlying106
  a33 := Tryd.isAgg106
  z33 := Tryd.sizeOf106
  v33 := Tryd.zeroValue106 }
def sfSorted_ren : Go.Shelf.Ren := ⟨fun | 6 => 52 | 8 => 73 | 9 => 74 | 11 => 85 | 13 => 87 | 12 => 86 | 23 => 103 | 24 => 104 | 14 => 94 | 15 => 95 | 16 => 96 | 17 => 97 | 18 => 98 | 19 => 99 | 20 => 100 | 21 => 101 | 22 => 102 | 25 => 109 | 26 => 110 | 27 => 111 | 28 => 112 | 29 => 113 | 30 => 114 | 31 => 117 | n => n, fun | 26 => 9 | 28 => 96 | 24 => 25 | 0 => 0 | 3 => 3 | 37 => 137 | 48 => 119 | 50 => 63 | 4 => 4 | 40 => 145 | 39 => 144 | 45 => 150 | 5 => 5 | 9 => 9 | 51 => 157 | 55 => 161 | 57 => 163 | 58 => 164 | 33 => 106 | n => n, fun | n => n⟩
theorem sfSorted : Go.Proofs.SlLaysZ.n6 Tryd.prog sfSorted_ren := {
  mixed := by kernel_rfl
  f6 := ⟨Tryd.f52.name, by decide, Tryd.func52.trans (congrArg some (by kernel_rfl))⟩
  f8 := ⟨Tryd.f73.name, by decide, Tryd.func73.trans (congrArg some (by kernel_rfl))⟩
  f11 := ⟨Tryd.f85.name, by decide, Tryd.func85.trans (congrArg some (by kernel_rfl))⟩
  t0 := Tryd.underlying0
  a0 := Tryd.isAgg0
  z0 := Tryd.sizeOf0
  v0 := Tryd.zeroValue0
  t24 := Tryd.underlying25
  a24 := Tryd.isAgg25
  z24 := Tryd.sizeOf25
  v24 := Tryd.zeroValue25
  t26 := Tryd.underlying9
  a26 := Tryd.isAgg9
  z26 := Tryd.sizeOf9
  v26 := Tryd.zeroValue9
  t28 := Tryd.underlying96
  a28 := Tryd.isAgg96
  z28 := Tryd.sizeOf96
  v28 := Tryd.zeroValue96
  i26 := by kernel_rfl }
def sfSort_ren : Go.Shelf.Ren := ⟨fun | 6 => 74 | 8 => 87 | 9 => 86 | 19 => 103 | 20 => 104 | 21 => 94 | 22 => 95 | 23 => 96 | 24 => 97 | 25 => 98 | 26 => 99 | 27 => 100 | 28 => 101 | 29 => 102 | 36 => 109 | 31 => 110 | 32 => 111 | 37 => 112 | 38 => 113 | 39 => 114 | 41 => 117 | n => n, fun | 27 => 25 | 29 => 9 | 3 => 3 | 32 => 137 | 26 => 25 | 0 => 0 | 44 => 119 | 46 => 63 | 4 => 4 | 36 => 145 | 35 => 144 | 41 => 150 | 5 => 5 | 9 => 9 | 53 => 157 | 57 => 161 | 63 => 163 | 64 => 164 | n => n, fun | n => n⟩
theorem sfSort : Go.Proofs.SlLaysM.n6 Tryd.prog sfSort_ren := {
  mixed := by kernel_rfl
  f6 := ⟨Tryd.f74.name, by decide, Tryd.func74.trans (congrArg some (by kernel_rfl))⟩
  f8 := Tryd.func87.trans (congrArg some (by kernel_rfl))
  f9 := ⟨Tryd.f86.name, by decide, Tryd.func86.trans (congrArg some (by kernel_rfl))⟩
  f19 := Tryd.func103.trans (congrArg some (by kernel_rfl))
  f20 := Tryd.func104.trans (congrArg some (by kernel_rfl))
  f21 := ⟨Tryd.f94.name, by decide, Tryd.func94.trans (congrArg some (by kernel_rfl))⟩
  f22 := ⟨Tryd.f95.name, by decide, Tryd.func95.trans (congrArg some (by kernel_rfl))⟩
  f23 := ⟨Tryd.f96.name, by decide, Tryd.func96.trans (congrArg some (by kernel_rfl))⟩
  f24 := ⟨Tryd.f97.name, by decide, Tryd.func97.trans (congrArg some (by kernel_rfl))⟩
  f25 := ⟨Tryd.f98.name, by decide, Tryd.func98.trans (congrArg some (by kernel_rfl))⟩
  f26 := ⟨Tryd.f99.name, by decide, Tryd.func99.trans (congrArg some (by kernel_rfl))⟩
  f27 := ⟨Tryd.f100.name, by decide, Tryd.func100.trans (congrArg some (by kernel_rfl))⟩
  f28 := ⟨Tryd.f101.name, by decide, Tryd.func101.trans (congrArg some (by kernel_rfl))⟩
  f29 := ⟨Tryd.f102.name, by decide, Tryd.func102.trans (congrArg some (by kernel_rfl))⟩
  f31 := Tryd.func110.trans (congrArg some (by kernel_rfl))
  f32 := Tryd.func111.trans (congrArg some (by kernel_rfl))
  f36 := ⟨Tryd.f109.name, by decide, Tryd.func109.trans (congrArg some (by kernel_rfl))⟩
  f37 := ⟨Tryd.f112.name, by decide, Tryd.func112.trans (congrArg some (by kernel_rfl))⟩
  f38 := ⟨Tryd.f113.name, by decide, Tryd.func113.trans (congrArg some (by kernel_rfl))⟩
  f39 := ⟨Tryd.f114.name, by decide, Tryd.func114.trans (congrArg some (by kernel_rfl))⟩
  f41 := ⟨Tryd.f117.name, by decide, Tryd.func117.trans (congrArg some (by kernel_rfl))⟩
  t0 := Tryd.underlying0
  a0 := Tryd.isAgg0
  z0 := Tryd.sizeOf0
  v0 := Tryd.zeroValue0
  t3 := Tryd.underlying3
  a3 := Tryd.isAgg3
  z3 := Tryd.sizeOf3
  v3 := Tryd.zeroValue3
  t4 := Tryd.underlying4
  a4 := Tryd.isAgg4
  z4 := Tryd.sizeOf4
  v4 := Tryd.zeroValue4
  t5 := Tryd.underlying5
  a5 := Tryd.isAgg5
  z5 := Tryd.sizeOf5
  v5 := Tryd.zeroValue5
  t9 := Tryd.underlying9
  a9 := Tryd.isAgg9
  z9 := Tryd.sizeOf9
  v9 := Tryd.zeroValue9
  t26 := Tryd.underlying25
  a26 := Tryd.isAgg25
  z26 := Tryd.sizeOf25
  v26 := Tryd.zeroValue25
  t27 := Tryd.underlying25
  a27 := Tryd.isAgg25
  z27 := Tryd.sizeOf25
  v27 := Tryd.zeroValue25
  t29 := Tryd.underlying9
  a29 := Tryd.isAgg9
  z29 := Tryd.sizeOf9
  v29 := Tryd.zeroValue9
  t32 := Tryd.underlying137
  a32 := Tryd.isAgg137
  z32 := Tryd.sizeOf137
  v32 := Tryd.zeroValue137
  t35 := Tryd.underlying144
  a35 := Tryd.isAgg144
  z35 := Tryd.sizeOf144
  v35 := Tryd.zeroValue144
  t36 := Tryd.underlying145
  a36 := Tryd.isAgg145
  z36 := Tryd.sizeOf145
  v36 := Tryd.zeroValue145
  t41 := Tryd.underlying150
  a41 := Tryd.isAgg150
  z41 := Tryd.sizeOf150
  v41 := Tryd.zeroValue150
  t44 := Tryd.underlying119
  a44 := Tryd.isAgg119
  z44 := Tryd.sizeOf119
  v44 := Tryd.zeroValue119
  t46 := Tryd.underlying63
  a46 := Tryd.isAgg63
  z46 := Tryd.sizeOf63
  v46 := Tryd.zeroValue63
  t53 := Tryd.underlying157
  a53 := Tryd.isAgg157
  z53 := Tryd.sizeOf157
  v53 := Tryd.zeroValue157
  t57 := Tryd.underlying161
  a57 := Tryd.isAgg161
  z57 := Tryd.sizeOf161
  v57 := Tryd.zeroValue161
  t63 := Tryd.underlying163
  a63 := Tryd.isAgg163
  z63 := Tryd.sizeOf163
  v63 := Tryd.zeroValue163
  t64 := Tryd.underlying164
  a64 := Tryd.isAgg164
  z64 := Tryd.sizeOf164
  v64 := Tryd.zeroValue164 }
theorem sfSorts (m : Nat) : AnyZ.SortsIn Tryd.prog sfSorted_ren Fence.wide m :=
  ⟨fun blk off cap ss W hH hblk hsz => callsIn_wide.2 (AnyM.slices_Sort_string sfSort blk off cap ss W hH hblk hsz),
   fun p cap W => callsIn_wide.2 (AnyM.slices_Sort_string_none sfSort p cap W)⟩
theorem sf_keys (mb : Option Nat) (W : World) : CallsIn Fence.wide 5 Tryd.prog 53 #[.map mb] W fun e w' => e = .returned (.func (.func 75) #[] #[.pointer (some ⟨W.heap.size, 0, none⟩)]) ∧ w' = W.alloc (.cells #[.map mb] 89) :=
  AnyZ.keys_in sfKeys Fence.wide 5 trivial rfl mb W
set_option maxHeartbeats 1000000 in
theorem sf_sorted {H : Type} (b nn : Nat) (D0 : DataW H) (R : Value → Option (DataW H × List MemPlace)) (w : World) (hown : w.ownsMap Tryd.prog 9 R b nn D0) (hmax : Maps.size D0 ≤ maxLen) (hbytes : Maps.size D0 * 16 ≤ 140737488355328) :
    CallsIn Fence.wide 5 Tryd.prog 52 #[.func (.func 75) #[] #[.pointer (some ⟨w.heap.size, 0, none⟩)]] (w.alloc (.cells #[.map (some b)] 89)) fun e w' => ∃ (v : Value) (ss : List (List UInt8)), e = .returned v ∧ ss.Perm (strKeys D0) ∧
      w'.ownsRow (w.alloc (.cells #[.map (some b)] 89)).heap.size 9 1 v ss.length ((ss.mergeSort (fun x y => decide (x ≤ y))).map encStr) ∧ (v = .slice none 0 0 ↔ ss = []) ∧ Below (w.alloc (.cells #[.map (some b)] 89)).heap.size (w.alloc (.cells #[.map (some b)] 89)) w' := by
  have hbl := hown.lt
  have hseq : SeqGives Fence.wide 2 Tryd.prog 75 #[.pointer (some ⟨w.heap.size, 0, none⟩)] encStr (fun ss => ss.Perm (strKeys D0)) (Maps.size D0) (w.alloc (.cells #[.map (some b)] 89)) :=
    AnyZ.keys_gives (ρ := sfKeys_ren) { sfKeys with } Fence.wide _ trivial rfl (by omega) w.heap.size b nn D0 _ (by simp) (by simp) (by
      obtain ⟨es, clock, hb, Ft, hs, hD⟩ := hown
      exact ⟨es, clock, (Below.heap_alloc _ _ b hbl).trans hb, Ft, hs, hD⟩)
  exact AnyZ.sorted_in sfSorted Fence.wide 5 trivial trivial trivial trivial rfl (by omega) (sfSorts _) (enters_of Tryd.func74 (by kernel_rfl) rfl) 75 #[.pointer (some ⟨w.heap.size, 0, none⟩)] trivial (enters_of Tryd.func75 (by kernel_rfl) rfl) _ _ hmax hbytes _ hseq
set_option maxHeartbeats 1000000 in
theorem list_map {H : Type} (g b nn : Nat) (r : Int) (D0 : DataW H) (R : Value → Option (DataW H × List MemPlace)) (w : World) (hown : w.ownsMap Tryd.prog 9 R b nn D0) (hmax : Maps.size D0 ≤ maxLen) (hbytes : Maps.size D0 * 16 ≤ 140737488355328)
    (c0 : w.cell? ⟨g, 0, none⟩ = some (.int .i64 r)) (h1 : 1 ≤ r) (c1 : w.cell? ⟨g, 1, none⟩ = some (.map (some b))) :
    Calls Tryd.prog 22 #[.pointer (some ⟨g, 0, none⟩)] w fun e w' => ∃ (v : Value) (ss : List (List UInt8)), e = .returned v ∧ ss.Perm (strKeys D0) ∧
      w'.ownsRow w.heap.size 9 1 v ss.length ((ss.mergeSort (fun x y => decide (x ≤ y))).map encStr) ∧ Below w.heap.size w w' := by
  refine (callsIn_wide (n := 6)).1 ?_
  have hfK : Fence.wide.fn 53 := trivial
  have hfS : Fence.wide.fn 52 := trivial
  have hfM : Fence.wide.fn 51 := trivial
  have hmd : CallsIn Fence.wide 5 Tryd.prog 51 #[.pointer (some ⟨g, 0, none⟩)] w fun e w' => e = .returned (.bool true) ∧ w' = w := callsIn_wide.2 (made_cell w c0 h1)
  refine callsIn_of_wp Tryd.func22 rfl trivial ?_ rfl
  simp only [Tryd.ntmps22, List.size_toArray, List.length_cons, List.length_nil, Nat.reduceAdd, Nat.reduceSub, Array.replicate_succ, Array.replicate_zero, List.push_toArray, List.append_toArray, List.nil_append, List.cons_append]
  gi_wp2_with (first
    | (gi_at_call 51; refine hmd.mono ?_; rintro e w' ⟨rfl, hw'⟩; subst w')
    | (gi_at_call 53; refine (sf_keys _ _).mono ?_; rintro e w' ⟨rfl, hw'⟩; subst w')
    | (gi_at_call 52; refine (sf_sorted b nn D0 R w hown hmax hbytes).mono ?_; rintro e w' ⟨v, ss, rfl, hS, hrow, hnil, hb⟩))
  go_ret
  exact ⟨v, ss, rfl, hS, ownsRow_base_a hrow (by simp), ((Below.refl _ w).alloc (Nat.le_refl _) _).trans (hb.mono (by simp))⟩
end Go.Proofs.YtahigmjpeicemaaDoor

/- A file system: List; one map into another. -/
namespace Go.Proofs.YtahigmjpeicemaaDoor
open Go.RowKit Go.Maps Go.Sort

theorem bb_le : ∀ (a b : List UInt8), bytesBefore a b = true → a ≤ b
  | [], b, _ => by simp
  | _ :: _, [], h => by simp [bytesBefore] at h
  | x :: a, y :: b, h => by
    simp only [bytesBefore, Bool.or_eq_true, decide_eq_true_eq, Bool.and_eq_true, beq_iff_eq] at h
    rcases h with h | ⟨rfl, h⟩
    · exact List.le_of_lt (List.cons_lt_cons_iff.2 (.inl h))
    · exact List.cons_le_cons_iff.2 (.inr ⟨rfl, bb_le a b h⟩)
def sv (s : List UInt8) : Value := .string ⟨s.toArray⟩
theorem strKeys_sf (bl : Nat → Nat) (l : List (List UInt8 × Nat)) : strKeys (sfD bl l) = l.map (·.1) := by
  show (l.map (sfE bl)).map (fun p => strOf p.1) = _
  rw [List.map_map]
  rfl
theorem list_any {w : World} {O : Nat → Prop} {g m1 m2 : Nat} {pv : Value} {bl : Nat → Nat} {vs : Nat → Value} {s : SfS} (h : FsAt w O g m1 m2 pv bl vs s) (hw : SfWf s) :
    Calls Tryd.prog 22 #[.pointer (some ⟨g, 0, none⟩)] w fun e w' => ∃ v, e = .returned v ∧ w'.ownsRow w.heap.size 9 1 v s.dir.length (s.dir.map fun p => sv p.1) ∧ Below w.heap.size w w' := by
  have hdl := hw.dl
  have hsz := sfD_size bl s.dir
  refine (list_map g m1 s.dir.length s.room (sfD bl s.dir) ptrE w h.h1 (by rw [hsz]; simp only [maxLen]; omega) (by rw [hsz]; omega) h.c0 hw.r1 h.c1).mono ?_
  rintro e w' ⟨v, ss, rfl, hS, hrow, hb⟩
  rw [strKeys_sf] at hS
  have hl : ss.length = s.dir.length := by rw [hS.length_eq, List.length_map]
  have hms : ss.mergeSort (fun x y => decide (x ≤ y)) = s.dir.map (·.1) := by
    have := mergeSort_of_perm hS
    unfold leB at this
    rw [this]
    refine List.mergeSort_of_pairwise ?_
    rw [List.pairwise_map]
    exact h.h1.apart.imp fun {a b} q => by simpa using bb_le _ _ q
  rw [hms, List.map_map, hl] at hrow
  exact ⟨v, rfl, hrow, hb⟩
end Go.Proofs.YtahigmjpeicemaaDoor

/- A file system: Crash. -/
namespace Go.Proofs.YtahigmjpeicemaaDoor
open Go.RowKit Go.Maps Go.Sort

/-- Numbers that a slice reads. -/
def KReads (w : World) (v : Value) (ks : List Int) : Prop := ∃ a cap, v = .slice a ks.length cap ∧ ks.length ≤ maxLen ∧ (ks = [] ∨ ∃ b off, a = some ⟨b, off, none⟩ ∧ b < w.heap.size ∧ ∀ j (h : j < ks.length), w.cell? ⟨b, off + j, none⟩ = some (.int .i64 ks[j]))
theorem KReads.keepB {w w' : World} {v : Value} {l : List Int} (h : KReads w v l) (hk : ∀ k, v.ownBlock = some k → k < w.heap.size → w'.heap[k]? = w.heap[k]?) (hs : w.heap.size ≤ w'.heap.size) : KReads w' v l := by
  obtain ⟨a, cap, rfl, h1, h2⟩ := h
  refine ⟨a, cap, rfl, h1, ?_⟩
  rcases h2 with h2 | ⟨b, off, rfl, h3, h4⟩
  · exact .inl h2
  · exact .inr ⟨b, off, rfl, by omega, fun j hj => (World.cell?_of_block (hk b rfl h3)).trans (h4 j hj)⟩
theorem wpList_clear_sf {w : World} {ops : Array Oper} {rest : List Oper} {o : Oper} {a : Act} {Q : Exit → Act → World → Prop} (hg : o.guard = none) (m : Operand) (hop : o.op = Op.call { callee := Callee.builtin Builtin.clear, args := #[m], argTypes := #[89] }) (b : Nat) (bl : Nat → Nat) (l : List (List UInt8 × Nat))
    (hm : a.eval m = .map (some b)) (h : SfMap w b bl l) (hK : ∀ w', SfMap w' b bl [] → w.mapTurned w' b → wpList Tryd.prog ops Q rest (a.put o.dst (.tuple #[])) w') : wpList Tryd.prog ops Q (o :: rest) a w := by
  refine wpList_plain hg fun K' hK' => ?_
  obtain ⟨w', hrun, r1, r2⟩ := h.clear o.type
  unfold Oper.wp
  simp [execOp, hop, resolve, invoke, builtin, hm, hrun, Result.andThen]
  exact hK' _ _ (hK w' r1 r2)
theorem sfSettle_min (s : SfS) (k : Nat) : sfSettle s k = sfSettle s (min k s.pend.length) := by
  unfold sfSettle
  rcases Nat.le_total k s.pend.length with h | h
  · rw [Nat.min_eq_left h]
  · rw [Nat.min_eq_right h, List.take_of_length_le h, List.take_length]
theorem row_str {w : World} {base n : Nat} {a : Option Addr} {cap : Nat} {l : List (List UInt8)} (h : w.ownsRow base 9 1 (.slice a n cap) l.length (l.map sv)) {j : Nat} (hj : j < l.length) : ∃ b, a = some ⟨b, 0, none⟩ ∧ w.cell? ⟨b, j, none⟩ = some (.string ⟨(l[j]).toArray⟩) := by
  have hc := @World.ownsRow.cells w base 9 1 (.slice a n cap) l.length (l.map sv) h
  rcases h.2 with ⟨_, h0⟩ | ⟨g, c, cur, hv, _⟩
  · omega
  · simp at hv
    obtain ⟨rfl, _⟩ := hv
    refine ⟨g, rfl, ?_⟩
    have := hc (g := g) rfl j (sv l[j]) (by simp [hj])
    have ea : (⟨g, 0, none⟩ : Addr).add j = ⟨g, j, none⟩ := by simp [Addr.add]; omega
    rw [ea] at this
    exact this
theorem row_form {w : World} {base n : Nat} {e : TypeId} {v : Value} {xs : List Value} (h : w.ownsRow base e 1 v n xs) : ∃ a c, v = .slice a n c := by
  rcases h.2 with ⟨h1, h2⟩ | ⟨g, cap, cur, hv, _⟩
  · exact ⟨none, 0, by rw [h1, h2]⟩
  · exact ⟨_, cap, hv⟩
theorem row_str' {w : World} {base n N : Nat} {a : Option Addr} {cap : Nat} {l : List (List UInt8 × Nat)} (h : w.ownsRow base 9 1 (.slice a n cap) N (l.map fun p => sv p.1)) (hN : N = l.length) {j : Nat} (hj : j < N) : ∃ b, a = some ⟨b, 0, none⟩ ∧ w.cell? ⟨b, j, none⟩ = some (.string ⟨((l[j]'(hN ▸ hj)).1).toArray⟩) := by
  subst hN
  have e : (l.map fun p => sv p.1) = (l.map (·.1)).map sv := by rw [List.map_map]; rfl
  have el : (l.map (·.1)).length = l.length := List.length_map ..
  rw [e, ← el] at h
  obtain ⟨b, hb, hc⟩ := row_str h (j := j) (by rw [el]; exact hj)
  exact ⟨b, hb, by rw [hc]; simp⟩
theorem row_keepB {w w' : World} {base n : Nat} {e : TypeId} {v : Value} {xs : List Value} (h : w.ownsRow base e 1 v n xs) (hk : ∀ k, base ≤ k → k < w.heap.size → w'.heap[k]? = w.heap[k]?) : w'.ownsRow base e 1 v n xs := by
  have hlt := World.ownsRow.lt h
  obtain ⟨h1, h2⟩ := h
  refine ⟨h1, ?_⟩
  rcases h2 with h2 | ⟨g, cap, cur, rfl, hg, hw, r⟩
  · exact .inl h2
  · exact .inr ⟨g, cap, cur, rfl, hg, (hk g hg (hlt g rfl).2).trans hw, r⟩
theorem drop_head {α : Type} {l : List α} {j : Nat} (hj : j < l.length) : l.drop j = l[j] :: l.drop (j + 1) := (List.getElem_cons_drop hj).symm
theorem headD_drop (ks : List Int) (j : Nat) : (ks.drop j).headD 0 = if h : j < ks.length then ks[j] else 0 := by
  split
  · rename_i h; rw [drop_head h]; rfl
  · rw [List.drop_eq_nil_of_le (by omega)]; rfl
theorem sfCuts_step {dir : List (List UInt8 × Nat)} {ks : List Int} {fls : List (List UInt8 × Nat)} {j : Nat} (hj : j < dir.length) : sfCuts (dir.drop j) (ks.drop j) fls = sfCuts (dir.drop (j + 1)) (ks.drop (j + 1)) (fls.set dir[j].2 (sfCut (fls.getD dir[j].2 ([], 0)) ((ks.drop j).headD 0))) := by
  rw [drop_head hj, sfCuts, List.tail_drop]
def sfFlOk (fls : List (List UInt8 × Nat)) : Prop := ∀ (i : Nat) (f : List UInt8 × Nat), fls[i]? = some f → f.2 ≤ f.1.length ∧ f.1.length ≤ 1048576
theorem sfFlOk.cut {fls : List (List UInt8 × Nat)} (h : sfFlOk fls) (i : Nat) (k : Int) : sfFlOk (fls.set i (sfCut (fls.getD i ([], 0)) k)) := by
  intro j f hj
  by_cases e : i = j
  · subst e
    rcases Nat.lt_or_ge i fls.length with hi | hi
    · rw [List.getElem?_set_self hi] at hj
      obtain rfl : sfCut (fls.getD i ([], 0)) k = f := by simpa using hj
      have hg : fls[i]? = some (fls.getD i ([], 0)) := by rw [List.getD_eq_getElem?_getD, List.getElem?_eq_getElem hi]; rfl
      have := h i _ hg
      unfold sfCut
      simp only [List.length_take]
      omega
    · rw [List.getElem?_eq_none (by simpa using hi)] at hj; cases hj
  · rw [List.getElem?_set_ne e] at hj; exact h j f hj
theorem sfIns_mem {x p : List UInt8 × Nat} : ∀ {l : List (List UInt8 × Nat)}, p ∈ sfIns x l → p = x ∨ p ∈ l
  | [], h => by simp [sfIns] at h; exact .inl h
  | y :: r, h => by
    unfold sfIns at h
    split at h
    · rcases List.mem_cons.1 h with h | h
      · exact .inl h
      · exact .inr h
    · rcases List.mem_cons.1 h with h | h
      · exact .inr (by simp [h])
      · rcases sfIns_mem h with h | h
        · exact .inl h
        · exact .inr (by simp [h])
theorem sfDel_mem {s : List UInt8} {p : List UInt8 × Nat} {l : List (List UInt8 × Nat)} (h : p ∈ sfDel s l) : p ∈ l := (List.mem_filter.1 h).1
theorem sfDo_ok {N : Nat} {l : List (List UInt8 × Nat)} {a : SfA} (hl : ∀ p ∈ l, p.2 < N ∧ p.1.length ≤ 32) (ha : (∀ i, a.file = some i → i < N) ∧ a.gone.length ≤ 32 ∧ a.name.length ≤ 32) : ∀ p ∈ sfDo l a, p.2 < N ∧ p.1.length ≤ 32 := by
  intro p hp
  unfold sfDo at hp
  split at hp
  · exact hl p (sfDel_mem hp)
  · rename_i i hf
    rcases sfIns_mem hp with rfl | hp
    · exact ⟨ha.1 i hf, ha.2.2⟩
    · exact hl p (sfDel_mem (sfDel_mem hp))
theorem sfDo_fold_ok {N : Nat} : ∀ {P : List SfA} {l : List (List UInt8 × Nat)}, (∀ p ∈ l, p.2 < N ∧ p.1.length ≤ 32) → (∀ a ∈ P, (∀ i, a.file = some i → i < N) ∧ a.gone.length ≤ 32 ∧ a.name.length ≤ 32) → ∀ p ∈ P.foldl sfDo l, p.2 < N ∧ p.1.length ≤ 32
  | [], _, hl, _ => hl
  | a :: P, l, hl, hP => by
    rw [List.foldl_cons]
    exact sfDo_fold_ok (sfDo_ok hl (hP a (by simp))) (fun b hb => hP b (by simp [hb]))
end Go.Proofs.YtahigmjpeicemaaDoor

/- A file system: what every call keeps, plainly; the calls in one form. -/
namespace Go.Proofs.YtahigmjpeicemaaDoor
open Go.RowKit Go.Maps Go.Sort

theorem SfWf.fold {s : SfS} (q : SfWf s) (k : Nat) : ∀ p ∈ (s.pend.take k).foldl sfDo s.old, p.2 < s.fls.length ∧ p.1.length ≤ 32 := sfDo_fold_ok q.oi (fun a ha => q.pi a (List.mem_of_mem_take ha))
theorem SfWf.syncDir {s : SfS} (h : SfWf s) : SfWf (sfSyncDir s).2 := by
  unfold sfSyncDir
  split
  · have q := h.plan
    have e : s.pend.length = (sfPlan s).2.pend.length := by rw [sfPlan_pend]
    rw [e]
    have hf := q.fold (sfPlan s).2.pend.length
    have hd : ((sfPlan s).2.pend.take (sfPlan s).2.pend.length).foldl sfDo (sfPlan s).2.old = (sfPlan s).2.dir := by rw [List.take_length, ← q.ap]
    refine ⟨q.r1, q.r2, q.l1, q.l2, q.di, hf, fun a ha => by simp [sfSettle] at ha, ?_, fun k => ?_, q.sy⟩
    · simp only [sfSettle, List.foldl_nil]; exact hd.symm
    · simp only [sfSettle, List.take_nil, List.foldl_nil, hd]; exact q.dl
  · exact h.plan
theorem sfCuts_len : ∀ (dir : List (List UInt8 × Nat)) (ks : List Int) (fls : List (List UInt8 × Nat)), (sfCuts dir ks fls).length = fls.length
  | [], _, _ => rfl
  | p :: r, ks, fls => by rw [sfCuts, sfCuts_len r, List.length_set]
theorem sfCuts_ok : ∀ (dir : List (List UInt8 × Nat)) (ks : List Int) (fls : List (List UInt8 × Nat)), sfFlOk fls → sfFlOk (sfCuts dir ks fls)
  | [], _, _, h => h
  | p :: r, ks, fls, h => by rw [sfCuts]; exact sfCuts_ok r _ _ (h.cut _ _)
theorem SfWf.crash {s : SfS} (q : SfWf s) (n : Int) (ks : List Int) : SfWf (sfCrash s n ks) := by
  have hf := q.fold (max n 0).toNat
  have hl : (sfCrash s n ks).fls.length = s.fls.length := sfCuts_len _ _ _
  refine ⟨q.r1, q.r2, q.l1, q.l2, fun p hp => ?_, fun p hp => ?_, fun a ha => by simp [sfCrash, sfSettle] at ha, rfl, fun k => ?_, sfCuts_ok _ _ _ q.sy⟩
  · rw [hl]; exact hf p hp
  · rw [hl]; exact hf p hp
  · simp only [sfCrash, sfSettle, List.take_nil, List.foldl_nil]; exact q.ln _
theorem SfWf.change {s : SfS} (h : SfWf s) {a : SfA} (ha : (∀ i, a.file = some i → i < s.fls.length) ∧ a.gone.length ≤ 32 ∧ a.name.length ≤ 32) (hd : (sfDo s.dir a).length ≤ 256) : SfWf (sfChange s a).2 := by
  unfold sfChange
  split
  · have q := h.plan
    have e1 := sfPlan_dir s
    have e2 := sfPlan_fls s
    refine ⟨q.r1, q.r2, q.l1, q.l2, ?_, q.oi, ?_, ?_, fun k => ?_, q.sy⟩
    · exact sfDo_ok q.di (by rw [e2]; exact ha)
    · intro b hb
      rcases List.mem_append.1 hb with hb | hb
      · exact q.pi b hb
      · obtain rfl : b = a := by simpa using hb
        show (∀ i, b.file = some i → i < (sfPlan s).2.fls.length) ∧ _
        rw [e2]; exact ha
    · show sfDo (sfPlan s).2.dir a = ((sfPlan s).2.pend ++ [a]).foldl sfDo (sfPlan s).2.old
      rw [List.foldl_append, ← q.ap]; rfl
    · show (((sfPlan s).2.pend ++ [a]).take k |>.foldl sfDo (sfPlan s).2.old).length ≤ 256
      rcases Nat.lt_or_ge (sfPlan s).2.pend.length k with hk | hk
      · rw [List.take_of_length_le (by simp; omega), List.foldl_append, ← q.ap]
        show (sfDo (sfPlan s).2.dir a).length ≤ 256
        rw [e1]; exact hd
      · rw [List.take_append_of_le_length hk]; exact q.ln k
  · exact h.plan
theorem sfDel_lt {s : List UInt8} {i : Nat} : ∀ {l : List (List UInt8 × Nat)}, sfLook s l = some i → (sfDel s l).length + 1 ≤ l.length
  | y :: r, h => by
    unfold sfLook at h
    rw [List.find?_cons] at h
    by_cases e : y.1 == s
    · have : sfDel s (y :: r) = sfDel s r := by unfold sfDel; rw [List.filter_cons, e]; rfl
      rw [this]
      have := sfDel_le s r
      simp; omega
    · rw [Bool.not_eq_true] at e
      rw [e] at h
      have ih := sfDel_lt (l := r) h
      have : sfDel s (y :: r) = y :: sfDel s r := by unfold sfDel; rw [List.filter_cons, e]; rfl
      rw [this]
      simp; omega
theorem sfName_len {n : List UInt8} (h : sfName n = true) : n.length ≤ 32 ∧ 1 ≤ n.length := by
  unfold sfName at h
  simp only [Bool.and_eq_true, decide_eq_true_eq] at h
  omega
theorem SfWf.create {s : SfS} (h : SfWf s) (n : List UInt8) : SfWf (sfCreate s n).2 := by
  unfold sfCreate
  split
  · exact h
  · split
    · exact h
    · split
      · exact h
      · rename_i h1 h2 h3
        have hn := sfName_len (by simpa using h1)
        refine h.new.change ⟨fun i hi => ?_, by simp, hn.1⟩ ?_
        · simp at hi; subst hi; simp [sfNew]
        · have := sfDo_le (sfNew s).dir ⟨[], n, some s.fls.length⟩
          have e : (sfNew s).dir = s.dir := rfl
          rw [e] at this ⊢
          omega
theorem SfWf.setF {s : SfS} (q : SfWf s) {i : Nat} {f : List UInt8 × Nat} (hf : f.2 ≤ f.1.length ∧ f.1.length ≤ 1048576) : SfWf (s.setF i f) := by
  have hl : (s.setF i f).fls.length = s.fls.length := by simp [SfS.setF]
  refine ⟨q.r1, q.r2, q.l1, q.l2, fun p hp => by rw [hl]; exact q.di p hp, fun p hp => by rw [hl]; exact q.oi p hp, fun a ha => by rw [hl]; exact q.pi a ha, q.ap, q.ln, fun j g hg => ?_⟩
  by_cases e : i = j
  · subst e
    rcases Nat.lt_or_ge i s.fls.length with hi | hi
    · rw [SfS.setF, List.getElem?_set_self hi] at hg
      obtain rfl : f = g := by simpa using hg
      exact hf
    · rw [List.getElem?_eq_none (by rw [hl]; exact hi)] at hg; cases hg
  · rw [SfS.setF, List.getElem?_set_ne e] at hg; exact q.sy j g hg
theorem SfWf.append {s : SfS} (h : SfWf s) (n b : List UInt8) : SfWf (sfAppend s n b).2 := by
  unfold sfAppend
  split
  · exact h
  · rename_i i _
    split
    · exact h
    · split
      · exact h
      · split
        · refine h.plan.setF ?_
          have := (h.fl32 i).2
          simp only [List.length_append]; omega
        · exact h.plan
theorem SfWf.sync {s : SfS} (h : SfWf s) (n : List UInt8) : SfWf (sfSync s n).2 := by
  unfold sfSync
  split
  · exact h
  · rename_i i _
    split
    · exact h.plan.setF ⟨Nat.le_refl _, (h.fl32 i).1⟩
    · exact h.plan
theorem SfWf.rename {s : SfS} (h : SfWf s) (n m : List UInt8) : SfWf (sfRename s n m).2 := by
  unfold sfRename
  split
  · exact h
  · rename_i h1
    have hm := sfName_len (by simpa using h1)
    split
    · exact h
    · rename_i i hi
      refine h.change ⟨fun j hj => ?_, (h.di _ (look_mem hi)).2, hm.1⟩ ?_
      · simp at hj; subst hj; exact (h.di _ (look_mem hi)).1
      · have h1 := sfDel_lt hi
        have h2 := sfPut_le (m, i) (sfDel n s.dir)
        have h3 := h.dl
        show (sfPut (m, i) (sfDel n s.dir)).length ≤ 256
        omega
theorem SfWf.remove {s : SfS} (h : SfWf s) (n : List UInt8) : SfWf (sfRemove s n).2 := by
  unfold sfRemove
  split
  · exact h
  · rename_i i hi
    refine h.change ⟨fun j hj => by simp at hj, (h.di _ (look_mem hi)).2, by simp⟩ ?_
    have h1 := sfDel_le n s.dir
    have h3 := h.dl
    show (sfDel n s.dir).length ≤ 256
    omega
theorem SfWf.fail {s : SfS} (q : SfWf s) (n e : Int) (h2 : n < 9223372036854775808) : SfWf (sfFail s n e).2 := by
  unfold sfFail
  split
  · exact q
  · split
    · exact ⟨q.r1, q.r2, q.l1, q.l2, q.di, q.oi, q.pi, q.ap, q.ln, q.sy⟩
    · exact ⟨q.r1, q.r2, by show _ ≤ n; omega, h2, q.di, q.oi, q.pi, q.ap, q.ln, q.sy⟩
/-- A file system, wherever it lies. -/
def Fs (w : World) (O : Nat → Prop) (p : Value) (s : SfS) : Prop := SfWf s ∧ ∃ g m1 m2 pv bl vs, p = .pointer (some ⟨g, 0, none⟩) ∧ FsAt w O g m1 m2 pv bl vs s
/-- What a call answers and leaves. -/
def FsR (w : World) (O : Nat → Prop) (p : Value) (r : Int × SfS) (e : Ending) (w' : World) : Prop := e = .returned (.int .i64 r.1) ∧ Fs w' (Grw O w w') p r.2 ∧ Onl O w w'
theorem Fs.lt {w : World} {O : Nat → Prop} {p : Value} {s : SfS} (h : Fs w O p s) : ∀ k, O k → k < w.heap.size := by
  obtain ⟨_, g, m1, m2, pv, bl, vs, rfl, hf⟩ := h
  exact hf.lt
theorem Fs.keep {w w' : World} {O : Nat → Prop} {p : Value} {s : SfS} (h : Fs w O p s) (hk : ∀ k, O k → w'.heap[k]? = w.heap[k]?) (hs : w.heap.size ≤ w'.heap.size) : Fs w' O p s := by
  obtain ⟨hw, g, m1, m2, pv, bl, vs, rfl, hf⟩ := h
  exact ⟨hw, g, m1, m2, pv, bl, vs, rfl, hf.keep hk hs⟩
theorem Fs.below {w w' : World} {O : Nat → Prop} {p : Value} {s : SfS} (h : Fs w O p s) (hb : Below w.heap.size w w') : Fs w' O p s := h.keep (fun k hk => hb.block k (h.lt k hk)) hb.size
theorem Fs.wider {w : World} {O O' : Nat → Prop} {p : Value} {s : SfS} (h : Fs w O p s) (hO : ∀ k, O k → O' k) (hl : ∀ k, O' k → k < w.heap.size) : Fs w O' p s := by
  obtain ⟨hw, g, m1, m2, pv, bl, vs, rfl, hf⟩ := h
  exact ⟨hw, g, m1, m2, pv, bl, vs, rfl, hf.wider hO hl⟩
theorem Fs.ptr {w : World} {O : Nat → Prop} {p : Value} {s : SfS} (h : Fs w O p s) : ∃ g, p = .pointer (some ⟨g, 0, none⟩) := by
  obtain ⟨_, g, m1, m2, pv, bl, vs, rfl, hf⟩ := h
  exact ⟨g, rfl⟩
theorem Fs.sorted {w : World} {O : Nat → Prop} {p : Value} {s : SfS} (h : Fs w O p s) : s.dir.Pairwise (fun p q => bytesBefore p.1 q.1 = true) := by
  obtain ⟨_, g, m1, m2, pv, bl, vs, rfl, hf⟩ := h
  exact hf.h1.apart
theorem Fs.sorted2 {w : World} {O : Nat → Prop} {p : Value} {s : SfS} (h : Fs w O p s) : s.old.Pairwise (fun p q => bytesBefore p.1 q.1 = true) := by
  obtain ⟨_, g, m1, m2, pv, bl, vs, rfl, hf⟩ := h
  exact hf.h2.apart
/-- Another one, of which no block is touched. -/
theorem Fs.other {w w' : World} {O O' : Nat → Prop} {p : Value} {s : SfS} (h : Fs w O p s) (ho : Onl O' w w') (hd : ∀ k, O k → ¬ O' k) : Fs w' O p s := h.keep (fun k hk => ho.block k (h.lt k hk) (hd k hk)) ho.size
theorem FsTo.fs {w w' : World} {O : Nat → Prop} {g m1 m2 : Nat} {s : SfS} (h : FsTo w O g m1 m2 s w') (hw : SfWf s) : Fs w' (Grw O w w') (.pointer (some ⟨g, 0, none⟩)) s ∧ Onl O w w' := by
  obtain ⟨⟨pv, bl, vs, hf⟩, ho⟩ := h
  exact ⟨⟨hw, g, m1, m2, pv, bl, vs, rfl, hf⟩, ho⟩
theorem Fs.create {w : World} {O : Nat → Prop} {p : Value} {s : SfS} (h : Fs w O p s) (n : List UInt8) (hn : n.length ≤ maxLen) (hpn : s.pend.length < 1099511627776) : Calls Tryd.prog 42 #[p, .string ⟨n.toArray⟩] w (FsR w O p (sfCreate s n)) := by
  obtain ⟨hw, g, m1, m2, pv, bl, vs, rfl, hf⟩ := h
  exact (create_any hf hw n hn hpn).mono fun e w' h => ⟨h.1, h.2.fs (hw.create n)⟩
theorem Fs.append {w : World} {O : Nat → Prop} {p : Value} {s : SfS} (h : Fs w O p s) (n : List UInt8) (hn : n.length ≤ maxLen) (bv : Value) (b : List UInt8) (hR : ∀ w', Onl O w w' → Reads w' bv b) : Calls Tryd.prog 48 #[p, .string ⟨n.toArray⟩, bv] w (FsR w O p (sfAppend s n b)) := by
  obtain ⟨hw, g, m1, m2, pv, bl, vs, rfl, hf⟩ := h
  exact (append_any hf hw n hn bv b hR).mono fun e w' h => ⟨h.1, h.2.fs (hw.append n b)⟩
theorem Fs.sync {w : World} {O : Nat → Prop} {p : Value} {s : SfS} (h : Fs w O p s) (n : List UInt8) (hn : n.length ≤ maxLen) : Calls Tryd.prog 49 #[p, .string ⟨n.toArray⟩] w (FsR w O p (sfSync s n)) := by
  obtain ⟨hw, g, m1, m2, pv, bl, vs, rfl, hf⟩ := h
  exact (sync_any hf hw n hn).mono fun e w' h => ⟨h.1, h.2.fs (hw.sync n)⟩
theorem Fs.syncDir {w : World} {O : Nat → Prop} {p : Value} {s : SfS} (h : Fs w O p s) : Calls Tryd.prog 43 #[p] w (FsR w O p (sfSyncDir s)) := by
  obtain ⟨hw, g, m1, m2, pv, bl, vs, rfl, hf⟩ := h
  exact (syncDir_any hf hw).mono fun e w' h => ⟨h.1, h.2.fs hw.syncDir⟩
theorem Fs.read {w : World} {O : Nat → Prop} {p : Value} {s : SfS} (h : Fs w O p s) (n : List UInt8) (hn : n.length ≤ maxLen) : Calls Tryd.prog 44 #[p, .string ⟨n.toArray⟩] w fun e w' => ∃ v, e = .returned (.tuple #[v, .int .i64 (sfFe (sfLook n s.dir))]) ∧ Own w' w.heap.size v (sfRead s n) ∧ Below w.heap.size w w' := by
  obtain ⟨hw, g, m1, m2, pv, bl, vs, rfl, hf⟩ := h
  exact read_any hf hw n hn
theorem Fs.list {w : World} {O : Nat → Prop} {p : Value} {s : SfS} (h : Fs w O p s) : Calls Tryd.prog 22 #[p] w fun e w' => ∃ v, e = .returned v ∧ w'.ownsRow w.heap.size 9 1 v s.dir.length (s.dir.map fun p => sv p.1) ∧ Below w.heap.size w w' := by
  obtain ⟨hw, g, m1, m2, pv, bl, vs, rfl, hf⟩ := h
  exact list_any hf hw
theorem Fs.used {w : World} {O : Nat → Prop} {p : Value} {s : SfS} (h : Fs w O p s) : Calls Tryd.prog 71 #[p] w fun e w' => e = .returned (.int .i64 (sfUsed s : Int)) ∧ Below w.heap.size w w' := by
  obtain ⟨hw, g, m1, m2, pv, bl, vs, rfl, hf⟩ := h
  exact used_any hf hw
theorem fs_new (r : Int) (w : World) (h : 1 ≤ r) (h2 : r < 9223372036854775808) : Calls Tryd.prog 20 #[.int .i64 r] w fun e w' => ∃ p, e = .returned (.tuple #[p, .int .i64 0]) ∧ Fs w' (fun k => w.heap.size ≤ k ∧ k < w'.heap.size) p (sfZ r) ∧ Below w.heap.size w w' := by
  refine (new_any r w h).mono ?_
  rintro e w' ⟨he, hf, hb, hs⟩
  exact ⟨_, he, ⟨sfWf_zero h h2, _, _, _, _, _, _, rfl, hf.wider (fun k q => ⟨q.1, by omega⟩) (fun k q => q.2)⟩, hb⟩
end Go.Proofs.YtahigmjpeicemaaDoor
