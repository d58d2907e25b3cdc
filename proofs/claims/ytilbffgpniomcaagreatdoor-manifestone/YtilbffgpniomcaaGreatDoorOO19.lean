/- SFL SFB SFC SFW MS1, joined. -/
import Derived.Test.YtilbffgpniomcaaGreatDoorOO15
import Derived.Test.YtilbffgpniomcaaGreatDoorOO18
import Derived.Shelf.SlGeneric
import Derived.Shelf.SlIter.Nil
import Derived.Shelf.SortM.Plain
import Derived.Shelf.SortM.SortNone
/- slices.Sorted(maps.Keys(m)) at this program (written by mksfl.py, for one seat), and List. -/
namespace Go.Proofs.YtilbffgpniomcaaGreatDoor
open Go.Shelf Go.Sort Go.RowKit Go.Maps

def sfKeys_ren : Go.Shelf.Ren := ⟨fun | 7 => 52 | 10 => 82 | n => n, fun | 23 => 73 | 26 => 9 | 3 => 78 | 28 => 110 | 0 => 0 | 27 => 109 | 33 => 77 | 4 => 4 | n => n, fun | n => n⟩
theorem sfKeys : Go.Proofs.SlLaysZ.n7 Tryz.prog sfKeys_ren := {
  mixed := by kernel_rfl
  f7 := ⟨Tryz.f52.name, by decide, Tryz.func52.trans (congrArg some (by kernel_rfl))⟩
  f10 := ⟨Tryz.f82.name, by decide, Tryz.func82.trans (congrArg some (by kernel_rfl))⟩
  t0 := Tryz.underlying0
  a0 := Tryz.isAgg0
  z0 := Tryz.sizeOf0
  v0 := Tryz.zeroValue0
  t4 := Tryz.underlying4
  a4 := Tryz.isAgg4
  z4 := Tryz.sizeOf4
  v4 := Tryz.zeroValue4
  t23 := Tryz.underlying73
  a23 := Tryz.isAgg73
  z23 := Tryz.sizeOf73
  v23 := Tryz.zeroValue73
  t26 := Tryz.underlying9
  a26 := Tryz.isAgg9
  z26 := Tryz.sizeOf9
  v26 := Tryz.zeroValue9
  t27 := Tryz.underlying109
  a27 := Tryz.isAgg109
  z27 := Tryz.sizeOf109
  v27 := Tryz.zeroValue109
  t28 := Tryz.underlying110
  a28 := Tryz.isAgg110
  z28 := Tryz.sizeOf110
  v28 := Tryz.zeroValue110
  t33 := Tryz.underlying77
  a33 := Tryz.isAgg77
  z33 := Tryz.sizeOf77
  v33 := Tryz.zeroValue77 }
def sfSorted_ren : Go.Shelf.Ren := ⟨fun | 6 => 51 | 8 => 80 | 9 => 81 | 11 => 101 | 13 => 89 | 12 => 102 | 23 => 114 | 24 => 115 | 14 => 120 | 15 => 121 | 16 => 122 | 17 => 123 | 18 => 124 | 19 => 125 | 20 => 126 | 21 => 127 | 22 => 128 | 25 => 138 | 26 => 130 | 27 => 131 | 28 => 139 | 29 => 140 | 30 => 141 | 31 => 147 | n => n, fun | 26 => 9 | 28 => 110 | 24 => 48 | 0 => 0 | 3 => 3 | 37 => 145 | 48 => 116 | 50 => 98 | 4 => 4 | 40 => 161 | 39 => 160 | 45 => 89 | 5 => 5 | 9 => 9 | 51 => 176 | 55 => 180 | 57 => 188 | 58 => 189 | 33 => 77 | n => n, fun | n => n⟩
theorem sfSorted : Go.Proofs.SlLaysZ.n6 Tryz.prog sfSorted_ren := {
  mixed := by kernel_rfl
  f6 := ⟨Tryz.f51.name, by decide, Tryz.func51.trans (congrArg some (by kernel_rfl))⟩
  f8 := ⟨Tryz.f80.name, by decide, Tryz.func80.trans (congrArg some (by kernel_rfl))⟩
  f11 := ⟨Tryz.f101.name, by decide, Tryz.func101.trans (congrArg some (by kernel_rfl))⟩
  t0 := Tryz.underlying0
  a0 := Tryz.isAgg0
  z0 := Tryz.sizeOf0
  v0 := Tryz.zeroValue0
  t24 := Tryz.underlying48
  a24 := Tryz.isAgg48
  z24 := Tryz.sizeOf48
  v24 := Tryz.zeroValue48
  t26 := Tryz.underlying9
  a26 := Tryz.isAgg9
  z26 := Tryz.sizeOf9
  v26 := Tryz.zeroValue9
  t28 := Tryz.underlying110
  a28 := Tryz.isAgg110
  z28 := Tryz.sizeOf110
  v28 := Tryz.zeroValue110
  i26 := by kernel_rfl }
def sfSort_ren : Go.Shelf.Ren := ⟨fun | 6 => 81 | 8 => 89 | 9 => 102 | 19 => 114 | 20 => 115 | 21 => 120 | 22 => 121 | 23 => 122 | 24 => 123 | 25 => 124 | 26 => 125 | 27 => 126 | 28 => 127 | 29 => 128 | 36 => 138 | 31 => 130 | 32 => 131 | 37 => 139 | 38 => 140 | 39 => 141 | 41 => 147 | n => n, fun | 27 => 48 | 29 => 9 | 3 => 3 | 32 => 145 | 26 => 48 | 0 => 0 | 44 => 116 | 46 => 98 | 4 => 4 | 36 => 161 | 35 => 160 | 41 => 89 | 5 => 5 | 9 => 9 | 53 => 176 | 57 => 180 | 63 => 188 | 64 => 189 | n => n, fun | n => n⟩
theorem sfSort : Go.Proofs.SlLaysM.n6 Tryz.prog sfSort_ren := {
  mixed := by kernel_rfl
  f6 := ⟨Tryz.f81.name, by decide, Tryz.func81.trans (congrArg some (by kernel_rfl))⟩
  f8 := Tryz.func89.trans (congrArg some (by kernel_rfl))
  f9 := ⟨Tryz.f102.name, by decide, Tryz.func102.trans (congrArg some (by kernel_rfl))⟩
  f19 := Tryz.func114.trans (congrArg some (by kernel_rfl))
  f20 := Tryz.func115.trans (congrArg some (by kernel_rfl))
  f21 := ⟨Tryz.f120.name, by decide, Tryz.func120.trans (congrArg some (by kernel_rfl))⟩
  f22 := ⟨Tryz.f121.name, by decide, Tryz.func121.trans (congrArg some (by kernel_rfl))⟩
  f23 := ⟨Tryz.f122.name, by decide, Tryz.func122.trans (congrArg some (by kernel_rfl))⟩
  f24 := ⟨Tryz.f123.name, by decide, Tryz.func123.trans (congrArg some (by kernel_rfl))⟩
  f25 := ⟨Tryz.f124.name, by decide, Tryz.func124.trans (congrArg some (by kernel_rfl))⟩
  f26 := ⟨Tryz.f125.name, by decide, Tryz.func125.trans (congrArg some (by kernel_rfl))⟩
  f27 := ⟨Tryz.f126.name, by decide, Tryz.func126.trans (congrArg some (by kernel_rfl))⟩
  f28 := ⟨Tryz.f127.name, by decide, Tryz.func127.trans (congrArg some (by kernel_rfl))⟩
  f29 := ⟨Tryz.f128.name, by decide, Tryz.func128.trans (congrArg some (by kernel_rfl))⟩
  f31 := Tryz.func130.trans (congrArg some (by kernel_rfl))
  f32 := Tryz.func131.trans (congrArg some (by kernel_rfl))
  f36 := ⟨Tryz.f138.name, by decide, Tryz.func138.trans (congrArg some (by kernel_rfl))⟩
  f37 := ⟨Tryz.f139.name, by decide, Tryz.func139.trans (congrArg some (by kernel_rfl))⟩
  f38 := ⟨Tryz.f140.name, by decide, Tryz.func140.trans (congrArg some (by kernel_rfl))⟩
  f39 := ⟨Tryz.f141.name, by decide, Tryz.func141.trans (congrArg some (by kernel_rfl))⟩
  f41 := ⟨Tryz.f147.name, by decide, Tryz.func147.trans (congrArg some (by kernel_rfl))⟩
  t0 := Tryz.underlying0
  a0 := Tryz.isAgg0
  z0 := Tryz.sizeOf0
  v0 := Tryz.zeroValue0
  t3 := Tryz.underlying3
  a3 := Tryz.isAgg3
  z3 := Tryz.sizeOf3
  v3 := Tryz.zeroValue3
  t4 := Tryz.underlying4
  a4 := Tryz.isAgg4
  z4 := Tryz.sizeOf4
  v4 := Tryz.zeroValue4
  t5 := Tryz.underlying5
  a5 := Tryz.isAgg5
  z5 := Tryz.sizeOf5
  v5 := Tryz.zeroValue5
  t9 := Tryz.underlying9
  a9 := Tryz.isAgg9
  z9 := Tryz.sizeOf9
  v9 := Tryz.zeroValue9
  t26 := Tryz.underlying48
  a26 := Tryz.isAgg48
  z26 := Tryz.sizeOf48
  v26 := Tryz.zeroValue48
  t27 := Tryz.underlying48
  a27 := Tryz.isAgg48
  z27 := Tryz.sizeOf48
  v27 := Tryz.zeroValue48
  t29 := Tryz.underlying9
  a29 := Tryz.isAgg9
  z29 := Tryz.sizeOf9
  v29 := Tryz.zeroValue9
  t32 := Tryz.underlying145
  a32 := Tryz.isAgg145
  z32 := Tryz.sizeOf145
  v32 := Tryz.zeroValue145
  t35 := Tryz.underlying160
  a35 := Tryz.isAgg160
  z35 := Tryz.sizeOf160
  v35 := Tryz.zeroValue160
  t36 := Tryz.underlying161
  a36 := Tryz.isAgg161
  z36 := Tryz.sizeOf161
  v36 := Tryz.zeroValue161
  t41 := Tryz.underlying89
  a41 := Tryz.isAgg89
  z41 := Tryz.sizeOf89
  v41 := Tryz.zeroValue89
  t44 := Tryz.underlying116
  a44 := Tryz.isAgg116
  z44 := Tryz.sizeOf116
  v44 := Tryz.zeroValue116
  t46 := Tryz.underlying98
  a46 := Tryz.isAgg98
  z46 := Tryz.sizeOf98
  v46 := Tryz.zeroValue98
  t53 := Tryz.underlying176
  a53 := Tryz.isAgg176
  z53 := Tryz.sizeOf176
  v53 := Tryz.zeroValue176
  t57 := Tryz.underlying180
  a57 := Tryz.isAgg180
  z57 := Tryz.sizeOf180
  v57 := Tryz.zeroValue180
  t63 := Tryz.underlying188
  a63 := Tryz.isAgg188
  z63 := Tryz.sizeOf188
  v63 := Tryz.zeroValue188
  t64 := Tryz.underlying189
  a64 := Tryz.isAgg189
  z64 := Tryz.sizeOf189
  v64 := Tryz.zeroValue189 }
theorem sfSorts (m : Nat) : AnyZ.SortsIn Tryz.prog sfSorted_ren Fence.wide m :=
  ⟨fun blk off cap ss W hH hblk hsz => callsIn_wide.2 (AnyM.slices_Sort_string sfSort blk off cap ss W hH hblk hsz),
   fun p cap W => callsIn_wide.2 (AnyM.slices_Sort_string_none sfSort p cap W)⟩
theorem sf_keys (mb : Option Nat) (W : World) : CallsIn Fence.wide 5 Tryz.prog 52 #[.map mb] W fun e w' => e = .returned (.func (.func 82) #[] #[.pointer (some ⟨W.heap.size, 0, none⟩)]) ∧ w' = W.alloc (.cells #[.map mb] 73) :=
  AnyZ.keys_in sfKeys Fence.wide 5 trivial rfl mb W
set_option maxHeartbeats 1000000 in
theorem sf_sorted {H : Type} (b nn : Nat) (D0 : DataW H) (R : Value → Option (DataW H × List MemPlace)) (w : World) (hown : w.ownsMap Tryz.prog 9 R b nn D0) (hmax : Maps.size D0 ≤ maxLen) (hbytes : Maps.size D0 * 16 ≤ 140737488355328) :
    CallsIn Fence.wide 5 Tryz.prog 51 #[.func (.func 82) #[] #[.pointer (some ⟨w.heap.size, 0, none⟩)]] (w.alloc (.cells #[.map (some b)] 73)) fun e w' => ∃ (v : Value) (ss : List (List UInt8)), e = .returned v ∧ ss.Perm (strKeys D0) ∧
      w'.ownsRow (w.alloc (.cells #[.map (some b)] 73)).heap.size 9 1 v ss.length ((ss.mergeSort (fun x y => decide (x ≤ y))).map encStr) ∧ (v = .slice none 0 0 ↔ ss = []) ∧ Below (w.alloc (.cells #[.map (some b)] 73)).heap.size (w.alloc (.cells #[.map (some b)] 73)) w' := by
  have hbl := hown.lt
  have hseq : SeqGives Fence.wide 2 Tryz.prog 82 #[.pointer (some ⟨w.heap.size, 0, none⟩)] encStr (fun ss => ss.Perm (strKeys D0)) (Maps.size D0) (w.alloc (.cells #[.map (some b)] 73)) :=
    AnyZ.keys_gives (ρ := sfKeys_ren) { sfKeys with } Fence.wide _ trivial rfl (by omega) w.heap.size b nn D0 _ (by simp) (by simp) (by
      obtain ⟨es, clock, hb, Ft, hs, hD⟩ := hown
      exact ⟨es, clock, (Below.heap_alloc _ _ b hbl).trans hb, Ft, hs, hD⟩)
  exact AnyZ.sorted_in sfSorted Fence.wide 5 trivial trivial trivial trivial rfl (by omega) (sfSorts _) (enters_of Tryz.func81 (by kernel_rfl) rfl) 82 #[.pointer (some ⟨w.heap.size, 0, none⟩)] trivial (enters_of Tryz.func82 (by kernel_rfl) rfl) _ _ hmax hbytes _ hseq
set_option maxHeartbeats 1000000 in
theorem list_map {H : Type} (g b nn : Nat) (r : Int) (D0 : DataW H) (R : Value → Option (DataW H × List MemPlace)) (w : World) (hown : w.ownsMap Tryz.prog 9 R b nn D0) (hmax : Maps.size D0 ≤ maxLen) (hbytes : Maps.size D0 * 16 ≤ 140737488355328)
    (c0 : w.cell? ⟨g, 0, none⟩ = some (.int .i64 r)) (h1 : 1 ≤ r) (c1 : w.cell? ⟨g, 1, none⟩ = some (.map (some b))) :
    Calls Tryz.prog 19 #[.pointer (some ⟨g, 0, none⟩)] w fun e w' => ∃ (v : Value) (ss : List (List UInt8)), e = .returned v ∧ ss.Perm (strKeys D0) ∧
      w'.ownsRow w.heap.size 9 1 v ss.length ((ss.mergeSort (fun x y => decide (x ≤ y))).map encStr) ∧ Below w.heap.size w w' := by
  refine (callsIn_wide (n := 6)).1 ?_
  have hfK : Fence.wide.fn 52 := trivial
  have hfS : Fence.wide.fn 51 := trivial
  have hfM : Fence.wide.fn 30 := trivial
  have hmd : CallsIn Fence.wide 5 Tryz.prog 30 #[.pointer (some ⟨g, 0, none⟩)] w fun e w' => e = .returned (.bool true) ∧ w' = w := callsIn_wide.2 (made_cell w c0 h1)
  refine callsIn_of_wp Tryz.func19 rfl trivial ?_ rfl
  simp only [Tryz.ntmps19, List.size_toArray, List.length_cons, List.length_nil, Nat.reduceAdd, Nat.reduceSub, Array.replicate_succ, Array.replicate_zero, List.push_toArray, List.append_toArray, List.nil_append, List.cons_append]
  gi_wp2_with (first
    | (gi_at_call 30; refine hmd.mono ?_; rintro e w' ⟨rfl, hw'⟩; subst w')
    | (gi_at_call 52; refine (sf_keys _ _).mono ?_; rintro e w' ⟨rfl, hw'⟩; subst w')
    | (gi_at_call 51; refine (sf_sorted b nn D0 R w hown hmax hbytes).mono ?_; rintro e w' ⟨v, ss, rfl, hS, hrow, hnil, hb⟩))
  go_ret
  exact ⟨v, ss, rfl, hS, ownsRow_base_a hrow (by simp), ((Below.refl _ w).alloc (Nat.le_refl _) _).trans (hb.mono (by simp))⟩
end Go.Proofs.YtilbffgpniomcaaGreatDoor

/- A file system: List; one map into another. -/
namespace Go.Proofs.YtilbffgpniomcaaGreatDoor
open Go.RowKit Go.Maps Go.Sort

theorem bb_le : ∀ (a b : List UInt8), bytesBefore a b = true → a ≤ b
  | [], b, _ => by simp
  | _ :: _, [], h => by simp [bytesBefore] at h
  | x :: a, y :: b, h => by
    simp only [bytesBefore, Bool.or_eq_true, decide_eq_true_eq, Bool.and_eq_true, beq_iff_eq] at h
    rcases h with h | ⟨rfl, h⟩
    · exact List.le_of_lt (List.cons_lt_cons_iff.2 (.inl h))
    · exact List.cons_le_cons_iff.2 (.inr ⟨rfl, bb_le a b h⟩)
def sv (s : List UInt8) : Value := .string ⟨s.toArray⟩
theorem strKeys_sf (bl : Nat → Nat) (l : List (List UInt8 × Nat)) : strKeys (sfD bl l) = l.map (·.1) := by
  show (l.map (sfE bl)).map (fun p => strOf p.1) = _
  rw [List.map_map]
  rfl
theorem list_any {w : World} {O : Nat → Prop} {g m1 m2 : Nat} {pv : Value} {bl : Nat → Nat} {vs : Nat → Value} {s : SfS} (h : FsAt w O g m1 m2 pv bl vs s) (hw : SfWf s) :
    Calls Tryz.prog 19 #[.pointer (some ⟨g, 0, none⟩)] w fun e w' => ∃ v, e = .returned v ∧ w'.ownsRow w.heap.size 9 1 v s.dir.length (s.dir.map fun p => sv p.1) ∧ Below w.heap.size w w' := by
  have hdl := hw.dl
  have hsz := sfD_size bl s.dir
  refine (list_map g m1 s.dir.length s.room (sfD bl s.dir) ptrE w h.h1 (by rw [hsz]; simp only [maxLen]; omega) (by rw [hsz]; omega) h.c0 hw.r1 h.c1).mono ?_
  rintro e w' ⟨v, ss, rfl, hS, hrow, hb⟩
  rw [strKeys_sf] at hS
  have hl : ss.length = s.dir.length := by rw [hS.length_eq, List.length_map]
  have hms : ss.mergeSort (fun x y => decide (x ≤ y)) = s.dir.map (·.1) := by
    have := mergeSort_of_perm hS
    unfold leB at this
    rw [this]
    refine List.mergeSort_of_pairwise ?_
    rw [List.pairwise_map]
    exact h.h1.apart.imp fun {a b} q => by simpa using bb_le _ _ q
  rw [hms, List.map_map, hl] at hrow
  exact ⟨v, rfl, hrow, hb⟩
theorem copyM_any {w : World} {m1 m2 : Nat} {bl : Nat → Nat} {l : List (List UInt8 × Nat)} (h1 : SfMap w m1 bl []) (h2 : SfMap w m2 bl l) (hne : m1 ≠ m2) (hl : l.length < maxLen) :
    Calls Tryz.prog 60 #[.map (some m1), .map (some m2)] w fun e w' => e = .returned (.tuple #[]) ∧ SfMap w' m1 bl l ∧ Onl (fun k => k = m1) w w' := by
  have hlt := World.ownsMap.lt h1
  have HC : Hid (Canon (sfD bl l)) := World.ownsMap.canon h2 keyedS
  have H1 : Hid (SfMap w m1 bl []) := h1
  clear h1
  go_enter Tryz.func60, Tryz.ntmps60
  go_wp2_with (at_range; refine wpList_range_own _ rfl _ 73 rfl 9 78 keyedS Tryz.underlying73 ptrE m2 l.length (sfD bl l) rfl h2 ?_; intro w0 hrg0 hg0 hs0)
  go_frame
  have HR0 : Hid (w0.ranges Tryz.prog 9 ptrE m2 w.heap.size l.length (sfD bl l) (Maps.has (sfD bl l)) (Maps.size (sfD bl l))) := hrg0
  have HO0 : Hid (Onl (fun k => k = m1) w w0) := Onl.grown hg0 (fun k hk => by cases hk)
  have H10 : Hid (SfMap w0 m1 bl []) := H1.out.keep (hg0.block m1 hlt (by simp))
  clear hrg0 hg0 hs0 h2 H1
  go_loopw [4] (fun _ wr => ∃ left cnt l1, Hid (wr.ranges Tryz.prog 9 ptrE m2 w.heap.size l.length (sfD bl l) left cnt) ∧ Hid (SfMap wr m1 bl l1) ∧ Hid (Agree (sfD bl l1) (sfD bl l) left) ∧ Hid (l1.length + cnt ≤ l.length) ∧ Hid (Onl (fun k => k = m1) w wr)) (fun _ wr => wr.rangeLeft m2 w.heap.size)
  case atStart => exact ⟨_, _, [], HR0, H10, agree_start _, by show [].length + Maps.size (sfD bl l) ≤ _; rw [sfD_size]; simp, HO0⟩
  case round =>
    obtain ⟨left, cnt, l1, HR, H1, HA, HN, HO⟩ := hrel
    go_wp2_with (at_next; refine wpList_next_sf rfl _ rfl m2 w.heap.size l.length bl l left cnt rfl HR.out ?_ ?_)
    · intro hl0
      have HE : Hid (sfD bl l1 = sfD bl l) := agree_end HA.out hl0 (World.ownsMap.canon H1.out keyedS) HC.out
      clear hl0 HR HA
      go_wp2_with fail
      refine bodyPost_end (results_none rfl _ _ _) rfl ?_
      exact ⟨rfl, .of H1.out HE.out, HO.out⟩
    · intro nm i w1 cnt1 hnl hlook hleft hrg1 hlt1 hg1 hs1 hen
      have hm1 : SfMap w1 m1 bl l1 := H1.out.keep (hg1.block m1 (by have := HO.out.size; omega) (by simp; omega))
      have hn1 : l1.length < maxLen := by have := HN.out; omega
      have k2 := keyS nm hnl
      have HR1 : Hid (w1.ranges Tryz.prog 9 ptrE m2 w.heap.size l.length (sfD bl l) (fun z => left z && !z.sameKey (.string nm)) cnt1) := hrg1
      have HO1 : Hid (Onl (fun k => k = m1) w w1) := ⟨hg1.os.trans HO.out.os, hg1.tape.trans HO.out.tape, hg1.output.trans HO.out.output, Nat.le_trans HO.out.size hg1.size, fun k hk ho => (hg1.block k (Nat.lt_of_lt_of_le hk HO.out.size) (by simp; omega)).trans (HO.out.block k hk ho)⟩
      have HLK : Hid (sfLook nm l = some i) := hlook
      have HLT : Hid (cnt1 < cnt) := hlt1
      clear hrg1 hlt1 hg1 hs1 hlook hleft hnl
      go_wp2_with (at_mapUpdate; refine wpList_mapUpdate_in _ rfl _ _ _ 73 rfl 9 78 keyedS Tryz.underlying73 ptrE m1 l1.length _ rfl hm1 hn1 _ _ _ rfl rfl k2 (.lit (.int .i64 (bl i : Int))) [] rfl ?_; intro w2 hown2 hturn2)
      go_frame
      have H2 : Hid (SfMap w2 m1 bl (sfPut (nm, i) l1)) := .of hown2 (sfD_put bl (nm, i) l1)
      have HR2 : Hid (w2.ranges Tryz.prog 9 ptrE m2 w.heap.size l.length (sfD bl l) (fun z => left z && !z.sameKey (.string nm)) cnt1) := HR1.out.kept hturn2.grown (by simp; omega) (by simp; omega)
      have HO2 : Hid (Onl (fun k => k = m1) w w2) := HO1.out.then (turned_only hturn2)
      have HA2 : Hid (Agree (sfD bl (sfPut (nm, i) l1)) (sfD bl l) (fun z => left z && !z.sameKey (.string nm))) := by
        have := agree_step HA.out (World.ownsMap.isMap H1.out) (kl := .string nm) (d := .lit (.int .i64 (bl i : Int))) trivial (fun zd => by rw [sfD_at, HLK.out])
        have e := sfD_put bl (nm, i) l1
        rw [← e]
        exact this
      have HN2 : Hid ((sfPut (nm, i) l1).length + cnt1 ≤ l.length) := by
        have h1 := sfPut_le (nm, i) l1
        have h2 := HN.out
        have h3 := HLT.out
        show _ ≤ _
        omega
      clear hown2 hturn2
      go_roundw
      case rel => exact ⟨_, _, _, HR2, H2, HA2, HN2, HO2⟩
      case measure => rw [HR2.out.left_eq, HR.out.left_eq]; exact HLT.out
end Go.Proofs.YtilbffgpniomcaaGreatDoor

/- A file system: Crash. -/
namespace Go.Proofs.YtilbffgpniomcaaGreatDoor
open Go.RowKit Go.Maps Go.Sort

/-- Numbers that a slice reads. -/
def KReads (w : World) (v : Value) (ks : List Int) : Prop := ∃ a cap, v = .slice a ks.length cap ∧ ks.length ≤ maxLen ∧ (ks = [] ∨ ∃ b off, a = some ⟨b, off, none⟩ ∧ b < w.heap.size ∧ ∀ j (h : j < ks.length), w.cell? ⟨b, off + j, none⟩ = some (.int .i64 ks[j]))
theorem KReads.keepB {w w' : World} {v : Value} {l : List Int} (h : KReads w v l) (hk : ∀ k, v.ownBlock = some k → k < w.heap.size → w'.heap[k]? = w.heap[k]?) (hs : w.heap.size ≤ w'.heap.size) : KReads w' v l := by
  obtain ⟨a, cap, rfl, h1, h2⟩ := h
  refine ⟨a, cap, rfl, h1, ?_⟩
  rcases h2 with h2 | ⟨b, off, rfl, h3, h4⟩
  · exact .inl h2
  · exact .inr ⟨b, off, rfl, by omega, fun j hj => (World.cell?_of_block (hk b rfl h3)).trans (h4 j hj)⟩
theorem wpList_clear_sf {w : World} {ops : Array Oper} {rest : List Oper} {o : Oper} {a : Act} {Q : Exit → Act → World → Prop} (hg : o.guard = none) (m : Operand) (hop : o.op = Op.call { callee := Callee.builtin Builtin.clear, args := #[m], argTypes := #[73] }) (b : Nat) (bl : Nat → Nat) (l : List (List UInt8 × Nat))
    (hm : a.eval m = .map (some b)) (h : SfMap w b bl l) (hK : ∀ w', SfMap w' b bl [] → w.mapTurned w' b → wpList Tryz.prog ops Q rest (a.put o.dst (.tuple #[])) w') : wpList Tryz.prog ops Q (o :: rest) a w := by
  refine wpList_plain hg fun K' hK' => ?_
  obtain ⟨w', hrun, r1, r2⟩ := h.clear o.type
  unfold Oper.wp
  simp [execOp, hop, resolve, invoke, builtin, hm, hrun, Result.andThen]
  exact hK' _ _ (hK w' r1 r2)
theorem sfSettle_min (s : SfS) (k : Nat) : sfSettle s k = sfSettle s (min k s.pend.length) := by
  unfold sfSettle
  rcases Nat.le_total k s.pend.length with h | h
  · rw [Nat.min_eq_left h]
  · rw [Nat.min_eq_right h, List.take_of_length_le h, List.take_length]
theorem row_str {w : World} {base n : Nat} {a : Option Addr} {cap : Nat} {l : List (List UInt8)} (h : w.ownsRow base 9 1 (.slice a n cap) l.length (l.map sv)) {j : Nat} (hj : j < l.length) : ∃ b, a = some ⟨b, 0, none⟩ ∧ w.cell? ⟨b, j, none⟩ = some (.string ⟨(l[j]).toArray⟩) := by
  have hc := @World.ownsRow.cells w base 9 1 (.slice a n cap) l.length (l.map sv) h
  rcases h.2 with ⟨_, h0⟩ | ⟨g, c, cur, hv, _⟩
  · omega
  · simp at hv
    obtain ⟨rfl, _⟩ := hv
    refine ⟨g, rfl, ?_⟩
    have := hc (g := g) rfl j (sv l[j]) (by simp [hj])
    have ea : (⟨g, 0, none⟩ : Addr).add j = ⟨g, j, none⟩ := by simp [Addr.add]; omega
    rw [ea] at this
    exact this
theorem row_form {w : World} {base n : Nat} {e : TypeId} {v : Value} {xs : List Value} (h : w.ownsRow base e 1 v n xs) : ∃ a c, v = .slice a n c := by
  rcases h.2 with ⟨h1, h2⟩ | ⟨g, cap, cur, hv, _⟩
  · exact ⟨none, 0, by rw [h1, h2]⟩
  · exact ⟨_, cap, hv⟩
theorem row_str' {w : World} {base n N : Nat} {a : Option Addr} {cap : Nat} {l : List (List UInt8 × Nat)} (h : w.ownsRow base 9 1 (.slice a n cap) N (l.map fun p => sv p.1)) (hN : N = l.length) {j : Nat} (hj : j < N) : ∃ b, a = some ⟨b, 0, none⟩ ∧ w.cell? ⟨b, j, none⟩ = some (.string ⟨((l[j]'(hN ▸ hj)).1).toArray⟩) := by
  subst hN
  have e : (l.map fun p => sv p.1) = (l.map (·.1)).map sv := by rw [List.map_map]; rfl
  have el : (l.map (·.1)).length = l.length := List.length_map ..
  rw [e, ← el] at h
  obtain ⟨b, hb, hc⟩ := row_str h (j := j) (by rw [el]; exact hj)
  exact ⟨b, hb, by rw [hc]; simp⟩
theorem row_keepB {w w' : World} {base n : Nat} {e : TypeId} {v : Value} {xs : List Value} (h : w.ownsRow base e 1 v n xs) (hk : ∀ k, base ≤ k → k < w.heap.size → w'.heap[k]? = w.heap[k]?) : w'.ownsRow base e 1 v n xs := by
  have hlt := World.ownsRow.lt h
  obtain ⟨h1, h2⟩ := h
  refine ⟨h1, ?_⟩
  rcases h2 with h2 | ⟨g, cap, cur, rfl, hg, hw, r⟩
  · exact .inl h2
  · exact .inr ⟨g, cap, cur, rfl, hg, (hk g hg (hlt g rfl).2).trans hw, r⟩
theorem drop_head {α : Type} {l : List α} {j : Nat} (hj : j < l.length) : l.drop j = l[j] :: l.drop (j + 1) := (List.getElem_cons_drop hj).symm
theorem headD_drop (ks : List Int) (j : Nat) : (ks.drop j).headD 0 = if h : j < ks.length then ks[j] else 0 := by
  split
  · rename_i h; rw [drop_head h]; rfl
  · rw [List.drop_eq_nil_of_le (by omega)]; rfl
theorem sfCuts_step {dir : List (List UInt8 × Nat)} {ks : List Int} {fls : List (List UInt8 × Nat)} {j : Nat} (hj : j < dir.length) : sfCuts (dir.drop j) (ks.drop j) fls = sfCuts (dir.drop (j + 1)) (ks.drop (j + 1)) (fls.set dir[j].2 (sfCut (fls.getD dir[j].2 ([], 0)) ((ks.drop j).headD 0))) := by
  rw [drop_head hj, sfCuts, List.tail_drop]
def sfFlOk (fls : List (List UInt8 × Nat)) : Prop := ∀ (i : Nat) (f : List UInt8 × Nat), fls[i]? = some f → f.2 ≤ f.1.length ∧ f.1.length ≤ 1048576
theorem sfFlOk.cut {fls : List (List UInt8 × Nat)} (h : sfFlOk fls) (i : Nat) (k : Int) : sfFlOk (fls.set i (sfCut (fls.getD i ([], 0)) k)) := by
  intro j f hj
  by_cases e : i = j
  · subst e
    rcases Nat.lt_or_ge i fls.length with hi | hi
    · rw [List.getElem?_set_self hi] at hj
      obtain rfl : sfCut (fls.getD i ([], 0)) k = f := by simpa using hj
      have hg : fls[i]? = some (fls.getD i ([], 0)) := by rw [List.getD_eq_getElem?_getD, List.getElem?_eq_getElem hi]; rfl
      have := h i _ hg
      unfold sfCut
      simp only [List.length_take]
      omega
    · rw [List.getElem?_eq_none (by simpa using hi)] at hj; cases hj
  · rw [List.getElem?_set_ne e] at hj; exact h j f hj
theorem sfIns_mem {x p : List UInt8 × Nat} : ∀ {l : List (List UInt8 × Nat)}, p ∈ sfIns x l → p = x ∨ p ∈ l
  | [], h => by simp [sfIns] at h; exact .inl h
  | y :: r, h => by
    unfold sfIns at h
    split at h
    · rcases List.mem_cons.1 h with h | h
      · exact .inl h
      · exact .inr h
    · rcases List.mem_cons.1 h with h | h
      · exact .inr (by simp [h])
      · rcases sfIns_mem h with h | h
        · exact .inl h
        · exact .inr (by simp [h])
theorem sfDel_mem {s : List UInt8} {p : List UInt8 × Nat} {l : List (List UInt8 × Nat)} (h : p ∈ sfDel s l) : p ∈ l := (List.mem_filter.1 h).1
theorem sfDo_ok {N : Nat} {l : List (List UInt8 × Nat)} {a : SfA} (hl : ∀ p ∈ l, p.2 < N ∧ p.1.length ≤ 32) (ha : (∀ i, a.file = some i → i < N) ∧ a.gone.length ≤ 32 ∧ a.name.length ≤ 32) : ∀ p ∈ sfDo l a, p.2 < N ∧ p.1.length ≤ 32 := by
  intro p hp
  unfold sfDo at hp
  split at hp
  · exact hl p (sfDel_mem hp)
  · rename_i i hf
    rcases sfIns_mem hp with rfl | hp
    · exact ⟨ha.1 i hf, ha.2.2⟩
    · exact hl p (sfDel_mem (sfDel_mem hp))
theorem sfDo_fold_ok {N : Nat} : ∀ {P : List SfA} {l : List (List UInt8 × Nat)}, (∀ p ∈ l, p.2 < N ∧ p.1.length ≤ 32) → (∀ a ∈ P, (∀ i, a.file = some i → i < N) ∧ a.gone.length ≤ 32 ∧ a.name.length ≤ 32) → ∀ p ∈ P.foldl sfDo l, p.2 < N ∧ p.1.length ≤ 32
  | [], _, hl, _ => hl
  | a :: P, l, hl, hP => by
    rw [List.foldl_cons]
    exact sfDo_fold_ok (sfDo_ok hl (hP a (by simp))) (fun b hb => hP b (by simp [hb]))
set_option maxRecDepth 100000 in
set_option maxHeartbeats 8000000 in
theorem crash_any {w : World} {O : Nat → Prop} {g m1 m2 : Nat} {pv : Value} {bl : Nat → Nat} {vs : Nat → Value} {s : SfS} (h : FsAt w O g m1 m2 pv bl vs s) (hw : SfWf s) (n : Int) (kv : Value) (ks : List Int) (hK : ∀ w', Onl O w w' → KReads w' kv ks) :
    Calls Tryz.prog 27 #[.pointer (some ⟨g, 0, none⟩), .int .i64 n, kv] w fun e w' => e = .returned (.int .i64 0) ∧ FsTo w O g m1 m2 (sfCrash s n ks) w' := by
  have HF : Hid (FsAt w O g m1 m2 pv bl vs s) := h
  have HW : Hid (SfWf s) := hw
  have HKR : Hid (∀ w', Onl O w w' → KReads w' kv ks) := hK
  obtain ⟨ka, kc, rfl, hkl, -⟩ := hK w (Onl.refl _ _)
  have hkl' : (ks.length : Int) ≤ 9223372036854775807 := by simp only [maxLen] at hkl; omega
  clear hK
  have c0 := h.c0
  have h1 := hw.r1
  obtain ⟨pa, pc, hpv, -⟩ := h.hp.form
  have c3 := h.c3
  rw [hpv] at c3
  have hmx : ∀ ts t w', (Builtin.max_ ts t #[.int .i64 n, .int .i64 0]).run Tryz.prog w' = .ok (.int .i64 (((max n 0).toNat : Nat) : Int)) w' := by
    intro ts t w'
    simp only [Builtin.max_]
    by_cases hk : n < 0
    · have : (max n 0).toNat = 0 := by omega
      simp [Builtin.max2, this]; omega
    · have : (((max n 0).toNat : Nat) : Int) = n := by omega
      rw [this]
      simp [Builtin.max2]; omega
  have hmn : ∀ ts t w', (Builtin.min_ ts t #[.int .i64 (((max n 0).toNat : Nat) : Int), .int .i64 (s.pend.length : Int)]).run Tryz.prog w' = .ok (.int .i64 ((min (max n 0).toNat s.pend.length : Nat) : Int)) w' := by
    intro ts t w'
    simp [Builtin.min_, Builtin.min2]
    omega
  unfold sfCrash
  generalize hq : (max n 0).toNat = K at *
  clear hq
  rw [sfSettle_min]
  have hst := settle_any h hw (min K s.pend.length) (Nat.min_le_right _ _)
  have hkp : min K s.pend.length ≤ s.pend.length := Nat.min_le_right _ _
  generalize hq : min K s.pend.length = k at *
  clear hq
  obtain ⟨S1, HS1⟩ := hid_ex (sfSettle s k)
  rw [← HS1.out] at hst ⊢
  clear h hw hpv
  go_enter Tryz.func27, Tryz.ntmps27
  go_wp2_with (go_at_call 30; refine (made_cell _ c0 h1).mono ?_; rintro e w' ⟨rfl, hw'⟩; subst w')
  refine hst.mono ?_
  rintro e w2 ⟨rfl, hf2, ho2⟩
  have HF2 : Hid (FsAt w2 O g m1 m2 (.slice none 0 0) bl vs S1) := hf2
  have HO2 : Hid (Onl O w w2) := ho2
  have d1 := HF2.out.c1
  have hm1 := HF2.out.h1
  clear hf2 ho2 hst c3 hmx hmn c0
  go_wp2_with (refine wpList_clear_sf rfl _ rfl m1 bl S1.dir rfl hm1 ?_; intro w3 hm3 hturn3)
  go_frame
  have HO3 : Hid (Onl O w w3) := HO2.out.then ((turned_only hturn3).mono fun k e => e ▸ HF2.out.o1)
  have HF3 : Hid (FsAt w3 O g m1 m2 (.slice none 0 0) bl vs { S1 with dir := [] }) := HF2.out.set1 hturn3.grown.size (fun k hk hne => hturn3.grown.block k (HF2.out.lt k hk) (by simpa using hne)) hm3
  have HS1O : Hid (S1.old.length ≤ 256) := by
    show S1.old.length ≤ 256
    rw [HS1.out]; exact HW.out.ln k
  clear hm3 hturn3 hm1 d1 HF2 HO2
  have d1 := HF3.out.c1
  have d2 := HF3.out.c2
  have HCP : Hid (Calls Tryz.prog 60 #[.map (some m1), .map (some m2)] w3.drew fun e w' => e = .returned (.tuple #[]) ∧ FsAt w' O g m1 m2 (.slice none 0 0) bl vs { S1 with dir := S1.old } ∧ Onl O w3 w') := by
    have q1 : SfMap w3.drew m1 bl [] := HF3.out.h1
    have q2 : SfMap w3.drew m2 bl S1.old := HF3.out.h2
    refine (copyM_any q1 q2 HF3.out.ne (by have := HS1O.out; simp only [maxLen]; omega)).mono ?_
    rintro e w' ⟨he, h1, h2⟩
    exact ⟨he, FsAt.set1 (s := { S1 with dir := [] }) HF3.out h2.size (fun k hk hne => h2.block k (HF3.out.lt k hk) hne) h1, ⟨h2.os, h2.tape, h2.output, h2.size, fun k hk ho => h2.block k hk (fun e => ho (e ▸ HF3.out.o1))⟩⟩
  refine wp_region_noPanic ?_
  refine wp_region_S 8 (fun _ => True) (fun w' => w'.cell? ⟨g, 1, none⟩ = some (.map (some m1)) ∧ w'.cell? ⟨g, 2, none⟩ = some (.map (some m2))) (by kernel_rfl) ?_ ?_ (fun hHeld => ?_)
  · trivial
  · exact ⟨d1, d2⟩
  refine wpAnyS_take (i := 0) (v := .pointer (some ⟨g, 0, none⟩)) _ rfl (by kernel_rfl) (by kernel_rfl) (by kernel_rfl) (by kernel_rfl) (by kernel_rfl) rfl (fun _ _ _ h => h) (Or.inl ⟨by rfl, ?_⟩) hHeld (fun hHeld => ?_)
  · (intro w1 hSw; have hSw := hSw.1; (try dsimp only at hSw); go_simp)
  simp only [List.getElem_toArray, List.getElem_cons_zero, Act.put, List.setIfInBounds_toArray, List.set_cons_zero, List.set_cons_succ]
  refine wpAnyS_take (i := 1) (v := .pointer (some ⟨g, 0, none⟩)) _ rfl (by kernel_rfl) (by kernel_rfl) (by kernel_rfl) (by kernel_rfl) (by kernel_rfl) rfl (fun _ _ _ h => h) (Or.inl ⟨by rfl, ?_⟩) hHeld (fun hHeld => ?_)
  · (intro w1 hSw; have hSw := hSw.1; (try dsimp only at hSw); go_simp)
  simp only [List.getElem_toArray, List.getElem_cons_succ, List.getElem_cons_zero, Act.put, List.setIfInBounds_toArray, List.set_cons_zero, List.set_cons_succ]
  refine wpAnyS_take (i := 2) (v := .pointer (some ⟨g, 1, none⟩)) _ rfl (by kernel_rfl) (by kernel_rfl) (by kernel_rfl) (by kernel_rfl) (by kernel_rfl) rfl (fun _ _ _ h => h) (Or.inl ⟨by rfl, ?_⟩) hHeld (fun hHeld => ?_)
  · (intro w1 hSw; have hSw := hSw.1; (try dsimp only at hSw); go_simp)
  simp only [List.getElem_toArray, List.getElem_cons_succ, List.getElem_cons_zero, Act.put, List.setIfInBounds_toArray, List.set_cons_zero, List.set_cons_succ]
  refine wpAnyS_take (i := 3) (v := .map (some m1)) true rfl (by kernel_rfl) (by kernel_rfl) (by kernel_rfl) (by kernel_rfl) (by kernel_rfl) (by kernel_rfl) (fun _ _ _ h => h) (Or.inl ⟨by rfl, ?_⟩) hHeld (fun hHeld => ?_)
  · (intro w1 hSw; have hSw2 := hSw.2 rfl; have hSw := hSw.1; (try dsimp only at hSw hSw2); go_simp)
  simp only [List.getElem_toArray, List.getElem_cons_succ, List.getElem_cons_zero, Act.put, List.setIfInBounds_toArray, List.set_cons_zero, List.set_cons_succ]
  refine wpAnyS_take (i := 4) (v := .pointer (some ⟨g, 0, none⟩)) _ rfl (by kernel_rfl) (by kernel_rfl) (by kernel_rfl) (by kernel_rfl) (by kernel_rfl) rfl (fun _ _ _ h => h) (Or.inl ⟨by rfl, ?_⟩) hHeld (fun hHeld => ?_)
  · (intro w1 hSw; have hSw := hSw.1; (try dsimp only at hSw); go_simp)
  simp only [List.getElem_toArray, List.getElem_cons_succ, List.getElem_cons_zero, Act.put, List.setIfInBounds_toArray, List.set_cons_zero, List.set_cons_succ]
  refine wpAnyS_take (i := 5) (v := .pointer (some ⟨g, 0, none⟩)) _ rfl (by kernel_rfl) (by kernel_rfl) (by kernel_rfl) (by kernel_rfl) (by kernel_rfl) rfl (fun _ _ _ h => h) (Or.inl ⟨by rfl, ?_⟩) hHeld (fun hHeld => ?_)
  · (intro w1 hSw; have hSw := hSw.1; (try dsimp only at hSw); go_simp)
  simp only [List.getElem_toArray, List.getElem_cons_succ, List.getElem_cons_zero, Act.put, List.setIfInBounds_toArray, List.set_cons_zero, List.set_cons_succ]
  refine wpAnyS_take (i := 6) (v := .pointer (some ⟨g, 2, none⟩)) _ rfl (by kernel_rfl) (by kernel_rfl) (by kernel_rfl) (by kernel_rfl) (by kernel_rfl) rfl (fun _ _ _ h => h) (Or.inl ⟨by rfl, ?_⟩) hHeld (fun hHeld => ?_)
  · (intro w1 hSw; have hSw := hSw.1; (try dsimp only at hSw); go_simp)
  simp only [List.getElem_toArray, List.getElem_cons_succ, List.getElem_cons_zero, Act.put, List.setIfInBounds_toArray, List.set_cons_zero, List.set_cons_succ]
  refine wpAnyS_take (i := 7) (v := .map (some m2)) true rfl (by kernel_rfl) (by kernel_rfl) (by kernel_rfl) (by kernel_rfl) (by kernel_rfl) (by kernel_rfl) (fun _ _ _ h => h) (Or.inl ⟨by rfl, ?_⟩) hHeld (fun hHeld => ?_)
  · (intro w1 hSw; have hSw2 := hSw.2 rfl; have hSw := hSw.1; (try dsimp only at hSw hSw2); go_simp)
  simp only [List.getElem_toArray, List.getElem_cons_succ, List.getElem_cons_zero, Act.put, List.setIfInBounds_toArray, List.set_cons_zero, List.set_cons_succ]
  refine wpAnyS_ready (i := 8) (by kernel_rfl) rfl (fun K hK => ?_)
  go_simp
  refine HCP.out.mono ?_
  rintro e w4 ⟨rfl, hf4, ho4⟩
  have HO4 : Hid (Onl O w w4) := HO3.out.then ho4
  obtain ⟨S2, HS2⟩ := hid_ex ({ S1 with dir := S1.old } : SfS)
  have HF4 : Hid (FsAt w4 O g m1 m2 (.slice none 0 0) bl vs S2) := by show FsAt w4 O g m1 m2 (.slice none 0 0) bl vs S2; rw [HS2.out]; exact hf4
  clear hf4 ho4 HCP HO3 HF3 d1 d2
  go_simp
  refine hK.out _ _ ⟨?_, fun hno => absurd hno (by decide)⟩ (fun hHeld => ?_)
  · trivial
  clear hK K
  refine wpAnyS_done (by kernel_rfl) ?_ _
  refine NoPanic.normal ?_
  have HW2 : Hid (SfWf S2) := by
    show SfWf S2
    have q := HW.out
    have hfd : ∀ p ∈ (s.pend.take k).foldl sfDo s.old, p.2 < s.fls.length ∧ p.1.length ≤ 32 := sfDo_fold_ok q.oi (fun a ha => q.pi a (List.mem_of_mem_take ha))
    have e1 : S1 = sfSettle s k := HS1.out
    rw [HS2.out, e1]
    exact ⟨q.r1, q.r2, q.l1, q.l2, hfd, hfd, by simp [sfSettle], rfl, fun j => by simp only [sfSettle, List.take_nil, List.foldl_nil]; exact q.ln k, q.sy⟩
  have hls := list_any HF4.out HW2.out
  have hdl2 := HW2.out.dl
  go_wp2_with fail
  refine hls.mono ?_
  rintro e w5 ⟨lv, rfl, hrow, hb5⟩
  obtain ⟨N, HN⟩ := hid_ex S2.dir.length
  rw [← HN.out] at hrow hdl2
  obtain ⟨la, lc, hlv⟩ := row_form hrow
  subst hlv
  have HF5 : Hid (FsAt w5 O g m1 m2 (.slice none 0 0) bl vs S2) := HF4.out.keep (fun k hk => hb5.block k (HF4.out.lt k hk)) hb5.size
  have HO5 : Hid (Onl O w w5) := HO4.out.then (onl_of_below hb5)
  have HR5 : Hid (w5.ownsRow w4.heap.size 9 1 (.slice la N lc) N (S2.dir.map fun p => sv p.1)) := hrow
  have HSO : Hid (S2.dir.Pairwise (fun p q => p.1 ≠ q.1)) := sorted_ne HF4.out.h1.apart
  clear hrow hb5 hls HF4
  go_wp2_with fail
  go_loopw [39] (fun i wr => ∃ (j : Nat) (vs' : Nat → Value) (fls' : List (List UInt8 × Nat)), i = .int .i64 (j : Int) ∧ j ≤ N ∧ Hid (FsAt wr O g m1 m2 (.slice none 0 0) bl vs' { S2 with fls := fls' }) ∧ Hid (sfCuts (S2.dir.drop j) (ks.drop j) fls' = sfCuts S2.dir ks S2.fls) ∧ Hid (sfFlOk fls') ∧ Hid (fls'.length = S2.fls.length) ∧ Hid (wr.ownsRow w4.heap.size 9 1 (.slice la N lc) N (S2.dir.map fun p => sv p.1)) ∧ Hid (Onl O w wr)) (fun i _ => N - (intOf i).toNat)
  case atStart => exact ⟨0, vs, S2.fls, rfl, by omega, HF5, rfl, HW2.out.sy, rfl, HR5, HO5⟩
  case round =>
    obtain ⟨j, vs', fls', rfl, hj, HR, HCU, HOK, HLN, HRW, HO⟩ := hrel
    by_cases hlt : j < N
    · have hlt' : (j : Int) < (N : Int) := by omega
      have hjd : j < S2.dir.length := by rw [← HN.out]; exact hlt
      obtain ⟨PE, HPE⟩ := hid_ex (S2.dir[j])
      obtain ⟨lb, hla, x0⟩ := row_str' HRW.out HN.out hlt
      subst hla
      rw [← HPE.out] at x0
      have hpm : PE ∈ S2.dir := by rw [HPE.out]; exact List.getElem_mem hjd
      obtain ⟨nm, I⟩ := PE
      have hI : I < S2.fls.length := (HW2.out.di _ hpm).1
      have hnm : nm.length ≤ 32 := (HW2.out.di _ hpm).2
      have hlook := HR.out.h1.look nm (by simp only [maxLen]; omega)
      have hlk : sfLook nm S2.dir = some I := mem_look HSO.out hpm
      rw [show ({ S2 with fls := fls' } : SfS).dir = S2.dir from rfl, hlk] at hlook
      simp only [sfPv] at hlook
      have d1 := HR.out.c1
      clear hlk hpm
      have hI' : I = S2.dir[j].2 := by rw [← HPE.out]
      have HPE : Hid (I = S2.dir[j].2) := hI'
      clear hI'
      by_cases hjk : j < ks.length
      · have hjk' : (j : Int) < (ks.length : Int) := by omega
        obtain ⟨a', cap', hkv, -, hq⟩ := HKR.out wr HO.out
        rcases hq with hq | ⟨kb, ko, hka, -, hcell⟩
        · rw [hq] at hjk; simp at hjk
        · simp at hkv
          obtain ⟨rfl, rfl⟩ := hkv
          subst hka
          have y0 := hcell j hjk
          obtain ⟨KP, hKP⟩ := hid_ex (ks[j])
          rw [← hKP.out] at y0
          have HKP : Hid (KP = (ks.drop j).headD 0) := by show KP = _; rw [headD_drop, dif_pos hjk, hKP.out]
          clear hcell hKP
          have HCT : Hid (Calls Tryz.prog 61 #[.pointer (some ⟨bl I, 0, none⟩), .int .i64 KP] wr fun e w' => e = .returned (.tuple #[]) ∧ ∃ vs1, FsAt w' O g m1 m2 (.slice none 0 0) bl vs1 { S2 with fls := fls'.set I (sfCut (fls'.getD I ([], 0)) KP) } ∧ Onl O wr w') := by
            obtain ⟨hf, hb⟩ := HR.out.file (s := { S2 with fls := fls' }) (i := I) (by show I < fls'.length; rw [HLN.out]; exact hI)
            have hfg : fls'[I]? = some (fls'.getD I ([], 0)) := by rw [List.getD_eq_getElem?_getD, List.getElem?_eq_getElem (by rw [HLN.out]; exact hI)]; rfl
            have hok := HOK.out I _ hfg
            refine (cut_any (f := fls'.getD I ([], 0)) hf hb hok.1 hok.2 KP).mono ?_
            rintro e w' ⟨he, v', hv1, hv2, hv3, hv4, hv5⟩
            have hIl : I < ({ S2 with fls := fls' } : SfS).fls.length := by show I < fls'.length; rw [HLN.out]; exact hI
            refine ⟨he, updF vs' I v', ?_, ⟨hv4.os, hv4.tape, hv4.output, hv4.size, fun k hk ho => hv4.block k hk (fun e => ho (e ▸ HR.out.fl.ob I hIl))⟩⟩
            exact HR.out.setI (fun _ q => q) (fun k q => by rw [hv5]; exact HR.out.lt k q) hIl (fun k ho hk _ => hv4.block k (HR.out.lt k ho) hk) hv2 hv3 (fun k hk => .inl (hv1 k hk))
          have HNX : Hid (sfCuts (S2.dir.drop (j + 1)) (ks.drop (j + 1)) (fls'.set I (sfCut (fls'.getD I ([], 0)) KP)) = sfCuts S2.dir ks S2.fls) := by
            show _ = _
            rw [← HCU.out, sfCuts_step hjd, ← HKP.out, ← HPE.out]
          go_wp2_with fail
          refine HCT.out.mono ?_
          rintro e w6 ⟨rfl, vs1, hf6, ho6⟩
          have HR6 := (show Hid (FsAt w6 O g m1 m2 (.slice none 0 0) bl vs1 { S2 with fls := fls'.set I (sfCut (fls'.getD I ([], 0)) KP) }) from hf6)
          have HO6 : Hid (Onl O w w6) := HO.out.then ho6
          have HRW6 : Hid (w6.ownsRow w4.heap.size 9 1 (.slice (some ⟨lb, 0, none⟩) N lc) N (S2.dir.map fun p => sv p.1)) := row_keepB HRW.out (fun k hk hl => ho6.block k hl (fun q => by have := HF.out.lt k q; have := HO4.out.size; omega))
          have HOK6 : Hid (sfFlOk (fls'.set I (sfCut (fls'.getD I ([], 0)) KP))) := HOK.out.cut I KP
          have HLN6 : Hid ((fls'.set I (sfCut (fls'.getD I ([], 0)) KP)).length = S2.fls.length) := (List.length_set ..).trans HLN.out
          clear hf6 ho6 HCT
          go_wp2_with fail
          go_roundw
          case rel => exact ⟨j + 1, vs1, _, by go_num, by omega, HR6, HNX, HOK6, HLN6, HRW6, HO6⟩
          case measure => simp [intOf]; omega
      · have hjk' : ¬ (j : Int) < (ks.length : Int) := by omega
        have HKP : Hid ((0 : Int) = (ks.drop j).headD 0) := by show (0 : Int) = _; rw [headD_drop, dif_neg hjk]
        have HCT : Hid (Calls Tryz.prog 61 #[.pointer (some ⟨bl I, 0, none⟩), .int .i64 0] wr fun e w' => e = .returned (.tuple #[]) ∧ ∃ vs1, FsAt w' O g m1 m2 (.slice none 0 0) bl vs1 { S2 with fls := fls'.set I (sfCut (fls'.getD I ([], 0)) 0) } ∧ Onl O wr w') := by
          obtain ⟨hf, hb⟩ := HR.out.file (s := { S2 with fls := fls' }) (i := I) (by show I < fls'.length; rw [HLN.out]; exact hI)
          have hfg : fls'[I]? = some (fls'.getD I ([], 0)) := by rw [List.getD_eq_getElem?_getD, List.getElem?_eq_getElem (by rw [HLN.out]; exact hI)]; rfl
          have hok := HOK.out I _ hfg
          refine (cut_any (f := fls'.getD I ([], 0)) hf hb hok.1 hok.2 0).mono ?_
          rintro e w' ⟨he, v', hv1, hv2, hv3, hv4, hv5⟩
          have hIl : I < ({ S2 with fls := fls' } : SfS).fls.length := by show I < fls'.length; rw [HLN.out]; exact hI
          refine ⟨he, updF vs' I v', ?_, ⟨hv4.os, hv4.tape, hv4.output, hv4.size, fun k hk ho => hv4.block k hk (fun e => ho (e ▸ HR.out.fl.ob I hIl))⟩⟩
          exact HR.out.setI (fun _ q => q) (fun k q => by rw [hv5]; exact HR.out.lt k q) hIl (fun k ho hk _ => hv4.block k (HR.out.lt k ho) hk) hv2 hv3 (fun k hk => .inl (hv1 k hk))
        have HNX : Hid (sfCuts (S2.dir.drop (j + 1)) (ks.drop (j + 1)) (fls'.set I (sfCut (fls'.getD I ([], 0)) 0)) = sfCuts S2.dir ks S2.fls) := by
          show _ = _
          rw [← HCU.out, sfCuts_step hjd, ← HKP.out, ← HPE.out]
        go_wp2_with fail
        refine HCT.out.mono ?_
        rintro e w6 ⟨rfl, vs1, hf6, ho6⟩
        have HR6 := (show Hid (FsAt w6 O g m1 m2 (.slice none 0 0) bl vs1 { S2 with fls := fls'.set I (sfCut (fls'.getD I ([], 0)) 0) }) from hf6)
        have HO6 : Hid (Onl O w w6) := HO.out.then ho6
        have HRW6 : Hid (w6.ownsRow w4.heap.size 9 1 (.slice (some ⟨lb, 0, none⟩) N lc) N (S2.dir.map fun p => sv p.1)) := row_keepB HRW.out (fun k hk hl => ho6.block k hl (fun q => by have := HF.out.lt k q; have := HO4.out.size; omega))
        have HOK6 : Hid (sfFlOk (fls'.set I (sfCut (fls'.getD I ([], 0)) 0))) := HOK.out.cut I 0
        have HLN6 : Hid ((fls'.set I (sfCut (fls'.getD I ([], 0)) 0)).length = S2.fls.length) := (List.length_set ..).trans HLN.out
        clear hf6 ho6 HCT
        go_wp2_with fail
        go_roundw
        case rel => exact ⟨j + 1, vs1, _, by go_num, by omega, HR6, HNX, HOK6, HLN6, HRW6, HO6⟩
        case measure => simp [intOf]; omega
    · have hlt' : ¬ (j : Int) < (N : Int) := by omega
      have hjn : j = S2.dir.length := by rw [← HN.out]; omega
      have HFE : Hid (fls' = sfCuts S2.dir ks S2.fls) := by
        have := HCU.out
        rw [List.drop_eq_nil_of_le (by omega)] at this
        exact this
      have c5 := HR.out.c5
      have z5 := HR.out.fz 5
      clear hjn
      go_wp2_with fail
      go_ret
      refine ⟨rfl, FsAt.to (pv := .slice none 0 0) (bl := bl) (vs := vs') ?_ HF.out.lt (HO.out.then (Onl.set (a := ⟨g, 5, none⟩) HR.out.og _))⟩
      have e1 : ({ S1 with dir := S1.old, fls := sfCuts S1.old ks s.fls, fault := 0 } : SfS) = { S2 with fls := fls', pend := S2.pend, left := S2.left, fault := 0 } := by
        rw [HFE.out, HS2.out, HS1.out]; rfl
      rw [e1]
      refine FsAt.setG (s := { S2 with fls := fls' }) HR.out (fun _ q => q) (fun k q => by have := HR.out.lt k q; simp [World.setCell]; exact this) (fun k _ hk _ => Below.heap_setCell _ _ _ _ hk) ?_ (HR.out.hp.keep fun k hk => by simp [Value.ownBlock] at hk) (fun k hk => by simp [Value.ownBlock] at hk)
      have := cells_set HR.out.hg 5 (.int .i64 0); simpa using this
end Go.Proofs.YtilbffgpniomcaaGreatDoor

/- A file system: what every call keeps, plainly; the calls in one form. -/
namespace Go.Proofs.YtilbffgpniomcaaGreatDoor
open Go.RowKit Go.Maps Go.Sort

theorem SfWf.fold {s : SfS} (q : SfWf s) (k : Nat) : ∀ p ∈ (s.pend.take k).foldl sfDo s.old, p.2 < s.fls.length ∧ p.1.length ≤ 32 := sfDo_fold_ok q.oi (fun a ha => q.pi a (List.mem_of_mem_take ha))
theorem SfWf.syncDir {s : SfS} (h : SfWf s) : SfWf (sfSyncDir s).2 := by
  unfold sfSyncDir
  split
  · have q := h.plan
    have e : s.pend.length = (sfPlan s).2.pend.length := by rw [sfPlan_pend]
    rw [e]
    have hf := q.fold (sfPlan s).2.pend.length
    have hd : ((sfPlan s).2.pend.take (sfPlan s).2.pend.length).foldl sfDo (sfPlan s).2.old = (sfPlan s).2.dir := by rw [List.take_length, ← q.ap]
    refine ⟨q.r1, q.r2, q.l1, q.l2, q.di, hf, fun a ha => by simp [sfSettle] at ha, ?_, fun k => ?_, q.sy⟩
    · simp only [sfSettle, List.foldl_nil]; exact hd.symm
    · simp only [sfSettle, List.take_nil, List.foldl_nil, hd]; exact q.dl
  · exact h.plan
theorem sfCuts_len : ∀ (dir : List (List UInt8 × Nat)) (ks : List Int) (fls : List (List UInt8 × Nat)), (sfCuts dir ks fls).length = fls.length
  | [], _, _ => rfl
  | p :: r, ks, fls => by rw [sfCuts, sfCuts_len r, List.length_set]
theorem sfCuts_ok : ∀ (dir : List (List UInt8 × Nat)) (ks : List Int) (fls : List (List UInt8 × Nat)), sfFlOk fls → sfFlOk (sfCuts dir ks fls)
  | [], _, _, h => h
  | p :: r, ks, fls, h => by rw [sfCuts]; exact sfCuts_ok r _ _ (h.cut _ _)
theorem SfWf.crash {s : SfS} (q : SfWf s) (n : Int) (ks : List Int) : SfWf (sfCrash s n ks) := by
  have hf := q.fold (max n 0).toNat
  have hl : (sfCrash s n ks).fls.length = s.fls.length := sfCuts_len _ _ _
  refine ⟨q.r1, q.r2, q.l1, q.l2, fun p hp => ?_, fun p hp => ?_, fun a ha => by simp [sfCrash, sfSettle] at ha, rfl, fun k => ?_, sfCuts_ok _ _ _ q.sy⟩
  · rw [hl]; exact hf p hp
  · rw [hl]; exact hf p hp
  · simp only [sfCrash, sfSettle, List.take_nil, List.foldl_nil]; exact q.ln _
theorem SfWf.change {s : SfS} (h : SfWf s) {a : SfA} (ha : (∀ i, a.file = some i → i < s.fls.length) ∧ a.gone.length ≤ 32 ∧ a.name.length ≤ 32) (hd : (sfDo s.dir a).length ≤ 256) : SfWf (sfChange s a).2 := by
  unfold sfChange
  split
  · have q := h.plan
    have e1 := sfPlan_dir s
    have e2 := sfPlan_fls s
    refine ⟨q.r1, q.r2, q.l1, q.l2, ?_, q.oi, ?_, ?_, fun k => ?_, q.sy⟩
    · exact sfDo_ok q.di (by rw [e2]; exact ha)
    · intro b hb
      rcases List.mem_append.1 hb with hb | hb
      · exact q.pi b hb
      · obtain rfl : b = a := by simpa using hb
        show (∀ i, b.file = some i → i < (sfPlan s).2.fls.length) ∧ _
        rw [e2]; exact ha
    · show sfDo (sfPlan s).2.dir a = ((sfPlan s).2.pend ++ [a]).foldl sfDo (sfPlan s).2.old
      rw [List.foldl_append, ← q.ap]; rfl
    · show (((sfPlan s).2.pend ++ [a]).take k |>.foldl sfDo (sfPlan s).2.old).length ≤ 256
      rcases Nat.lt_or_ge (sfPlan s).2.pend.length k with hk | hk
      · rw [List.take_of_length_le (by simp; omega), List.foldl_append, ← q.ap]
        show (sfDo (sfPlan s).2.dir a).length ≤ 256
        rw [e1]; exact hd
      · rw [List.take_append_of_le_length hk]; exact q.ln k
  · exact h.plan
theorem sfDel_lt {s : List UInt8} {i : Nat} : ∀ {l : List (List UInt8 × Nat)}, sfLook s l = some i → (sfDel s l).length + 1 ≤ l.length
  | y :: r, h => by
    unfold sfLook at h
    rw [List.find?_cons] at h
    by_cases e : y.1 == s
    · have : sfDel s (y :: r) = sfDel s r := by unfold sfDel; rw [List.filter_cons, e]; rfl
      rw [this]
      have := sfDel_le s r
      simp; omega
    · rw [Bool.not_eq_true] at e
      rw [e] at h
      have ih := sfDel_lt (l := r) h
      have : sfDel s (y :: r) = y :: sfDel s r := by unfold sfDel; rw [List.filter_cons, e]; rfl
      rw [this]
      simp; omega
theorem sfName_len {n : List UInt8} (h : sfName n = true) : n.length ≤ 32 ∧ 1 ≤ n.length := by
  unfold sfName at h
  simp only [Bool.and_eq_true, decide_eq_true_eq] at h
  omega
theorem SfWf.create {s : SfS} (h : SfWf s) (n : List UInt8) : SfWf (sfCreate s n).2 := by
  unfold sfCreate
  split
  · exact h
  · split
    · exact h
    · split
      · exact h
      · rename_i h1 h2 h3
        have hn := sfName_len (by simpa using h1)
        refine h.new.change ⟨fun i hi => ?_, by simp, hn.1⟩ ?_
        · simp at hi; subst hi; simp [sfNew]
        · have := sfDo_le (sfNew s).dir ⟨[], n, some s.fls.length⟩
          have e : (sfNew s).dir = s.dir := rfl
          rw [e] at this ⊢
          omega
theorem SfWf.setF {s : SfS} (q : SfWf s) {i : Nat} {f : List UInt8 × Nat} (hf : f.2 ≤ f.1.length ∧ f.1.length ≤ 1048576) : SfWf (s.setF i f) := by
  have hl : (s.setF i f).fls.length = s.fls.length := by simp [SfS.setF]
  refine ⟨q.r1, q.r2, q.l1, q.l2, fun p hp => by rw [hl]; exact q.di p hp, fun p hp => by rw [hl]; exact q.oi p hp, fun a ha => by rw [hl]; exact q.pi a ha, q.ap, q.ln, fun j g hg => ?_⟩
  by_cases e : i = j
  · subst e
    rcases Nat.lt_or_ge i s.fls.length with hi | hi
    · rw [SfS.setF, List.getElem?_set_self hi] at hg
      obtain rfl : f = g := by simpa using hg
      exact hf
    · rw [List.getElem?_eq_none (by rw [hl]; exact hi)] at hg; cases hg
  · rw [SfS.setF, List.getElem?_set_ne e] at hg; exact q.sy j g hg
theorem SfWf.append {s : SfS} (h : SfWf s) (n b : List UInt8) : SfWf (sfAppend s n b).2 := by
  unfold sfAppend
  split
  · exact h
  · rename_i i _
    split
    · exact h
    · split
      · exact h
      · split
        · refine h.plan.setF ?_
          have := (h.fl32 i).2
          simp only [List.length_append]; omega
        · exact h.plan
theorem SfWf.sync {s : SfS} (h : SfWf s) (n : List UInt8) : SfWf (sfSync s n).2 := by
  unfold sfSync
  split
  · exact h
  · rename_i i _
    split
    · exact h.plan.setF ⟨Nat.le_refl _, (h.fl32 i).1⟩
    · exact h.plan
theorem SfWf.rename {s : SfS} (h : SfWf s) (n m : List UInt8) : SfWf (sfRename s n m).2 := by
  unfold sfRename
  split
  · exact h
  · rename_i h1
    have hm := sfName_len (by simpa using h1)
    split
    · exact h
    · rename_i i hi
      refine h.change ⟨fun j hj => ?_, (h.di _ (look_mem hi)).2, hm.1⟩ ?_
      · simp at hj; subst hj; exact (h.di _ (look_mem hi)).1
      · have h1 := sfDel_lt hi
        have h2 := sfPut_le (m, i) (sfDel n s.dir)
        have h3 := h.dl
        show (sfPut (m, i) (sfDel n s.dir)).length ≤ 256
        omega
theorem SfWf.remove {s : SfS} (h : SfWf s) (n : List UInt8) : SfWf (sfRemove s n).2 := by
  unfold sfRemove
  split
  · exact h
  · rename_i i hi
    refine h.change ⟨fun j hj => by simp at hj, (h.di _ (look_mem hi)).2, by simp⟩ ?_
    have h1 := sfDel_le n s.dir
    have h3 := h.dl
    show (sfDel n s.dir).length ≤ 256
    omega
theorem SfWf.fail {s : SfS} (q : SfWf s) (n e : Int) (h2 : n < 9223372036854775808) : SfWf (sfFail s n e).2 := by
  unfold sfFail
  split
  · exact q
  · split
    · exact ⟨q.r1, q.r2, q.l1, q.l2, q.di, q.oi, q.pi, q.ap, q.ln, q.sy⟩
    · exact ⟨q.r1, q.r2, by show _ ≤ n; omega, h2, q.di, q.oi, q.pi, q.ap, q.ln, q.sy⟩
/-- A file system, wherever it lies. -/
def Fs (w : World) (O : Nat → Prop) (p : Value) (s : SfS) : Prop := SfWf s ∧ ∃ g m1 m2 pv bl vs, p = .pointer (some ⟨g, 0, none⟩) ∧ FsAt w O g m1 m2 pv bl vs s
/-- What a call answers and leaves. -/
def FsR (w : World) (O : Nat → Prop) (p : Value) (r : Int × SfS) (e : Ending) (w' : World) : Prop := e = .returned (.int .i64 r.1) ∧ Fs w' (Grw O w w') p r.2 ∧ Onl O w w'
theorem Fs.lt {w : World} {O : Nat → Prop} {p : Value} {s : SfS} (h : Fs w O p s) : ∀ k, O k → k < w.heap.size := by
  obtain ⟨_, g, m1, m2, pv, bl, vs, rfl, hf⟩ := h
  exact hf.lt
theorem Fs.keep {w w' : World} {O : Nat → Prop} {p : Value} {s : SfS} (h : Fs w O p s) (hk : ∀ k, O k → w'.heap[k]? = w.heap[k]?) (hs : w.heap.size ≤ w'.heap.size) : Fs w' O p s := by
  obtain ⟨hw, g, m1, m2, pv, bl, vs, rfl, hf⟩ := h
  exact ⟨hw, g, m1, m2, pv, bl, vs, rfl, hf.keep hk hs⟩
theorem Fs.below {w w' : World} {O : Nat → Prop} {p : Value} {s : SfS} (h : Fs w O p s) (hb : Below w.heap.size w w') : Fs w' O p s := h.keep (fun k hk => hb.block k (h.lt k hk)) hb.size
theorem Fs.wider {w : World} {O O' : Nat → Prop} {p : Value} {s : SfS} (h : Fs w O p s) (hO : ∀ k, O k → O' k) (hl : ∀ k, O' k → k < w.heap.size) : Fs w O' p s := by
  obtain ⟨hw, g, m1, m2, pv, bl, vs, rfl, hf⟩ := h
  exact ⟨hw, g, m1, m2, pv, bl, vs, rfl, hf.wider hO hl⟩
theorem Fs.ptr {w : World} {O : Nat → Prop} {p : Value} {s : SfS} (h : Fs w O p s) : ∃ g, p = .pointer (some ⟨g, 0, none⟩) := by
  obtain ⟨_, g, m1, m2, pv, bl, vs, rfl, hf⟩ := h
  exact ⟨g, rfl⟩
theorem Fs.sorted {w : World} {O : Nat → Prop} {p : Value} {s : SfS} (h : Fs w O p s) : s.dir.Pairwise (fun p q => bytesBefore p.1 q.1 = true) := by
  obtain ⟨_, g, m1, m2, pv, bl, vs, rfl, hf⟩ := h
  exact hf.h1.apart
theorem Fs.sorted2 {w : World} {O : Nat → Prop} {p : Value} {s : SfS} (h : Fs w O p s) : s.old.Pairwise (fun p q => bytesBefore p.1 q.1 = true) := by
  obtain ⟨_, g, m1, m2, pv, bl, vs, rfl, hf⟩ := h
  exact hf.h2.apart
/-- Another one, of which no block is touched. -/
theorem Fs.other {w w' : World} {O O' : Nat → Prop} {p : Value} {s : SfS} (h : Fs w O p s) (ho : Onl O' w w') (hd : ∀ k, O k → ¬ O' k) : Fs w' O p s := h.keep (fun k hk => ho.block k (h.lt k hk) (hd k hk)) ho.size
theorem FsTo.fs {w w' : World} {O : Nat → Prop} {g m1 m2 : Nat} {s : SfS} (h : FsTo w O g m1 m2 s w') (hw : SfWf s) : Fs w' (Grw O w w') (.pointer (some ⟨g, 0, none⟩)) s ∧ Onl O w w' := by
  obtain ⟨⟨pv, bl, vs, hf⟩, ho⟩ := h
  exact ⟨⟨hw, g, m1, m2, pv, bl, vs, rfl, hf⟩, ho⟩
theorem Fs.create {w : World} {O : Nat → Prop} {p : Value} {s : SfS} (h : Fs w O p s) (n : List UInt8) (hn : n.length ≤ maxLen) (hpn : s.pend.length < 1099511627776) : Calls Tryz.prog 9 #[p, .string ⟨n.toArray⟩] w (FsR w O p (sfCreate s n)) := by
  obtain ⟨hw, g, m1, m2, pv, bl, vs, rfl, hf⟩ := h
  exact (create_any hf hw n hn hpn).mono fun e w' h => ⟨h.1, h.2.fs (hw.create n)⟩
theorem Fs.append {w : World} {O : Nat → Prop} {p : Value} {s : SfS} (h : Fs w O p s) (n : List UInt8) (hn : n.length ≤ maxLen) (bv : Value) (b : List UInt8) (hR : ∀ w', Onl O w w' → Reads w' bv b) : Calls Tryz.prog 10 #[p, .string ⟨n.toArray⟩, bv] w (FsR w O p (sfAppend s n b)) := by
  obtain ⟨hw, g, m1, m2, pv, bl, vs, rfl, hf⟩ := h
  exact (append_any hf hw n hn bv b hR).mono fun e w' h => ⟨h.1, h.2.fs (hw.append n b)⟩
theorem Fs.sync {w : World} {O : Nat → Prop} {p : Value} {s : SfS} (h : Fs w O p s) (n : List UInt8) (hn : n.length ≤ maxLen) : Calls Tryz.prog 83 #[p, .string ⟨n.toArray⟩] w (FsR w O p (sfSync s n)) := by
  obtain ⟨hw, g, m1, m2, pv, bl, vs, rfl, hf⟩ := h
  exact (sync_any hf hw n hn).mono fun e w' h => ⟨h.1, h.2.fs (hw.sync n)⟩
theorem Fs.rename {w : World} {O : Nat → Prop} {p : Value} {s : SfS} (h : Fs w O p s) (n m : List UInt8) (hn : n.length ≤ maxLen) (hm : m.length ≤ maxLen) (hpn : s.pend.length < 1099511627776) : Calls Tryz.prog 48 #[p, .string ⟨n.toArray⟩, .string ⟨m.toArray⟩] w (FsR w O p (sfRename s n m)) := by
  obtain ⟨hw, g, m1, m2, pv, bl, vs, rfl, hf⟩ := h
  exact (rename_any hf hw n m hn hm hpn).mono fun e w' h => ⟨h.1, h.2.fs (hw.rename n m)⟩
theorem Fs.remove {w : World} {O : Nat → Prop} {p : Value} {s : SfS} (h : Fs w O p s) (n : List UInt8) (hn : n.length ≤ maxLen) (hpn : s.pend.length < 1099511627776) : Calls Tryz.prog 46 #[p, .string ⟨n.toArray⟩] w (FsR w O p (sfRemove s n)) := by
  obtain ⟨hw, g, m1, m2, pv, bl, vs, rfl, hf⟩ := h
  exact (remove_any hf hw n hn hpn).mono fun e w' h => ⟨h.1, h.2.fs (hw.remove n)⟩
theorem Fs.syncDir {w : World} {O : Nat → Prop} {p : Value} {s : SfS} (h : Fs w O p s) : Calls Tryz.prog 45 #[p] w (FsR w O p (sfSyncDir s)) := by
  obtain ⟨hw, g, m1, m2, pv, bl, vs, rfl, hf⟩ := h
  exact (syncDir_any hf hw).mono fun e w' h => ⟨h.1, h.2.fs hw.syncDir⟩
theorem Fs.crash {w : World} {O : Nat → Prop} {p : Value} {s : SfS} (h : Fs w O p s) (n : Int) (kv : Value) (ks : List Int) (hK : ∀ w', Onl O w w' → KReads w' kv ks) : Calls Tryz.prog 27 #[p, .int .i64 n, kv] w (FsR w O p (0, sfCrash s n ks)) := by
  obtain ⟨hw, g, m1, m2, pv, bl, vs, rfl, hf⟩ := h
  exact (crash_any hf hw n kv ks hK).mono fun e w' h => ⟨h.1, h.2.fs (hw.crash n ks)⟩
theorem Fs.fail {w : World} {O : Nat → Prop} {p : Value} {s : SfS} (h : Fs w O p s) (n e : Int) (h2 : n < 9223372036854775808) : Calls Tryz.prog 26 #[p, .int .i64 n, .int .i64 e] w (FsR w O p (sfFail s n e)) := by
  obtain ⟨hw, g, m1, m2, pv, bl, vs, rfl, hf⟩ := h
  exact (fail_any hf hw n e).mono fun e w' h => ⟨h.1, h.2.fs (hw.fail n _ h2)⟩
theorem Fs.read {w : World} {O : Nat → Prop} {p : Value} {s : SfS} (h : Fs w O p s) (n : List UInt8) (hn : n.length ≤ maxLen) : Calls Tryz.prog 23 #[p, .string ⟨n.toArray⟩] w fun e w' => ∃ v, e = .returned (.tuple #[v, .int .i64 (sfFe (sfLook n s.dir))]) ∧ Own w' w.heap.size v (sfRead s n) ∧ Below w.heap.size w w' := by
  obtain ⟨hw, g, m1, m2, pv, bl, vs, rfl, hf⟩ := h
  exact read_any hf hw n hn
theorem Fs.list {w : World} {O : Nat → Prop} {p : Value} {s : SfS} (h : Fs w O p s) : Calls Tryz.prog 19 #[p] w fun e w' => ∃ v, e = .returned v ∧ w'.ownsRow w.heap.size 9 1 v s.dir.length (s.dir.map fun p => sv p.1) ∧ Below w.heap.size w w' := by
  obtain ⟨hw, g, m1, m2, pv, bl, vs, rfl, hf⟩ := h
  exact list_any hf hw
theorem Fs.used {w : World} {O : Nat → Prop} {p : Value} {s : SfS} (h : Fs w O p s) : Calls Tryz.prog 34 #[p] w fun e w' => e = .returned (.int .i64 (sfUsed s : Int)) ∧ Below w.heap.size w w' := by
  obtain ⟨hw, g, m1, m2, pv, bl, vs, rfl, hf⟩ := h
  exact used_any hf hw
theorem fs_new (r : Int) (w : World) (h : 1 ≤ r) (h2 : r < 9223372036854775808) : Calls Tryz.prog 8 #[.int .i64 r] w fun e w' => ∃ p, e = .returned (.tuple #[p, .int .i64 0]) ∧ Fs w' (fun k => w.heap.size ≤ k ∧ k < w'.heap.size) p (sfZ r) ∧ Below w.heap.size w w' := by
  refine (new_any r w h).mono ?_
  rintro e w' ⟨he, hf, hb, hs⟩
  exact ⟨_, he, ⟨sfWf_zero h h2, _, _, _, _, _, _, rfl, hf.wider (fun k q => ⟨q.1, by omega⟩) (fun k q => q.2)⟩, hb⟩
end Go.Proofs.YtilbffgpniomcaaGreatDoor

/- manifest over a file system: its calls, plainly. -/
namespace Go.Proofs.YtilbffgpniomcaaGreatDoor
open Go.RowKit Go.Shelf

def man : List UInt8 := [109, 97, 110, 45]
def newN : List UInt8 := [99, 117, 114, 114, 101, 110, 116, 46, 110, 101, 119]
def sfThen (r : Int × SfS) (k : SfS → Int × SfS) : Int × SfS := if r.1 = 0 then k r.2 else r
theorem sfThen_ok {r : Int × SfS} (h : r.1 = 0) (k : SfS → Int × SfS) : sfThen r k = k r.2 := by unfold sfThen; rw [if_pos h]
theorem sfThen_no {r : Int × SfS} (h : r.1 ≠ 0) (k : SfS → Int × SfS) : sfThen r k = r := by unfold sfThen; rw [if_neg h]
theorem sfThen_0 (t : SfS) (k : SfS → Int × SfS) : sfThen (0, t) k = k t := sfThen_ok rfl k
def mfExt (s : SfS) (nm d : List UInt8) : Int × SfS := sfThen (sfAppend s nm (frm d)) fun t => sfSync t nm
def mfCre (s : SfS) (nm d : List UInt8) : Int × SfS := sfThen (sfCreate s nm) fun t => mfExt t nm d
def edS (st : St) : Ed := ⟨[], st.ru, st.lo, st.ne, st.ma⟩
def stB (st : St) : List UInt8 := shB (nmE (edS st))
def mfPt (s : SfS) (n : Int) : Int × SfS := sfThen (mfCre s newN (sh n.toNat)) fun t => sfThen (sfRename t newN curN) sfSyncDir
def mfRm (s : SfS) (n : Int) : Int × SfS := if (sfRemove s newN).1 = 0 ∨ (sfRemove s newN).1 = 4 then mfPt (sfRemove s newN).2 n else sfRemove s newN
def mfSv (s : SfS) (n : Int) (st : St) : Int × SfS := sfThen (mfCre s (nmF man n) (stB st)) fun t => sfThen (sfSyncDir t) fun u => mfRm u n
/-- What Save does. -/
def mfSave (s : SfS) (n : Int) (st : St) : Int × SfS := if okSt st ∧ isNo n = true then mfSv s n st else (1, s)
/-- What Append does. -/
def mfApp (s : SfS) (n : Int) (x : Ed) : Int × SfS := match edW x with
  | none => (100, s)
  | some b => mfExt s (nmF man n) b
/-- What Load tells. -/
def mfLd (s : SfS) : Option (St × Int) × Int := match sfLook curN s.dir with
  | none => (none, 4)
  | some _ => match ptF (sfRead s curN) with
    | none => (none, 114)
    | some n => match rpS (sfRead s (nmF man n)) with
      | none => (none, 114)
      | some st => (some (st, n), 0)
theorem man_len {n : Int} : (nmF man n).length ≤ 17 := by
  by_cases h : 1 ≤ n ∧ n ≤ 1099511627776
  · rw [nmF_yes h.1 h.2, List.length_append]
    have := dec_len (n := n.toNat) (by omega)
    have : man.length = 4 := rfl
    omega
  · rw [nmF_no h]; simp
theorem man_name {n : Int} (h : isNo n = true) : sfName (nmF man n) = true := by
  obtain ⟨h1, h2⟩ := isNo_iff.1 h
  have hl := man_len (n := n)
  have hd := dec_digit n.toNat
  rw [nmF_yes h1 h2] at hl ⊢
  unfold sfName
  rw [Bool.and_eq_true, Bool.and_eq_true]
  refine ⟨⟨decide_eq_true (by rw [List.length_append]; have : man.length = 4 := rfl; omega), decide_eq_true (by omega)⟩, ?_⟩
  rw [List.all_append, Bool.and_eq_true]
  refine ⟨by decide, ?_⟩
  rw [List.all_eq_true]
  intro c hc
  obtain ⟨g1, g2⟩ := hd c hc
  unfold sfOkC
  rw [decide_eq_true g1, decide_eq_true g2]
  simp
theorem man_front {n : Int} (h : isNo n = true) : ∃ r, nmF man n = 109 :: r := by
  obtain ⟨h1, h2⟩ := isNo_iff.1 h
  exact ⟨_, nmF_yes h1 h2⟩
theorem cur_ne {n : Int} (h : isNo n = true) : curN ≠ nmF man n := by
  obtain ⟨r, e⟩ := man_front h
  rw [e]
  unfold curN
  simp
theorem new_ne {n : Int} (h : isNo n = true) : newN ≠ nmF man n := by
  obtain ⟨r, e⟩ := man_front h
  rw [e]
  unfold newN
  simp
theorem cur_bef {n : Int} (h : isNo n = true) : bytesBefore curN (nmF man n) = true := by
  obtain ⟨r, e⟩ := man_front h
  rw [e]
  unfold curN
  simp [bytesBefore]
theorem new_bef {n : Int} (h : isNo n = true) : bytesBefore newN (nmF man n) = true := by
  obtain ⟨r, e⟩ := man_front h
  rw [e]
  unfold newN
  simp [bytesBefore]
theorem bef_cur {n : Int} (h : isNo n = true) : bytesBefore (nmF man n) curN = false := by
  obtain ⟨r, e⟩ := man_front h
  rw [e]
  unfold curN
  simp [bytesBefore]
end Go.Proofs.YtilbffgpniomcaaGreatDoor
