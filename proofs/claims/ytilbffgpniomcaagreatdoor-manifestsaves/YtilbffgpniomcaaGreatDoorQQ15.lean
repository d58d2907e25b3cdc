/- SFA MFt OB MFv MG1x, joined. -/
import Derived.Test.YtilbffgpniomcaaGreatDoorQQ1
import Derived.Test.YtilbffgpniomcaaGreatDoorQQ6
import Derived.Test.YtilbffgpniomcaaGreatDoorQQ14
import Derived.ProofKit
import Derived.OpenShut
import Derived.Lib.SmallJoins
import Derived.Deep.Slices
/- A file system: Read. -/
namespace Go.Proofs.YtilbffgpniomcaaGreatDoor
open Go.RowKit Go.Maps

theorem run_copy_zero {w : World} (ty : TypeId) (d : Option Addr) (dc : Nat) (a : Option Addr) (c : Nat) : (Builtin.copy_ #[22, 22] ty #[.slice d 0 dc, .slice a 0 c]).run Tryz.prog w = .ok (goInt 0) w := by
  have h1 : (Builtin.firstCells 1 0 (.slice a 0 c)).run Tryz.prog w = .ok #[] w := by cases a <;> simp [Builtin.firstCells, loadCells, loadCellsFrom]
  cases d <;> simp [Builtin.copy_, run_underlying Tryz.underlying22, Builtin.lenOf, Result.andThen, h1, storeCells]
theorem mkcopy {w : World} {v : Value} {l : List UInt8} (hR : Reads w v l) (hl : l.length ≤ 1048576) :
    ∃ w3 w4, (Instr.makeSlice 22 (.int .i64 (l.length : Int)) (.int .i64 (l.length : Int))).run Tryz.prog w = .ok (.slice (some ⟨w.heap.size, 0, none⟩) l.length l.length) w3 ∧ Below w.heap.size w w3 ∧
      (Builtin.copy_ #[22, 22] 3 #[.slice (some ⟨w.heap.size, 0, none⟩) l.length l.length, v]).run Tryz.prog w3 = .ok (goInt l.length) w4 ∧ Own w4 w.heap.size (.slice (some ⟨w.heap.size, 0, none⟩) l.length l.length) l ∧ Below w.heap.size w w4 := by
  obtain ⟨i0, hi0, hz0, hz1, hz2⟩ := info_parts info5
  obtain ⟨w3, hrn, hown3, hg3⟩ := run_make_full (P := Tryz.prog) w w.heap.size 22 5 i0 (.int .u8 0) 1 Tryz.underlying22 hi0 hz0 hz1 .i64 .i64 l.length (by rw [hz2]; omega) (by unfold maxLen; omega) (Nat.le_refl _)
  rw [Nat.mul_one] at hown3
  have hO3 : Own w3 w.heap.size (.slice (some ⟨w.heap.size, 0, none⟩) l.length l.length) (List.replicate l.length 0) := own_zeros hown3
  have hB3 : Below w.heap.size w w3 := (Below.refl _ _).grown hg3 (Nat.le_refl _) (fun k hk => by cases hk)
  rcases Nat.eq_zero_or_pos l.length with h0 | h0
  · obtain ⟨a, cap, rfl, _⟩ := hR.form
    have hn : l = [] := List.length_eq_zero_iff.1 h0
    subst hn
    exact ⟨w3, w3, hrn, hB3, run_copy_zero _ _ _ _ _, hO3, hB3⟩
  · obtain ⟨w4, hcp, hO4, hb4, _⟩ := copy_own (off := 0) 3 hO3 (hR.below hB3) h0 (by simp)
    rw [List.take_zero, List.nil_append] at hO4
    rw [Nat.sub_zero] at hcp
    exact ⟨w3, w4, hrn, hB3, hcp, hO4, hB3.trans (hb4.out.mono (Nat.le_refl _))⟩
def sfRead (s : SfS) (n : List UInt8) : List UInt8 := match sfLook n s.dir with
  | none => []
  | some i => (s.fl i).1
theorem read_any {w : World} {O : Nat → Prop} {g m1 m2 : Nat} {pv : Value} {bl : Nat → Nat} {vs : Nat → Value} {s : SfS} (h : FsAt w O g m1 m2 pv bl vs s) (hw : SfWf s) (n : List UInt8) (hn : n.length ≤ maxLen) :
    Calls Tryz.prog 23 #[.pointer (some ⟨g, 0, none⟩), .string ⟨n.toArray⟩] w fun e w' => ∃ v, e = .returned (.tuple #[v, .int .i64 (sfFe (sfLook n s.dir))]) ∧ Own w' w.heap.size v (sfRead s n) ∧ Below w.heap.size w w' := by
  have HF : Hid (FsAt w O g m1 m2 pv bl vs s) := h
  have hfd := find_any h hw n hn
  have hdi := hw.di
  have hfl := fun i => (hw.fl32 i).1
  clear h hw
  unfold sfRead
  cases hL : sfLook n s.dir with
  | none =>
    rw [hL] at hfd
    simp only [sfPv, sfFe] at hfd ⊢
    go_enter Tryz.func23, Tryz.ntmps23
    go_wp2_with (go_at_call 33; refine hfd.mono ?_; rintro e w' ⟨rfl, hw'⟩; subst w')
    go_ret2
    exact ⟨_, rfl, Own.nil _ _, Below.refl _ _⟩
  | some i =>
    rw [hL] at hfd
    simp only [sfPv, sfFe] at hfd ⊢
    have hi : i < s.fls.length := (hdi _ (look_mem hL)).1
    obtain ⟨hf, hb⟩ := HF.out.file hi
    have hRd := hb.reads
    obtain ⟨va, vc, hv, -⟩ := hb.form
    rw [hv] at hf hRd
    obtain ⟨w3, w4, hmk, hB3, hcp, hO4, hB4⟩ := mkcopy hRd (hfl i)
    have x0 := cell_of hf 0 _ rfl
    have x3 := cell_of ((hB3.block _ (Array.getElem?_eq_some_iff.1 hf).1).trans hf) 0 _ rfl
    have HO4 : Hid (Own w4 w.heap.size (.slice (some ⟨w.heap.size, 0, none⟩) (s.fl i).1.length (s.fl i).1.length) (s.fl i).1) := hO4
    have HB4 : Hid (Below w.heap.size w w4) := hB4
    have hlb := hfl i
    clear hf hb hRd hv hO4 hB4 hB3 hL hi hdi hfl
    generalize (s.fl i).1 = l at *
    go_enter Tryz.func23, Tryz.ntmps23
    go_wp2_with (go_at_call 33; refine hfd.mono ?_; rintro e w' ⟨rfl, hw'⟩; subst w')
    go_ret2
    exact ⟨_, rfl, HO4.out, HB4.out⟩
end Go.Proofs.YtilbffgpniomcaaGreatDoor

/- law13: Load of an empty file system; alive. -/
namespace Go.Proofs.YtilbffgpniomcaaGreatDoor
open Go.RowKit Go.Shelf

theorem results_c13b {fn : Func} {p u v : Tmp} {ty : TypeId} (h : fn.results = #[.cell p ty, .tmp u, .tmp v]) (tmps : Array Value) (w : World) (g : Nat) (cs : Array Value)
    (hp : tmps.getD p undef = .pointer (some ⟨g, 0, none⟩)) (hl : (loadVar ty ⟨g, 0, none⟩).run Tryz.prog w = .ok (.agg cs) w) :
    (results fn tmps).run Tryz.prog w = .ok (.tuple #[.agg cs, tmps.getD u undef, tmps.getD v undef]) w := by
  have hp' : tmps[p]?.getD undef = .pointer (some ⟨g, 0, none⟩) := by simpa using hp
  simp [results, h, hp', asAddr, hl]
def curN : List UInt8 := [99, 117, 114, 114, 101, 110, 116]
set_option maxRecDepth 100000 in
set_option maxHeartbeats 2000000 in
theorem load_none {w : World} {O : Nat → Prop} {g m1 m2 : Nat} {pv : Value} {bl : Nat → Nat} {vs : Nat → Value} {s : SfS} (h : FsAt w O g m1 m2 pv bl vs s) (hw : SfWf s) (hn : sfLook curN s.dir = none) :
    Calls Tryz.prog 12 #[.pointer (some ⟨g, 0, none⟩)] w fun e w' => e = .returned (.tuple #[.agg #[.slice none 0 0, .int .i64 0, .int .i64 0, .int .i64 0], .int .i64 0, .int .i64 4]) ∧ Below w.heap.size w w' := by
  have hb0 : Below w.heap.size w (w.alloc (.cells #[.slice none 0 0, .int .i64 0, .int .i64 0, .int .i64 0] 33)) := (Below.refl _ _).alloc (Nat.le_refl _) _
  have HB0 : Hid (Below w.heap.size w (w.alloc (.cells #[.slice none 0 0, .int .i64 0, .int .i64 0, .int .i64 0] 33))) := hb0
  have hZ : (w.alloc (.cells #[.slice none 0 0, .int .i64 0, .int .i64 0, .int .i64 0] 33)).heap[w.heap.size]? = some (.cells #[.slice none 0 0, .int .i64 0, .int .i64 0, .int .i64 0] 33) := heap_alloc_new _ _
  have HZ : Hid ((w.alloc (.cells #[.slice none 0 0, .int .i64 0, .int .i64 0, .int .i64 0] 33)).heap[w.heap.size]? = some (.cells #[.slice none 0 0, .int .i64 0, .int .i64 0, .int .i64 0] 33)) := hZ
  have hr := read_any (h.keep (fun k hk => hb0.block k (h.lt k hk)) hb0.size) hw curN (by decide)
  rw [hn] at hr
  have HR : Hid (Calls Tryz.prog 23 #[.pointer (some ⟨g, 0, none⟩), .string ⟨#[99, 117, 114, 114, 101, 110, 116]⟩] (w.alloc (.cells #[.slice none 0 0, .int .i64 0, .int .i64 0, .int .i64 0] 33)) fun e w' => ∃ v, e = .returned (.tuple #[v, .int .i64 4]) ∧ Below (w.alloc (.cells #[.slice none 0 0, .int .i64 0, .int .i64 0, .int .i64 0] 33)).heap.size (w.alloc (.cells #[.slice none 0 0, .int .i64 0, .int .i64 0, .int .i64 0] 33)) w') := hr.mono fun e w' ⟨v, h1, _, h3⟩ => ⟨v, h1, h3⟩
  clear hr hZ hb0 h hw hn
  go_enter Tryz.func12, Tryz.ntmps12
  go_wp2_with fail
  refine HR.out.mono ?_
  rintro e w1 ⟨v, rfl, hb1⟩
  have HB1 : Hid (Below w.heap.size w w1) := HB0.out.trans (hb1.mono HB0.out.size)
  have HZ1 : Hid (w1.heap[w.heap.size]? = some (.cells #[.slice none 0 0, .int .i64 0, .int .i64 0, .int .i64 0] 33)) := (hb1.block _ (by simp)).trans HZ.out
  clear hb1 HZ HR
  go_wp2_with (refine stop_store 33 _ _ rfl ?_)
  refine Stop.of ?_
  refine wpList_storeN rfl _ _ _ rfl w.heap.size 0 [.slice none 0 0, .int .i64 0, .int .i64 0, .int .i64 0] rfl rfl _ _ HZ1.out (by simp) (by kernel_rfl) (by kernel_rfl) ?_
  intro W9 hW9
  have HK9 := stW_all hW9 (by simp)
  have HB9 : Hid (Below w.heap.size w W9) := HB1.out.trans (hW9.b _ (Nat.le_refl _))
  clear hW9
  go_wp2_with fail
  refine bodyPost_ret (results_c13b rfl _ _ w.heap.size _ rfl (run_loadVar_row _ w.heap.size _ _ _ (0, 0) _ HK9 Tryz.underlying33 rfl (by kernel_rfl))) rfl ?_
  exact ⟨rfl, HB9.out⟩
theorem al_write : edW ⟨[], [], 1, 2, 0⟩ = some [0, 0, 1, 2, 0] := by
  unfold edW
  rw [if_neg (by simp), if_pos (by decide)]
  simp only [nmE, shB, List.length_nil, List.nil_append, List.flatMap_nil, List.flatMap_cons, List.append_nil]
  rw [sh_lo (by decide), sh_lo (by decide), sh_lo (by decide), sh_lo (by decide)]
  rfl
theorem al_apply : apS ⟨[], 1, 5, 0⟩ ⟨[], [⟨4, 0, 1⟩], 1, 5, 0⟩ = (some ⟨[⟨4, 0, 1⟩], 1, 5, 0⟩, 0) := by
  rw [apS_on (l := []) (by decide) rfl (by decide)]
  have e : apT [] ⟨[], [⟨4, 0, 1⟩], 1, 5, 0⟩ = ⟨[⟨4, 0, 1⟩], 1, 5, 0⟩ := rfl
  rw [e, if_pos (by decide)]
theorem jr_nil (w : World) : JR w (.slice none 0 0) [] := ⟨none, 0, rfl, by decide, fun j hj => by simp at hj⟩
theorem ur_one (w : World) (r : Ru) : UR (w.alloc (.cells #[.int .i64 r.f, .int .i64 r.l, .int .i64 r.c] 72)) (.slice (some ⟨w.heap.size, 0, none⟩) 1 1) [r] := by
  have e := heap_alloc_new w (.cells #[.int .i64 r.f, .int .i64 r.l, .int .i64 r.c] 72)
  have hg : GOwn (w.alloc (.cells #[.int .i64 r.f, .int .i64 r.l, .int .i64 r.c] 72)) 72 3 (.slice (some ⟨w.heap.size, 0, none⟩) 1 1) [r].length ([r].flatMap r3L) := ⟨rfl, .inr ⟨w.heap.size, 1, _, rfl, e, Nat.le_refl _, by decide, by simp, rfl⟩⟩
  exact gown_ur hg
set_option maxRecDepth 100000 in
set_option maxHeartbeats 4000000 in
theorem alive13_any (w : World) : Calls Tryz.prog 7 #[] w fun e w' => e = .returned (.bool true) ∧ Below w.heap.size w w' := by
  have hW := write13_any (.slice none 0 0) (.slice none 0 0) ⟨[], [], 1, 2, 0⟩ w ⟨jr_nil w, (ur_nil w).r⟩ (by unfold smI; decide)
  rw [al_write] at hW
  have HW : Hid (Calls Tryz.prog 29 #[.agg #[.slice none 0 0, .slice none 0 0, .int .i64 1, .int .i64 2, .int .i64 0]] w fun e w' => ∃ v, e = .returned (.tuple #[v, .int .i64 0]) ∧ Own w' w.heap.size v [0, 0, 1, 2, 0] ∧ Below w.heap.size w w') := hW
  clear hW
  go_enter Tryz.func7, Tryz.ntmps7
  go_wp2_with fail
  refine HW.out.mono ?_
  rintro e w1 ⟨v1, rfl, ho1, hb1⟩
  have HO1 : Hid (Own w1 w.heap.size v1 [0, 0, 1, 2, 0]) := ho1
  have HB1 : Hid (Below w.heap.size w w1) := hb1
  clear ho1 hb1 HW
  obtain ⟨va, vc, hv1, _⟩ := HO1.out.form
  subst hv1
  go_wp2_with fail
  refine (new_any 1000 w1 (by decide)).mono ?_
  rintro e w2 ⟨rfl, hf2, hb2, hz2⟩
  have HO2 : Hid (Own w2 w.heap.size (.slice va [0, 0, 1, 2, (0 : UInt8)].length vc) [0, 0, 1, 2, 0]) := HO1.out.below hb2
  have HB2 : Hid (Below w.heap.size w w2) := HB1.out.trans (hb2.mono HB1.out.size)
  have HL : Hid (Calls Tryz.prog 12 #[.pointer (some ⟨w1.heap.size + 2, 0, none⟩)] w2 fun e w' => e = .returned (.tuple #[.agg #[.slice none 0 0, .int .i64 0, .int .i64 0, .int .i64 0], .int .i64 0, .int .i64 4]) ∧ Below w2.heap.size w2 w') := load_none hf2 (sfWf_zero (by decide) (by decide)) rfl
  clear hf2 hb2 hz2 HO1 HB1
  go_wp2_with fail
  refine HL.out.mono ?_
  rintro e w3 ⟨rfl, hb3⟩
  have HO3 : Hid (Own w3 w.heap.size (.slice va [0, 0, 1, 2, (0 : UInt8)].length vc) [0, 0, 1, 2, 0]) := HO2.out.below hb3
  have HB3 : Hid (Below w.heap.size w w3) := HB2.out.trans (hb3.mono HB2.out.size)
  clear hb3 HL HO2 HB2
  go_wp2_with (refine stop_store 33 _ _ rfl ?_)
  refine Stop.of ?_
  refine wpList_storeN rfl _ _ _ rfl w3.heap.size 0 [.slice none 0 0, .int .i64 0, .int .i64 0, .int .i64 0] rfl rfl _ _ (heap_alloc_new _ _) (by simp) (by kernel_rfl) (by kernel_rfl) ?_
  intro w4 hw4
  obtain ⟨hb4, _, _⟩ := stW_nw hw4 (by simp)
  have HO4 : Hid (Own w4 w.heap.size (.slice va [0, 0, 1, 2, (0 : UInt8)].length vc) [0, 0, 1, 2, 0]) := HO3.out.below hb4
  have HB4 : Hid (Below w.heap.size w w4) := HB3.out.trans (hb4.mono HB3.out.size)
  clear hw4 hb4 HO3 HB3
  have hA := apply13_any (.slice none 0 0) (.slice none 0 0) (.slice (some ⟨w4.heap.size, 0, none⟩) 1 1) ⟨[], 1, 5, 0⟩ ⟨[], [⟨4, 0, 1⟩], 1, 5, 0⟩ (w4.alloc (.cells #[.int .i64 4, .int .i64 0, .int .i64 1] 72)) (ur_nil _) (jr_nil _) (ur_one w4 ⟨4, 0, 1⟩) (by decide)
  have HA : Hid (Calls Tryz.prog 28 #[.agg #[.slice none 0 0, .int .i64 1, .int .i64 5, .int .i64 0], .agg #[.slice none 0 0, .slice (some ⟨w4.heap.size, 0, none⟩) 1 1, .int .i64 1, .int .i64 5, .int .i64 0]] (w4.alloc (.cells #[.int .i64 4, .int .i64 0, .int .i64 1] 72)) fun e w' => ∃ a c, e = .returned (.tuple #[.agg #[.slice a 1 c, .int .i64 1, .int .i64 5, .int .i64 0], .int .i64 0]) ∧ Below w4.heap.size w4 w') := hA.mono fun e w' ⟨v, h1, h2, h3⟩ => by
    rw [al_apply] at h1 h2
    obtain ⟨a, c, rfl, _⟩ := h2.r.form
    exact ⟨a, c, h1, ((Below.refl _ _).alloc (Nat.le_refl _) _).trans (h3.mono (by simp))⟩
  clear hA
  go_wp2_with fail
  refine HA.out.mono ?_
  rintro e w5 ⟨a5, c5, rfl, hb5⟩
  have HO5 : Hid (Own w5 w.heap.size (.slice va [0, 0, 1, 2, (0 : UInt8)].length vc) [0, 0, 1, 2, 0]) := HO4.out.below hb5
  have HB5 : Hid (Below w.heap.size w w5) := HB4.out.trans (hb5.mono HB4.out.size)
  clear hb5 HA HO4 HB4
  have HOne : Hid (([.slice a5 1 c5, .int .i64 1, .int .i64 5, .int .i64 0] : List Value).toArray.all (·.oneCell') = true) := by unfold Hid; kernel_rfl
  go_wp2_with (refine stop_store 33 _ _ rfl ?_)
  refine Stop.of ?_
  refine wpList_storeN rfl _ _ _ rfl w5.heap.size 0 [.slice a5 1 c5, .int .i64 1, .int .i64 5, .int .i64 0] rfl rfl _ _ (heap_alloc_new _ _) (by simp) (by kernel_rfl) HOne.out ?_
  intro w6 hw6
  obtain ⟨hb6, hx6, _⟩ := stW_nw hw6 (by simp)
  have HO6 : Hid (Own w6 w.heap.size (.slice va [0, 0, 1, 2, (0 : UInt8)].length vc) [0, 0, 1, 2, 0]) := HO5.out.below hb6
  have HB6 : Hid (Below w.heap.size w w6) := HB5.out.trans (hb6.mono HB5.out.size)
  obtain ⟨c0, _, _, _⟩ := four13 hx6
  have hcv : (convert 22 9 (.slice va 5 vc)).run Tryz.prog w6 = .ok (.string ⟨#[0, 0, 1, 2, 0]⟩) w6 := reads_text HO6.out.reads
  clear hw6 hb6 HO5 HB5 hx6 HOne
  go_wp2_with fail
  go_ret
  exact ⟨rfl, HB6.out⟩
end Go.Proofs.YtilbffgpniomcaaGreatDoor

/- Bytes, as an argument: what the slice reads. -/
namespace Go.Proofs.YtilbffgpniomcaaGreatDoor
open Go.ChangeShapes Go.WideShapes Go.ChangeAt Go.RowKit Go.Joins

theorem cell_block {w : World} {a : Addr} {v : Value} (h : w.cell? a = some v) : a.block < w.heap.size ∧ a.spot = none := by
  unfold World.cell? at h
  rcases Nat.lt_or_ge a.block w.heap.size with hb | hb
  · refine ⟨hb, ?_⟩
    split at h
    · split at h
      · cases h
      · rename_i hs; cases hsp : a.spot with
        | none => rfl
        | some s => rw [hsp] at hs; simp at hs
    · cases h
  · rw [Array.getElem?_eq_none hb] at h; cases h
set_option maxRecDepth 100000 in
theorem openB {H : Type} {enc : TypeId × Value → H} {W : World} {r : Reach} {b0 base : Nat} {spare : Nat → Bool} {held : Bool} {v : Value} {d : DataW H} {p : List MemPlace}
    (hv : Value.okWide Tryz.prog W r b0 22 v) (h : DataW.Trod enc Tryz.prog W base spare held 22 v d p) :
    ∃ l : List UInt8, Reads W v l := by
  obtain ⟨a, len, cap, rfl⟩ := okWide_slice Tryz.underlying22 hv
  obtain ⟨fuel, hf⟩ := h
  rcases open_ints Tryz.underlying22 Tryz.underlying5 (by kernel_rfl) hf with ⟨hcs, _⟩ | ⟨x, l, c, zs, hcs, _, hl, hm, hz, _, hcell, hwz⟩
  · simp [Value.cells] at hcs
    obtain ⟨rfl, rfl, rfl⟩ := hcs
    exact ⟨[], .inl ⟨rfl, _, _, rfl, fun _ => rfl⟩⟩
  · simp [Value.cells] at hcs
    obtain ⟨rfl, rfl, rfl⟩ := hcs
    have hzl : len ≤ zs.length := by rw [hz]; split <;> omega
    rcases Nat.eq_zero_or_pos len with h0 | h0
    · subst h0; exact ⟨[], .inl ⟨rfl, _, _, rfl, fun h => by cases h⟩⟩
    · refine ⟨(zs.take len).map fun z => UInt8.ofNat z.toNat, .inr ?_⟩
      have hlen : ((zs.take len).map fun z => UInt8.ofNat z.toNat).length = len := by simp; omega
      have c0 := hcell 0 (by omega)
      have e0 : x.add 0 = x := by simp [Addr.add]
      rw [e0] at c0
      obtain ⟨hb, hs⟩ := cell_block c0
      obtain ⟨b, off, spot⟩ := x
      simp only at hb hs
      subst hs
      refine ⟨b, off, cap, by rw [hlen], by omega, by omega, hm, hb, fun j hj => ?_⟩
      have hj' : j < len := by omega
      have cj := hcell j (by omega)
      have ea : (⟨b, off, none⟩ : Addr).add j = ⟨b, off + j, none⟩ := by simp [Addr.add]
      rw [ea] at cj
      rw [cj]
      have hzj : j < zs.length := by omega
      have hg : zs.getD j 0 = zs[j] := by simp [List.getD, hzj]
      have hw := bounds_u8 (hwz zs[j] (List.getElem_mem hzj))
      rw [hg]
      have e1 : ((zs.take len).map fun z => UInt8.ofNat z.toNat)[j] = UInt8.ofNat (zs[j]).toNat := by simp
      rw [e1]
      unfold bc
      have e2 : (UInt8.ofNat (zs[j]).toNat).toNat = (zs[j]).toNat := by simp [UInt8.toNat_ofNat']; omega
      rw [e2]
      congr 2
      omega
end Go.Proofs.YtilbffgpniomcaaGreatDoor

/- manifest: edits and states that come in. -/
namespace Go.Proofs.YtilbffgpniomcaaGreatDoor
open Go.ChangeShapes Go.WideShapes Go.ChangeAt Go.RowKit Go.Joins

/-- In the reach of its numbers. -/
def inI (x : Int) : Prop := -9223372036854775808 ≤ x ∧ x ≤ 9223372036854775807
def inU (r : Ru) : Prop := inI r.f ∧ inI r.l ∧ inI r.c
theorem celblk {w : World} {a : Addr} {v : Value} (h : w.cell? a = some v) : a.block < w.heap.size ∧ a.spot = none := by
  unfold World.cell? at h
  rcases Nat.lt_or_ge a.block w.heap.size with hb | hb
  · refine ⟨hb, ?_⟩
    split at h
    · split at h
      · cases h
      · rename_i hs; cases hsp : a.spot with
        | none => rfl
        | some s => rw [hsp] at hs; simp at hs
    · cases h
  · rw [Array.getElem?_eq_none hb] at h; cases h
theorem celI : Tryz.prog.cellsOf 3 = 1 := by kernel_rfl
theorem celI64 : Tryz.prog.cellsOf 2 = 1 := by kernel_rfl
theorem celUs : Tryz.prog.cellsOf 31 = 1 := by kernel_rfl
theorem celIs : Tryz.prog.cellsOf 50 = 1 := by kernel_rfl
theorem some_len {α : Type} {xs : List α} {n i : Nat} (h : xs.length = n) (hi : i < n) : ∃ y, xs[i]? = some y := ⟨xs[i], by rw [List.getElem?_eq_getElem (by omega)]⟩
theorem thr_of {α : Type} : ∀ {l : List α}, l.length = 3 → ∃ c0 c1 c2, l = [c0, c1, c2]
  | [c0, c1, c2], _ => ⟨c0, c1, c2, rfl⟩
set_option maxRecDepth 100000 in
theorem openU' {H : Type} {enc : TypeId × Value → H} {W : World} {base : Nat} {spare : Nat → Bool} {held : Bool} {c0 c1 c2 : Value} {x : DataW H × List MemPlace} {fuel : Nat}
    (hf : DataW.trod enc Tryz.prog W base spare held fuel 72 [c0, c1, c2] = some x) : ∃ r : Ru, [c0, c1, c2] = r3L r ∧ inU r := by
  obtain ⟨xs, n, _, _, _, hlen, hfs⟩ := DataW.trod_struct Tryz.underlying72 hf
  obtain ⟨y0, g0⟩ := some_len (i := 0) hlen (by decide)
  obtain ⟨y1, g1⟩ := some_len (i := 1) hlen (by decide)
  obtain ⟨y2, g2⟩ := some_len (i := 2) hlen (by decide)
  have e0 := (hfs 0 _ rfl).trans g0
  have e1 := (hfs 1 _ rfl).trans g1
  have e2 := (hfs 2 _ rfl).trans g2
  simp [celI] at e0
  simp [celI] at e1
  simp [celI] at e2
  obtain ⟨a0, q0, _, w0⟩ := DataW.trod_int Tryz.underlying3 e0
  obtain ⟨a1, q1, _, w1⟩ := DataW.trod_int Tryz.underlying3 e1
  obtain ⟨a2, q2, _, w2⟩ := DataW.trod_int Tryz.underlying3 e2
  simp at q0 q1 q2
  subst q0 q1 q2
  exact ⟨⟨a0, a1, a2⟩, rfl, bounds_i64 w0, bounds_i64 w1, bounds_i64 w2⟩
set_option maxRecDepth 100000 in
theorem openUs {H : Type} {enc : TypeId × Value → H} {W : World} {base : Nat} {spare : Nat → Bool} {held : Bool} {cs : List Value} {x : DataW H × List MemPlace} {fuel : Nat}
    (hf : DataW.trod enc Tryz.prog W base spare held fuel 31 cs = some x) : ∃ v L, cs = [v] ∧ UR W v L ∧ ∀ r ∈ L, inU r := by
  rcases Go.Deep.open_slice Tryz.underlying31 hf with ⟨rfl, _⟩ | ⟨x, len, cap, m, n, D, Pl, rfl, _, hl, hm, hz, _, hcell⟩
  · exact ⟨_, [], rfl, ur_nil _, fun r hr => by cases hr⟩
  · have hzl : len ≤ m := by rw [hz]; split <;> omega
    have hce : Tryz.prog.cellsOf 72 = 3 := by kernel_rfl
    rw [hce] at hcell
    have hall : ∀ j, ∃ (y : Ru), j < len → inU y ∧ ∀ i (hi : i < 3), W.cell? ((x.add (j * 3)).add i) = some ((r3L y)[i]'hi) := by
      intro j
      by_cases hj : j < len
      · obtain ⟨cs', hc1, hc2⟩ := hcell j (by omega)
        obtain ⟨_, hl2, hq⟩ := World.cells?_some hc1
        obtain ⟨c0, c1, c2, rfl⟩ := thr_of hl2
        obtain ⟨q, hr, hk⟩ := openU' hc2
        refine ⟨q, fun _ => ⟨hk, fun i hi => ?_⟩⟩
        have h0 := hq i (by simpa using hi)
        rw [h0, hr, List.getElem?_eq_getElem hi]
      · exact ⟨⟨0, 0, 0⟩, fun h => absurd h hj⟩
    obtain ⟨ys, hys⟩ := Classical.axiomOfChoice hall
    have hlen : ((List.range len).map ys).length = len := by simp
    refine ⟨_, (List.range len).map ys, rfl, ⟨⟨_, cap, by rw [hlen], by rw [hlen]; omega, fun j hj => ?_⟩, fun a n c e => ?_, fun n c e => by simp at e⟩, fun r hr => ?_⟩
    · rw [hlen] at hj
      have k0 := (hys j hj).2 0 (by decide)
      have k9 := (hys 0 (by omega)).2 0 (by decide)
      have e9 : (x.add (0 * 3)).add 0 = x := by simp [Addr.add]
      rw [e9] at k9
      obtain ⟨b, off, spot⟩ := x
      have hs : spot = none := (celblk k9).2
      subst hs
      have ea : (⟨b, off, none⟩ : Addr).add (j * 3) = ⟨b, off + j * 3, none⟩ := by simp [Addr.add]
      have eb : ∀ i, (⟨b, off + j * 3, none⟩ : Addr).add i = ⟨b, off + j * 3 + i, none⟩ := fun i => by simp [Addr.add]
      have hb := (celblk k0).1
      rw [ea, eb] at hb
      have g0 := (hys j hj).2 0 (by decide)
      have g1 := (hys j hj).2 1 (by decide)
      have g2 := (hys j hj).2 2 (by decide)
      rw [ea, eb] at g0 g1 g2
      refine ⟨b, off, rfl, hb, ?_, ?_, ?_⟩ <;> simp only [List.getElem_map, List.getElem_range]
      · exact g0
      · exact g1
      · exact g2
    · simp only [Value.slice.injEq] at e
      omega
    · obtain ⟨j, hj, rfl⟩ := List.mem_map.1 hr
      exact (hys j (by simpa using hj)).1
set_option maxRecDepth 100000 in
theorem openDs {H : Type} {enc : TypeId × Value → H} {W : World} {base : Nat} {spare : Nat → Bool} {held : Bool} {cs : List Value} {x : DataW H × List MemPlace} {fuel : Nat}
    (hf : DataW.trod enc Tryz.prog W base spare held fuel 50 cs = some x) : ∃ v l, cs = [v] ∧ JR W v l ∧ (∀ z ∈ l, inI z) ∧ ∀ n c, v = .slice none n c → c = 0 := by
  rcases open_ints Tryz.underlying50 Tryz.underlying3 (by kernel_rfl) hf with ⟨rfl, _⟩ | ⟨x, len, cap, zs, rfl, _, hl, hm, hz, _, hcell, hwz⟩
  · exact ⟨_, [], rfl, jr_nil _, (fun r hr => by cases hr), fun n c e => by simp only [Value.slice.injEq, true_and] at e; omega⟩
  · have hzl : len ≤ zs.length := by rw [hz]; split <;> omega
    have hlen : (zs.take len).length = len := by simp; omega
    refine ⟨_, zs.take len, rfl, ⟨_, cap, by rw [hlen], by rw [hlen]; omega, fun j hj => ?_⟩, fun z hz => bounds_i64 (hwz z (List.mem_of_mem_take hz)), fun n c e => by simp at e⟩
    rw [hlen] at hj
    have cj := hcell j (by omega)
    have k9 := hcell 0 (by omega)
    have e9 : x.add 0 = x := by simp [Addr.add]
    rw [e9] at k9
    obtain ⟨b, off, spot⟩ := x
    have hs : spot = none := (celblk k9).2
    subst hs
    have ea : (⟨b, off, none⟩ : Addr).add j = ⟨b, off + j, none⟩ := by simp [Addr.add]
    have hb := (celblk cj).1
    rw [ea] at cj hb
    refine ⟨b, off, rfl, hb, ?_⟩
    rw [cj]
    have hzj : j < zs.length := by omega
    have hg : zs.getD j 0 = zs[j] := by simp [List.getD, hzj]
    rw [hg]
    simp
/-- An edit, a state that came in. -/
structure EdI (w : World) (v : Value) (x : Ed) : Prop where
  e : ∃ dv av, v = .agg #[dv, av, .int .i64 x.lo, .int .i64 x.ne, .int .i64 x.ma] ∧ JR w dv x.dr ∧ UR w av x.ad
  d : ∀ z ∈ x.dr, inI z
  a : ∀ r ∈ x.ad, inU r
  lo : inI x.lo
  ne : inI x.ne
  ma : inI x.ma
  z : ∀ d av lo ne ma n c, v = .agg #[d, av, lo, ne, ma] → d = .slice none n c → c = 0
structure StI (w : World) (v : Value) (s : St) : Prop where
  e : ∃ rv, v = .agg #[rv, .int .i64 s.lo, .int .i64 s.ne, .int .i64 s.ma] ∧ UR w rv s.ru
  a : ∀ r ∈ s.ru, inU r
  lo : inI s.lo
  ne : inI s.ne
  ma : inI s.ma
theorem EdI.sm {w : World} {v : Value} {x : Ed} (h : EdI w v x) (h1 : x.dr.length ≤ 1000000) (h2 : x.ad.length ≤ 1000000) : smI x := by
  intro z hz
  unfold nmE at hz
  simp only [List.mem_cons, List.mem_append, List.mem_flatMap, List.not_mem_nil, or_false] at hz
  rcases hz with rfl | hz | rfl | ⟨r, hr, hz⟩ | rfl | rfl | rfl
  · omega
  · exact (h.d z hz).2
  · omega
  · have := h.a r hr
    simp only [Ru.n, List.mem_cons, List.not_mem_nil, or_false] at hz
    rcases hz with rfl | rfl | rfl
    · exact this.1.2
    · exact this.2.1.2
    · exact this.2.2.2
  · exact h.lo.2
  · exact h.ne.2
  · exact h.ma.2
theorem arr5 {α : Type} {cs : Array α} (h : cs.size = 5) : ∃ c0 c1 c2 c3 c4, cs = #[c0, c1, c2, c3, c4] := by
  obtain ⟨l⟩ := cs
  match l, h with
  | [c0, c1, c2, c3, c4], _ => exact ⟨c0, c1, c2, c3, c4, rfl⟩
theorem arr4 {α : Type} {cs : Array α} (h : cs.size = 4) : ∃ c0 c1 c2 c3, cs = #[c0, c1, c2, c3] := by
  obtain ⟨l⟩ := cs
  match l, h with
  | [c0, c1, c2, c3], _ => exact ⟨c0, c1, c2, c3, rfl⟩
set_option maxRecDepth 100000 in
theorem openMe {H : Type} {enc : TypeId × Value → H} {W : World} {r : Reach} {b0 base : Nat} {spare : Nat → Bool} {held : Bool} {v : Value} {d : DataW H} {p : List MemPlace}
    (hv : Value.okWide Tryz.prog W r b0 52 v) (h : DataW.Trod enc Tryz.prog W base spare held 52 v d p) : ∃ x : Ed, EdI W v x := by
  obtain ⟨cs, rfl, hsz⟩ := okWide_struct Tryz.underlying52 hv
  obtain ⟨c0, c1, c2, c3, c4, rfl⟩ := arr5 (hsz.trans (by kernel_rfl))
  obtain ⟨fuel, hf⟩ := h
  obtain ⟨xs, n, _, _, _, hlen, hfs⟩ := DataW.trod_struct Tryz.underlying52 hf
  obtain ⟨y0, g0⟩ := some_len (i := 0) hlen (by decide)
  obtain ⟨y1, g1⟩ := some_len (i := 1) hlen (by decide)
  obtain ⟨y2, g2⟩ := some_len (i := 2) hlen (by decide)
  obtain ⟨y3, g3⟩ := some_len (i := 3) hlen (by decide)
  obtain ⟨y4, g4⟩ := some_len (i := 4) hlen (by decide)
  have e0 := (hfs 0 _ rfl).trans g0
  have e1 := (hfs 1 _ rfl).trans g1
  have e2 := (hfs 2 _ rfl).trans g2
  have e3 := (hfs 3 _ rfl).trans g3
  have e4 := (hfs 4 _ rfl).trans g4
  simp [celIs, Value.cells] at e0
  simp [celUs, Value.cells] at e1
  simp [celI, Value.cells] at e2
  simp [celI, Value.cells] at e3
  simp [celI64, Value.cells] at e4
  obtain ⟨dv, dr, q0, hd, hdb, hdz⟩ := openDs e0
  obtain ⟨av, ad, q1, ha, hab⟩ := openUs e1
  obtain ⟨lo, q2, _, w2⟩ := DataW.trod_int Tryz.underlying3 e2
  obtain ⟨ne, q3, _, w3⟩ := DataW.trod_int Tryz.underlying3 e3
  obtain ⟨ma, q4, _, w4⟩ := DataW.trod_int Tryz.underlying2 e4
  simp at q0 q1 q2 q3 q4
  subst q0 q1 q2 q3 q4
  exact ⟨⟨dr, ad, lo, ne, ma⟩, ⟨_, _, rfl, hd, ha⟩, hdb, hab, bounds_i64 w2, bounds_i64 w3, bounds_i64 w4, fun d av lo ne ma n c e1 e2 => by
    subst e2
    simp only [Value.agg.injEq, Array.mk.injEq, List.cons.injEq] at e1
    exact hdz n c e1.1⟩
set_option maxRecDepth 100000 in
theorem openMs {H : Type} {enc : TypeId × Value → H} {W : World} {r : Reach} {b0 base : Nat} {spare : Nat → Bool} {held : Bool} {v : Value} {d : DataW H} {p : List MemPlace}
    (hv : Value.okWide Tryz.prog W r b0 33 v) (h : DataW.Trod enc Tryz.prog W base spare held 33 v d p) : ∃ s : St, StI W v s := by
  obtain ⟨cs, rfl, hsz⟩ := okWide_struct Tryz.underlying33 hv
  obtain ⟨c0, c1, c2, c3, rfl⟩ := arr4 (hsz.trans (by kernel_rfl))
  obtain ⟨fuel, hf⟩ := h
  obtain ⟨xs, n, _, _, _, hlen, hfs⟩ := DataW.trod_struct Tryz.underlying33 hf
  obtain ⟨y0, g0⟩ := some_len (i := 0) hlen (by decide)
  obtain ⟨y1, g1⟩ := some_len (i := 1) hlen (by decide)
  obtain ⟨y2, g2⟩ := some_len (i := 2) hlen (by decide)
  obtain ⟨y3, g3⟩ := some_len (i := 3) hlen (by decide)
  have e0 := (hfs 0 _ rfl).trans g0
  have e1 := (hfs 1 _ rfl).trans g1
  have e2 := (hfs 2 _ rfl).trans g2
  have e3 := (hfs 3 _ rfl).trans g3
  simp [celUs, Value.cells] at e0
  simp [celI, Value.cells] at e1
  simp [celI, Value.cells] at e2
  simp [celI64, Value.cells] at e3
  obtain ⟨rv, ru, q0, hd, hdb⟩ := openUs e0
  obtain ⟨lo, q1, _, w1⟩ := DataW.trod_int Tryz.underlying3 e1
  obtain ⟨ne, q2, _, w2⟩ := DataW.trod_int Tryz.underlying3 e2
  obtain ⟨ma, q3, _, w3⟩ := DataW.trod_int Tryz.underlying2 e3
  simp at q0 q1 q2 q3
  subst q0 q1 q2 q3
  exact ⟨⟨ru, lo, ne, ma⟩, ⟨_, rfl, hd⟩, hdb, bounds_i64 w1, bounds_i64 w2, bounds_i64 w3⟩
end Go.Proofs.YtilbffgpniomcaaGreatDoor

/- manifest: what an edit makes, by its runs. -/
namespace Go.Proofs.YtilbffgpniomcaaGreatDoor
open Go.RowKit Go.Shelf

theorem first_of {l : List Ru} {f : Int} (h : ∃ r ∈ l, r.f = f) : ∃ k, ∃ hk : k < l.length, l[k].f = f ∧ ∀ j (hj : j < l.length), j < k → l[j].f ≠ f := by
  induction l with
  | nil => obtain ⟨r, hr, _⟩ := h; cases hr
  | cons a l ih =>
    by_cases ha : a.f = f
    · exact ⟨0, by simp, ha, fun j hj h => absurd h (by omega)⟩
    · obtain ⟨r, hr, hf⟩ := h
      rcases List.mem_cons.1 hr with rfl | hr
      · exact absurd hf ha
      · obtain ⟨k, hk, h1, h2⟩ := ih ⟨r, hr, hf⟩
        refine ⟨k + 1, by simpa using hk, by simpa using h1, fun j hj hjk => ?_⟩
        cases j with
        | zero => exact ha
        | succ j => simpa using h2 j (by simpa using hj) (by omega)
theorem drop1_len2 {l l' : List Ru} {f : Int} (hu : unl l) (h : drop1 l f = some l') : l'.length + 1 = l.length ∧ unl l' := by
  by_cases he : ∃ r ∈ l, r.f = f
  · obtain ⟨k, hk, h1, h2⟩ := first_of he
    obtain ⟨e, e2⟩ := drop1_found hk hu h1 h2
    rw [e] at h
    simp only [Option.some.injEq] at h
    subst h
    refine ⟨?_, e2⟩
    rw [List.length_eraseIdx, if_pos hk]; omega
  · rw [drop1_none fun r hr hf => he ⟨r, hr, hf⟩] at h
    cases h
theorem dropF_len2 : ∀ {fs : List Int} {l l' : List Ru}, unl l → dropF l fs = some l' → l'.length + fs.length = l.length
  | [], l, l', _, h => by simp only [dropF, Option.some.injEq] at h; subst h; simp
  | f :: fs, l, l', hu, h => by
    rw [dropF] at h
    cases hd : drop1 l f with
    | none => rw [hd] at h; cases h
    | some m =>
      rw [hd] at h
      obtain ⟨a1, a2⟩ := drop1_len2 hu hd
      have b := dropF_len2 a2 h
      rw [List.length_cons]; omega
/-- What Apply made, if it was well. -/
structure ApOk (s t : St) (x : Ed) : Prop where
  ok : okSt t
  len : t.ru.length + x.dr.length = s.ru.length + x.ad.length
  lo : s.lo ≤ t.lo
  ne : s.ne ≤ t.ne
  ma : s.ma ≤ t.ma
  mem : ∀ r ∈ x.ad, r ∈ t.ru
theorem apS_ok {s t : St} {x : Ed} {c : Int} (h : apS s x = (some t, c)) : ApOk s t x := by
  unfold apS at h
  split at h
  · rename_i ho
    cases hd : dropF s.ru x.dr with
    | none => rw [hd] at h; simp at h
    | some l =>
      rw [hd] at h
      simp only at h
      split at h
      · simp at h
      · rename_i hb
        split at h
        · rename_i ht
          simp only [Prod.mk.injEq, Option.some.injEq] at h
          obtain ⟨rfl, _⟩ := h
          have hp : (apT l x).ru.Perm (l ++ x.ad) := putAll_perm x.ad l
          have hl := dropF_len2 (unl_of ho.2.2.2.2.2.2.2) hd
          refine ⟨ht, ?_, ?_, ?_, ?_, fun r hr => hp.symm.subset (List.mem_append_right _ hr)⟩
          · have := hp.length_eq
            rw [List.length_append] at this
            omega
          · show s.lo ≤ x.lo; omega
          · show s.ne ≤ x.ne; omega
          · show s.ma ≤ x.ma; omega
        · simp at h
  · simp at h
theorem apS_cases (s : St) (x : Ed) : (∃ t, apS s x = (some t, 0)) ∨ ∃ c, apS s x = (none, c) ∧ (c = 1 ∨ c = 100) := by
  unfold apS
  split
  · cases dropF s.ru x.dr with
    | none => exact .inr ⟨100, rfl, .inr rfl⟩
    | some l =>
      simp only
      split
      · exact .inr ⟨100, rfl, .inr rfl⟩
      · split
        · exact .inl ⟨_, rfl⟩
        · exact .inr ⟨100, rfl, .inr rfl⟩
  · exact .inr ⟨1, rfl, .inl rfl⟩
end Go.Proofs.YtilbffgpniomcaaGreatDoor
