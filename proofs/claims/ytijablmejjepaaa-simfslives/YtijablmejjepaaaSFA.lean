/- A file system: Read. -/
import Derived.Test.YtijablmejjepaaaSF9
namespace Go.Proofs.Ytijablmejjepaaa
open Go.RowKit Go.Maps

theorem run_copy_zero {w : World} (ty : TypeId) (d : Option Addr) (dc : Nat) (a : Option Addr) (c : Nat) : (Builtin.copy_ #[31, 31] ty #[.slice d 0 dc, .slice a 0 c]).run Try.prog w = .ok (goInt 0) w := by
  have h1 : (Builtin.firstCells 1 0 (.slice a 0 c)).run Try.prog w = .ok #[] w := by cases a <;> simp [Builtin.firstCells, loadCells, loadCellsFrom]
  cases d <;> simp [Builtin.copy_, run_underlying Try.underlying31, Builtin.lenOf, Result.andThen, h1, storeCells]
theorem mkcopy {w : World} {v : Value} {l : List UInt8} (hR : Reads w v l) (hl : l.length ≤ 1048576) :
    ∃ w3 w4, (Instr.makeSlice 31 (.int .i64 (l.length : Int)) (.int .i64 (l.length : Int))).run Try.prog w = .ok (.slice (some ⟨w.heap.size, 0, none⟩) l.length l.length) w3 ∧ Below w.heap.size w w3 ∧
      (Builtin.copy_ #[31, 31] 3 #[.slice (some ⟨w.heap.size, 0, none⟩) l.length l.length, v]).run Try.prog w3 = .ok (goInt l.length) w4 ∧ Own w4 w.heap.size (.slice (some ⟨w.heap.size, 0, none⟩) l.length l.length) l ∧ Below w.heap.size w w4 := by
  obtain ⟨i0, hi0, hz0, hz1, hz2⟩ := info_parts info5
  obtain ⟨w3, hrn, hown3, hg3⟩ := run_make_full (P := Try.prog) w w.heap.size 31 5 i0 (.int .u8 0) 1 Try.underlying31 hi0 hz0 hz1 .i64 .i64 l.length (by rw [hz2]; omega) (by unfold maxLen; omega) (Nat.le_refl _)
  rw [Nat.mul_one] at hown3
  have hO3 : Own w3 w.heap.size (.slice (some ⟨w.heap.size, 0, none⟩) l.length l.length) (List.replicate l.length 0) := own_zeros hown3
  have hB3 : Below w.heap.size w w3 := (Below.refl _ _).grown hg3 (Nat.le_refl _) (fun k hk => by cases hk)
  rcases Nat.eq_zero_or_pos l.length with h0 | h0
  · obtain ⟨a, cap, rfl, _⟩ := hR.form
    have hn : l = [] := List.length_eq_zero_iff.1 h0
    subst hn
    exact ⟨w3, w3, hrn, hB3, run_copy_zero _ _ _ _ _, hO3, hB3⟩
  · obtain ⟨w4, hcp, hO4, hb4, _⟩ := copy_own (off := 0) 3 hO3 (hR.below hB3) h0 (by simp)
    rw [List.take_zero, List.nil_append] at hO4
    rw [Nat.sub_zero] at hcp
    exact ⟨w3, w4, hrn, hB3, hcp, hO4, hB3.trans (hb4.out.mono (Nat.le_refl _))⟩
def sfRead (s : SfS) (n : List UInt8) : List UInt8 := match sfLook n s.dir with
  | none => []
  | some i => (s.fl i).1
theorem read_any {w : World} {O : Nat → Prop} {g m1 m2 : Nat} {pv : Value} {bl : Nat → Nat} {vs : Nat → Value} {s : SfS} (h : FsAt w O g m1 m2 pv bl vs s) (hw : SfWf s) (n : List UInt8) (hn : n.length ≤ maxLen) :
    Calls Try.prog 16 #[.pointer (some ⟨g, 0, none⟩), .string ⟨n.toArray⟩] w fun e w' => ∃ v, e = .returned (.tuple #[v, .int .i64 (sfFe (sfLook n s.dir))]) ∧ Own w' w.heap.size v (sfRead s n) ∧ Below w.heap.size w w' := by
  have HF : Hid (FsAt w O g m1 m2 pv bl vs s) := h
  have hfd := find_any h hw n hn
  have hdi := hw.di
  have hfl := fun i => (hw.fl32 i).1
  clear h hw
  unfold sfRead
  cases hL : sfLook n s.dir with
  | none =>
    rw [hL] at hfd
    simp only [sfPv, sfFe] at hfd ⊢
    go_enter Try.func16, Try.ntmps16
    go_wp2_with (go_at_call 36; refine hfd.mono ?_; rintro e w' ⟨rfl, hw'⟩; subst w')
    go_ret2
    exact ⟨_, rfl, Own.nil _ _, Below.refl _ _⟩
  | some i =>
    rw [hL] at hfd
    simp only [sfPv, sfFe] at hfd ⊢
    have hi : i < s.fls.length := (hdi _ (look_mem hL)).1
    obtain ⟨hf, hb⟩ := HF.out.file hi
    have hRd := hb.reads
    obtain ⟨va, vc, hv, -⟩ := hb.form
    rw [hv] at hf hRd
    obtain ⟨w3, w4, hmk, hB3, hcp, hO4, hB4⟩ := mkcopy hRd (hfl i)
    have x0 := cell_of hf 0 _ rfl
    have x3 := cell_of ((hB3.block _ (Array.getElem?_eq_some_iff.1 hf).1).trans hf) 0 _ rfl
    have HO4 : Hid (Own w4 w.heap.size (.slice (some ⟨w.heap.size, 0, none⟩) (s.fl i).1.length (s.fl i).1.length) (s.fl i).1) := hO4
    have HB4 : Hid (Below w.heap.size w w4) := hB4
    have hlb := hfl i
    clear hf hb hRd hv hO4 hB4 hB3 hL hi hdi hfl
    generalize (s.fl i).1 = l at *
    go_enter Try.func16, Try.ntmps16
    go_wp2_with (go_at_call 36; refine hfd.mono ?_; rintro e w' ⟨rfl, hw'⟩; subst w')
    go_ret2
    exact ⟨_, rfl, HO4.out, HB4.out⟩
end Go.Proofs.Ytijablmejjepaaa
