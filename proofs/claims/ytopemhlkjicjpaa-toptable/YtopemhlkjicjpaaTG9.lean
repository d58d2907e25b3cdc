/- W13 BV OA OB, joined. -/
import Derived.Test.YtopemhlkjicjpaaTG1
import Derived.Test.YtopemhlkjicjpaaTG3
import Derived.Test.YtopemhlkjicjpaaTG8
import Derived.Deep.RegionHeld3
import Derived.Test.YtopemhlkjicjpaaRows
import Derived.WalkKit
import Derived.Laws.Strings
import Derived.ProofKit
import Derived.OpenShut
import Derived.Lib.SmallJoins
/- The contract of wide.Read at sixteen bytes. -/
namespace Go.Proofs.Ytopemhlkjicjpaa
open Go.RowKit

theorem getD_take (l : List Int) (k i : Nat) (h : i < k) : (l.take k).getD i 0 = l.getD i 0 := by
  simp [h]
theorem getD_drop (l : List Int) (k i : Nat) : (l.drop k).getD i 0 = l.getD (k + i) 0 := by
  simp [List.getElem?_drop]

set_option maxRecDepth 100000 in
set_option maxHeartbeats 1000000 in
theorem wideRead16 (b off cap : Nat) (zs : List Int) (hl : zs.length = 16) (hz : ∀ x ∈ zs, 0 ≤ x ∧ x ≤ 255) (hcap : 16 ≤ cap) (hcap2 : cap ≤ maxLen) (w : World) (hbw : b < w.heap.size)
    (hc : ∀ i, i < 16 → w.cell? ⟨b, off + i, none⟩ = some (.int .u8 (zs.getD i 0))) :
    Calls Try.prog 76 #[.slice (some ⟨b, off, none⟩) 16 cap] w fun e w' => e = .returned (.tuple #[.agg #[.int .i64 (IntKind.i64.wrap (beval (zs.take 8))), .int .u64 (beval (zs.drop 8))], .int .i64 0]) ∧ Below w.heap.size w w' := by
  unfold maxLen at hcap2
  have HC1 : Hid (∀ i, i < 8 → ((w.alloc (.cells #[.int .i64 0, .int .u64 0] 32)).drew).cell? ⟨b, off + i, none⟩ = some (.int .u8 ((zs.take 8).getD i 0))) := by
    intro i hi
    rw [getD_take zs 8 i hi, ← hc i (by omega)]
    exact World.cell?_alloc_lt w _ ⟨b, off + i, none⟩ hbw
  have HC2 : Hid (∀ i, i < 8 → ((w.alloc (.cells #[.int .i64 0, .int .u64 0] 32)).drew).cell? ⟨b, off + 8 + i, none⟩ = some (.int .u8 ((zs.drop 8).getD i 0))) := by
    intro i hi
    rw [getD_drop zs 8 i, ← hc (8 + i) (by omega), Nat.add_assoc]
    exact World.cell?_alloc_lt w _ ⟨b, off + (8 + i), none⟩ hbw
  have HZ1 : Hid (∀ x ∈ zs.take 8, 0 ≤ x ∧ x ≤ 255) := fun x hx => hz x (List.mem_of_mem_take hx)
  have HZ2 : Hid (∀ x ∈ zs.drop 8, 0 ≤ x ∧ x ≤ 255) := fun x hx => hz x (List.mem_of_mem_drop hx)
  have HL1 : Hid ((zs.take 8).length = 8) := by unfold Hid; rw [List.length_take]; omega
  have HL2 : Hid ((zs.drop 8).length = 8) := by unfold Hid; rw [List.length_drop]; omega
  clear hc hz hl
  generalize zs.take 8 = z1 at *
  generalize zs.drop 8 = z2 at *
  have h8 : (8 : Int) ≤ (cap : Int) := by omega
  have h16 : (8 : Int) ≤ (16 : Int) := by omega
  go_enter Try.func76, Try.ntmps76
  go_wp2_with fail
  go_region_held3 (fun w' => b < w'.heap.size) ((simp; omega))
    (first
      | (go_at_call_of 77 (Value.slice (some ⟨b, off, none⟩) 8 cap); refine (wordRead_any b off cap z1 HL1.out HZ1.out _ HC1.out).mono ?_; rintro e w' ⟨rfl, rfl⟩)
      | (go_at_call 77; refine (wordRead_any b (off + 8) (cap - 8) z2 HL2.out HZ2.out _ HC2.out).mono ?_; rintro e w' ⟨rfl, rfl⟩))
  go_wp2_with fail
  refine bodyPost_ret (v := .tuple #[.agg #[.int .i64 (IntKind.i64.wrap (beval z1)), .int .u64 (beval z2)], .int .i64 0]) (by simp [results, Try.results76, go_sem]) rfl ⟨rfl, ?_⟩
  exact ((Below.refl _ _).alloc (by simp) _).drew
end Go.Proofs.Ytopemhlkjicjpaa

/- Plain words on the order of bytes: no program in sight. -/
namespace Go.Proofs.Ytopemhlkjicjpaa
open Go.RowKit

/-- The value of bytes, the greatest first. -/
def bv : List UInt8 → Nat
  | [] => 0
  | x :: l => x.toNat * 256 ^ l.length + bv l
theorem bv_lt (l : List UInt8) : bv l < 256 ^ l.length := by
  induction l with
  | nil => simp [bv]
  | cons x l ih =>
    have hx := UInt8.toNat_lt x
    have h1 : x.toNat * 256 ^ l.length ≤ 255 * 256 ^ l.length := Nat.mul_le_mul_right _ (by omega)
    have h2 : 256 ^ (l.length + 1) = 256 * 256 ^ l.length := by rw [Nat.pow_succ, Nat.mul_comm]
    simp only [bv, List.length_cons]
    rw [h2]
    generalize 256 ^ l.length = q at *
    omega
end Go.Proofs.Ytopemhlkjicjpaa

/- What is known, as an argument by value: the value written out. -/
namespace Go.Proofs.Ytopemhlkjicjpaa
open Go.ChangeShapes Go.WideShapes Go.ChangeAt Go.RowKit Go.Joins

theorem cellsA : Try.prog.cellsOf 34 = 6 := by kernel_rfl
theorem cellsWd : Try.prog.cellsOf 32 = 2 := by kernel_rfl
theorem cells64 : Try.prog.cellsOf 2 = 1 := by kernel_rfl
theorem cellsU64 : Try.prog.cellsOf 30 = 1 := by kernel_rfl
theorem cellsBool : Try.prog.cellsOf 4 = 1 := by kernel_rfl
theorem some_of_len {α : Type} {xs : List α} {n i : Nat} (h : xs.length = n) (hi : i < n) : ∃ y, xs[i]? = some y := ⟨xs[i], by rw [List.getElem?_eq_getElem (by omega)]⟩

/-- The facts on what is known that come with its kind. -/
structure AgOk (a : Ag) : Prop where
  c1 : 0 ≤ a.c
  c2 : a.c < 18446744073709551616
  n1 : -9223372036854775808 ≤ a.mn
  n2 : a.mn ≤ 9223372036854775807
  x1 : -9223372036854775808 ≤ a.mx
  x2 : a.mx ≤ 9223372036854775807
  s1 : -170141183460469231731687303715884105728 ≤ a.s
  s2 : a.s < 170141183460469231731687303715884105728

end Go.Proofs.Ytopemhlkjicjpaa

/- Bytes, as an argument: what the slice reads. -/
namespace Go.Proofs.Ytopemhlkjicjpaa
open Go.ChangeShapes Go.WideShapes Go.ChangeAt Go.RowKit Go.Joins

theorem cell_block {w : World} {a : Addr} {v : Value} (h : w.cell? a = some v) : a.block < w.heap.size ∧ a.spot = none := by
  unfold World.cell? at h
  rcases Nat.lt_or_ge a.block w.heap.size with hb | hb
  · refine ⟨hb, ?_⟩
    split at h
    · split at h
      · cases h
      · rename_i hs; cases hsp : a.spot with
        | none => rfl
        | some s => rw [hsp] at hs; simp at hs
    · cases h
  · rw [Array.getElem?_eq_none hb] at h; cases h
set_option maxRecDepth 100000 in
theorem openB {H : Type} {enc : TypeId × Value → H} {W : World} {r : Reach} {b0 base : Nat} {spare : Nat → Bool} {held : Bool} {v : Value} {d : DataW H} {p : List MemPlace}
    (hv : Value.okWide Try.prog W r b0 23 v) (h : DataW.Trod enc Try.prog W base spare held 23 v d p) :
    ∃ l : List UInt8, Reads W v l := by
  obtain ⟨a, len, cap, rfl⟩ := okWide_slice Try.underlying23 hv
  obtain ⟨fuel, hf⟩ := h
  rcases open_ints Try.underlying23 Try.underlying5 (by kernel_rfl) hf with ⟨hcs, _⟩ | ⟨x, l, c, zs, hcs, _, hl, hm, hz, _, hcell, hwz⟩
  · simp [Value.cells] at hcs
    obtain ⟨rfl, rfl, rfl⟩ := hcs
    exact ⟨[], .inl ⟨rfl, _, _, rfl, fun _ => rfl⟩⟩
  · simp [Value.cells] at hcs
    obtain ⟨rfl, rfl, rfl⟩ := hcs
    have hzl : len ≤ zs.length := by rw [hz]; split <;> omega
    rcases Nat.eq_zero_or_pos len with h0 | h0
    · subst h0; exact ⟨[], .inl ⟨rfl, _, _, rfl, fun h => by cases h⟩⟩
    · refine ⟨(zs.take len).map fun z => UInt8.ofNat z.toNat, .inr ?_⟩
      have hlen : ((zs.take len).map fun z => UInt8.ofNat z.toNat).length = len := by simp; omega
      have c0 := hcell 0 (by omega)
      have e0 : x.add 0 = x := by simp [Addr.add]
      rw [e0] at c0
      obtain ⟨hb, hs⟩ := cell_block c0
      obtain ⟨b, off, spot⟩ := x
      simp only at hb hs
      subst hs
      refine ⟨b, off, cap, by rw [hlen], by omega, by omega, hm, hb, fun j hj => ?_⟩
      have hj' : j < len := by omega
      have cj := hcell j (by omega)
      have ea : (⟨b, off, none⟩ : Addr).add j = ⟨b, off + j, none⟩ := by simp [Addr.add]
      rw [ea] at cj
      rw [cj]
      have hzj : j < zs.length := by omega
      have hg : zs.getD j 0 = zs[j] := by simp [List.getD, hzj]
      have hw := bounds_u8 (hwz zs[j] (List.getElem_mem hzj))
      rw [hg]
      have e1 : ((zs.take len).map fun z => UInt8.ofNat z.toNat)[j] = UInt8.ofNat (zs[j]).toNat := by simp
      rw [e1]
      unfold bc
      have e2 : (UInt8.ofNat (zs[j]).toNat).toNat = (zs[j]).toNat := by simp [UInt8.toNat_ofNat']; omega
      rw [e2]
      congr 2
      omega
end Go.Proofs.Ytopemhlkjicjpaa
