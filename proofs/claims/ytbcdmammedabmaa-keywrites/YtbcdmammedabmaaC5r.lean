/- The contracts of the reference's Number and ReadNumber. -/
import Derived.Test.YtbcdmammedabmaaC9
namespace Go.Proofs.Ytbcdmammedabmaa
open Go.RowKit

theorem nb_get (v : Int) (k : Nat) (h : k < 8) : (nb v)[k]'(by rw [nb_len]; exact h) = UInt8.ofNat (byteOf (v + 9223372036854775808) k).toNat := by
  have e1 : k / 8 = 0 := by omega
  have e2 : k % 8 = k := by omega
  unfold nb eight bytesTo
  simp [e1, e2]
theorem nb_snoc (v : Int) (k : Nat) (h : k < 8) : (nb v).take (k + 1) = (nb v).take k ++ [UInt8.ofNat (byteOf (v + 9223372036854775808) k).toNat] := by
  rw [List.take_succ_eq_append_getElem (by rw [nb_len]; exact h), nb_get v k h]
theorem worth_eq (k : Nat) (h : k < 8) : (72057594037927936 / 256 ^ k : Nat) = 2 ^ (8 * (7 - k)) := by
  match k, h with
  | 0, _ => decide
  | 1, _ => decide
  | 2, _ => decide
  | 3, _ => decide
  | 4, _ => decide
  | 5, _ => decide
  | 6, _ => decide
  | 7, _ => decide
theorem worth_next (k : Nat) : (72057594037927936 / 256 ^ k / 256 : Nat) = 72057594037927936 / 256 ^ (k + 1) := by
  rw [Nat.div_div_eq_div_mul, Nat.pow_succ]
set_option maxRecDepth 100000 in
set_option maxHeartbeats 1000000 in
theorem refNumber_any (v : Int) (h1 : -9223372036854775808 ≤ v) (h2 : v ≤ 9223372036854775807) (w : World) :
    Calls Try.prog 27 #[.int .i64 v] w fun e w' => ∃ x, e = .returned x ∧ w'.ownsRow w.heap.size 5 1 x 8 ((nb v).map bc) ∧ Below w.heap.size w w' := by
  obtain ⟨i0, hi, hz0, hz1, hz2⟩ := info_parts info5
  obtain ⟨U, hU⟩ : ∃ U, U = v + 9223372036854775808 := ⟨_, rfl⟩
  have hu : IntKind.u64.wrap (IntKind.u64.wrap v + 9223372036854775808) = U := by rw [IntKind.wrap_u64, IntKind.wrap_u64]; omega
  have u1 : 0 ≤ U := by omega
  have u2 : U < 18446744073709551616 := by omega
  have HU : Hid (v + 9223372036854775808 = U) := hU.symm
  clear hU h1 h2
  go_enter Try.func27, Try.ntmps27
  go_wp2_with fail
  go_loopw [3, 5, 6] (fun x wo i wr => ∃ k : Nat, k ≤ 8 ∧ i = .int .i64 (k : Int) ∧ wo = .int .u64 ((72057594037927936 / 256 ^ k : Nat) : Int) ∧ wr.ownsRow w.heap.size 5 1 x k (((nb v).take k).map bc) ∧ Below w.heap.size w wr) (fun _ _ i _ => 8 - (intOf i).toNat)
  case atStart => exact ⟨0, by omega, rfl, rfl, World.ownsRow_nil _ _ _ _, Below.refl _ _⟩
  case round =>
    obtain ⟨k, hk, rfl, rfl, hown, hbr⟩ := hrel
    have hsz := hbr.size
    clear hu
    by_cases hlt : k < 8
    · have HSN : Hid _ := nb_snoc v k hlt
      have hwe := worth_eq k hlt
      have hwn := worth_next k
      have hby := byteOf_bd U k
      have hbe : byteOf U k = U / ((72057594037927936 / 256 ^ k : Nat) : Int) % 256 := by
        unfold byteOf; rw [hwe, Int.natCast_pow]; rfl
      have hpos : 0 < (72057594037927936 / 256 ^ k : Nat) := by rw [hwe]; exact Nat.pow_pos (by omega)
      have hle : (72057594037927936 / 256 ^ k : Nat) ≤ 72057594037927936 := Nat.div_le_self _ _
      generalize hq : (72057594037927936 / 256 ^ k : Nat) = q at *
      generalize hq1 : (72057594037927936 / 256 ^ (k + 1) : Nat) = q1 at *
      have hq0 : (q : Int) ≠ 0 := by omega
      have et : Int.tdiv U (q : Int) = U / (q : Int) := Int.tdiv_eq_ediv_of_nonneg u1
      have d1 : 0 ≤ U / (q : Int) := Int.ediv_nonneg u1 (by omega)
      have d2 : U / (q : Int) ≤ U := Int.ediv_le_self _ u1
      have hwq : (q : Int) / 256 = (q1 : Int) := by omega
      have hm : ((nb v).take k).length = k := by simp [nb_len]; omega
      have HBB : Hid (0 ≤ byteOf U k ∧ byteOf U k ≤ 255) := hby
      have HBE : Hid (byteOf U k = U / (q : Int) % 256) := hbe
      clear hwe hwn hby hbe
      go_wp2_with (at_builtin; refine wpList_append_own _ rfl _ _ 25 rfl w.heap.size 5 i0 (.int .u8 0) 1 1 Try.underlying25 hi hz0 hz1 hz2 rfl (by decide) _ _ _ rfl (hown.alloc _) ⟨wr.heap.size, 0, none⟩ 1 1 [.int .u8 (U / (q : Int) % 256)] rfl rfl news1 one1 (len_ok (by omega)).1 (len_ok (by omega)).2 (al_ok hsz) ?_)
      intro v' w1 hown' hgrow _
      have HO2 : Hid (w1.ownsRow w.heap.size 5 1 v' (k + 1) (((nb v).take (k + 1)).map bc)) := by
        rw [HSN.out, HU.out, List.map_append, List.map_take]
        simp only [List.map_cons, List.map_nil]
        have hb := HBB.out
        rw [bc_of (by omega), Int.toNat_of_nonneg hb.1, HBE.out]
        exact hown'
      have HB2 : Hid (Below w.heap.size w w1) := (hbr.alloc hbr.size _).grown hgrow (al_ok hsz) (own_block hown)
      clear hown hown' hgrow hbr hsz HSN HBB HBE et d1 d2
      go_wp2_with fail
      go_roundw
      case rel => exact ⟨k + 1, by omega, by go_num, by rw [hq1], HO2.out, HB2.out⟩
      case measure => simp [intOf]; omega
    · have hke : k = 8 := by omega
      subst hke
      have e : (nb v).take 8 = nb v := List.take_of_length_le (by rw [nb_len]; omega)
      rw [e] at hown
      have HO2 : Hid _ := hown
      have HB2 : Hid (Below w.heap.size w wr) := hbr
      clear hown hbr e
      generalize (72057594037927936 / 256 ^ 8 : Nat) = q at *
      go_wp2_with fail
      go_ret
      exact ⟨_, rfl, HO2.out, HB2.out⟩

set_option maxRecDepth 100000 in
set_option maxHeartbeats 1000000 in
theorem refReadNumber_any (v : Value) (l : List UInt8) (w : World) (h : Reads w v l) :
    Calls Try.prog 31 #[v] w fun e w' => e = .returned (.tuple #[.int .i64 (rnF l).1, .int .i64 (rnF l).2.1, .int .i64 (rnF l).2.2]) ∧ Below w.heap.size w w' := by
  by_cases h8 : l.length < 8
  · have e : rnF l = (0, 0, 10) := by unfold rnF; rw [if_pos h8]
    rw [e]
    obtain ⟨a, cap, rfl, _⟩ := h.form
    have i1 : (l.length : Int) < 8 := by omega
    clear h e
    go_enter Try.func31, Try.ntmps31
    go_wp2_with fail
    go_ret3
    exact ⟨rfl, Below.refl _ _⟩
  · have e : rnF l = (beval ((l.take 8).map fun x => (x.toNat : Int)) - 9223372036854775808, 8, 0) := by unfold rnF; rw [if_neg h8]
    rw [e]
    rcases h with ⟨rfl, a, cap, rfl, _⟩ | ⟨b, off, cap, rfl, g2, g3, g4, g5, g6⟩
    · simp at h8
    obtain ⟨zs, hzs⟩ : ∃ zs, zs = ((l.take 8).map fun x => (x.toNat : Int)) := ⟨_, rfl⟩
    rw [← hzs]
    have hlen : zs.length = 8 := by rw [hzs]; simp; omega
    have hz : ∀ x ∈ zs, 0 ≤ x ∧ x ≤ 255 := by
      rw [hzs]
      intro x hx
      obtain ⟨y, _, rfl⟩ := List.mem_map.1 hx
      have := UInt8.toNat_lt y
      omega
    have hcc : ∀ i, i < 8 → w.cell? ⟨b, off + i, none⟩ = some (.int .u8 (zs.getD i 0)) := by
      intro i hi
      rw [g6 i (by omega), hzs]
      unfold bc
      have e : ((l.take 8).map fun x => (x.toNat : Int)).getD i 0 = (l[i]'(by omega)).toNat := by
        have hl' : i < l.length := by omega
        simp [hi, List.getElem?_eq_getElem hl']
      rw [e]
    have i1 : ¬ (l.length : Int) < 8 := by omega
    have i2 : (8 : Int) ≤ (l.length : Int) := by omega
    have HBE : Hid _ := beval8 zs hlen hz
    clear g6 h8 e hzs
    go_enter Try.func31, Try.ntmps31
    go_wp2_with fail
    go_loop [5, 6] (fun n i => ∃ k : Nat, k ≤ 8 ∧ i = .int .i64 k ∧ n = .int .u64 (beval (zs.take k))) (fun _ i => 8 - (intOf i).toNat)
    case atStart => exact ⟨0, by omega, rfl, rfl⟩
    case round =>
      obtain ⟨k, hk, rfl, rfl⟩ := hrel
      by_cases hlt : k < 8
      · have hcell := hcc k hlt
        have hx := hz _ (getD_mem zs k (by omega))
        have HT : Hid _ := beval_take zs k (by omega)
        have hb := beval_bd zs hz k
        have hki : (k : Int) < (l.length : Int) := by omega
        have hq : (256 : Int) ^ k ≤ 72057594037927936 := by
          have : (256 : Int) ^ k ≤ 256 ^ 7 := by
            have h7 : (256 : Nat) ^ k ≤ 256 ^ 7 := Nat.pow_le_pow_right (by omega) (by omega)
            exact_mod_cast h7
          simpa using this
        generalize zs.getD k 0 = x at *
        generalize beval (zs.take k) = n at *
        generalize (256 : Int) ^ k = q at *
        obtain ⟨n1, n2⟩ := hb
        obtain ⟨x1, x2⟩ := hx
        have n3 : n < 72057594037927936 := by omega
        have hc5 : 256 * n + x = n * 256 + x := by omega
        clear hcc hq n2
        go_wp2_with fail
        go_round
        case rel => exact ⟨k + 1, by omega, by go_num, by rw [HT.out]⟩
        case measure => simp [intOf]; omega
      · have hke : k = 8 := by omega
        subst hke
        have e : zs.take 8 = zs := List.take_of_length_le (by omega)
        rw [e]
        have hb1 := HBE.out.1
        have hb2 := HBE.out.2
        clear hcc hz hlen HBE e
        obtain ⟨n, HNE⟩ : ∃ n, Hid (n = beval zs) := ⟨_, rfl⟩
        rw [← HNE.out] at hb1 hb2 ⊢
        have ht : IntKind.i64.wrap (IntKind.u64.wrap (n - 9223372036854775808)) = n - 9223372036854775808 := by
          rw [IntKind.wrap_u64, IntKind.wrap_i64]; omega
        clear hb1 hb2
        go_wp2_with fail
        go_ret3
        exact ⟨by rw [← HNE.out]; rfl, Below.refl _ _⟩
end Go.Proofs.Ytbcdmammedabmaa
