/- TO1 C1q RK1 RK2, joined. -/
import Derived.Test.YtlpjdfgknmfmnaaTF17
import Derived.Test.YtlpjdfgknmfmnaaTF30
/- Plain words: what the reference's Open of layer 10 makes of bytes. -/
namespace Go.Proofs.Ytlpjdfgknmfmnaa
open Go.RowKit

/-- A row that the reference reads, every value of it. -/
def rowOk (r : List UInt8) : Prop := match rdB r with
  | none => False
  | some ps => ∀ p ∈ ps, rdR p.2 = 0
def rfW (b : List UInt8) : List (List UInt8) := (opR b).take ((opR b).length - 3)
def rfL (b : List UInt8) : List Et := (rfW b).flatMap enF
/-- The reference says yes. -/
def rfOk (b : List UInt8) : Prop := (∀ r ∈ rfW b, rowOk r) ∧ twE (rfL b) = 0 ∧ twB (rfL b) = b
theorem rfL_ok (b : List UInt8) : ∀ x ∈ rfL b, AgOk x.2 := by
  intro x hx
  obtain ⟨r, _, hr⟩ := List.mem_flatMap.1 hx
  exact enF_ok r x hr
theorem wbF_ge41 : ∀ (l : List Pr) (i : Nat) (ah : Ks), (∀ p ∈ l, p.2.length = 41) → 41 * l.length ≤ (wbF i ah l).length
  | [], _, _, _ => by simp
  | x :: l, i, ah, h => by
    have ih := wbF_ge41 l (i + 1) x.1 (fun p hp => h p (List.mem_cons_of_mem _ hp))
    have hx := h x (List.mem_cons_self ..)
    have h1 := pb_len i ah x
    rw [wbF, List.length_append, List.length_cons]
    omega
theorem rowOk_len {r : List UInt8} (h : rowOk r) : 41 * (enF r).length ≤ r.length := by
  unfold enF
  rw [List.length_map]
  unfold rowOk at h
  cases hr : rdB r with
  | none => simp
  | some l =>
    rw [hr] at h
    have h1 := (rdB_back hr).2
    have h2 := wbF_ge41 l 0 [] (fun p hp => by
      have := h p hp
      unfold rdR at this
      by_cases a : p.2.length < 41
      · rw [if_pos a] at this; cases this
      · rw [if_neg a] at this
        by_cases c : 41 < p.2.length
        · rw [if_pos c] at this; cases this
        · omega)
    unfold wb at h1
    rw [h1] at h2
    exact h2
theorem flat_sum41 : ∀ L : List (List UInt8), (∀ r ∈ L, rowOk r) → 41 * (L.flatMap enF).length ≤ (L.map List.length).sum
  | [], _ => by simp
  | x :: L, h => by
    have := flat_sum41 L (fun r hr => h r (List.mem_cons_of_mem _ hr))
    have := rowOk_len (h x (List.mem_cons_self ..))
    rw [List.flatMap_cons, List.length_append, List.map_cons, List.sum_cons]
    omega
theorem rfL_bd2 {b : List UInt8} (h : ∀ r ∈ rfW b, rowOk r) : 41 * (rfL b).length ≤ b.length := by
  have h1 := flat_sum41 (rfW b) h
  have h2 := sum_take (opR b) ((opR b).length - 3)
  have h3 := opR_sum b
  unfold rfL
  unfold rfW at h1 ⊢
  omega
theorem rowOk_row {l : List Et} (h : TOk l) (hA : ∀ x ∈ l, AgOk x.2) (j : Nat) : rowOk (tRow l j) := by
  have h0 := rowP_ok h j
  unfold rowOk tRow
  rw [wrB_of h0, rdB_wb h0]
  intro p hp
  unfold rowP at hp
  obtain ⟨x, hx, rfl⟩ := List.mem_map.1 hp
  have hm := tCh_mem hx
  have hr := (h.a x hm).2
  show rdR (wrU x.2) = 0
  unfold wrU
  rw [if_pos hr]
  have hg : rdG (aggU x.2) := by
    refine ⟨?_, by rw [dec_aggU _ (hA x hm)]; exact hr⟩
    unfold aggU; cases x.2.o <;> simp
  unfold rdR
  rw [if_neg (by rw [aggU_len]; decide), if_neg (by rw [aggU_len]; decide), if_pos hg]
theorem op_rf {b : List UInt8} (h : opOk b) : rfOk b ∧ rfL b = opL b := by
  obtain ⟨_, h2, h3⟩ := h
  have hA := opL_ok b
  have hT := (twE_zero h2).1
  have hR := opR_tab h2 h3
  have hW : rfW b = tRows (opL b) := by
    unfold rfW
    rw [hR, tabL_len, Nat.add_sub_cancel]
    unfold tabL
    rw [List.take_append_of_le_length (by rw [tRows_len]; exact Nat.le_refl _), List.take_of_length_le (by rw [tRows_len]; exact Nat.le_refl _)]
  have hL : rfL b = opL b := by unfold rfL; rw [hW]; exact flat_rows hT hA
  refine ⟨⟨fun r hr => ?_, by rw [hL]; exact h2, by rw [hL]; exact h3⟩, hL⟩
  rw [hW] at hr
  unfold tRows at hr
  obtain ⟨j, _, rfl⟩ := List.mem_map.1 hr
  exact rowOk_row hT hA j
theorem rf_op {b : List UInt8} (h : rfOk b) : opOk b := by
  have := (op_back h.2.1 (rfL_ok b)).2
  rwa [h.2.2] at this
end Go.Proofs.Ytlpjdfgknmfmnaa

/- The contracts of the reference's Short and ReadShort (in a seat of layer 9). -/
namespace Go.Proofs.Ytlpjdfgknmfmnaa
open Go.RowKit

theorem own_belowQ {w w' : World} {base : Nat} {e : TypeId} {v : Value} {n : Nat} {xs : List Value} (h : w.ownsRow base e 1 v n xs) (hb : Below w.heap.size w w') : w'.ownsRow base e 1 v n xs := by
  refine ⟨h.1, ?_⟩
  rcases h.2 with h2 | ⟨g, cap, cur, hv, hg, hw, r⟩
  · exact .inl h2
  · refine .inr ⟨g, cap, cur, hv, hg, ?_, r⟩
    rw [hb.block g (Array.getElem?_eq_some_iff.1 hw).1]; exact hw
set_option maxRecDepth 100000 in
set_option maxHeartbeats 1000000 in
theorem refShort_lo (n : Nat) (hn : n < 128) (w : World) :
    Calls Try.prog 68 #[.int .u64 (n : Int)] w fun e w' => ∃ v, e = .returned v ∧ w'.ownsRow w.heap.size 5 1 v (sh n).length ((sh n).map bc) ∧ Below w.heap.size w w' := by
  obtain ⟨i0, hi, hz0, hz1, hz2⟩ := info_parts info5
  have hlti : (n : Int) < 128 := by omega
  have hown : w.ownsRow w.heap.size 5 1 (.slice none 0 0) 0 [] := World.ownsRow_nil _ _ _ _
  have hsz : w.heap.size ≤ w.heap.size := Nat.le_refl _
  go_enter Try.func68, Try.ntmps68
  go_wp2_with (at_builtin; refine wpList_append_own _ rfl _ _ 25 rfl w.heap.size 5 i0 (.int .u8 0) 1 1 Try.underlying25 hi hz0 hz1 hz2 rfl (by decide) _ _ _ rfl (hown.alloc _) ⟨w.heap.size, 0, none⟩ 1 1 [.int .u8 (n : Int)] rfl rfl news1 one1 (len_ok (by omega)).1 (len_ok (by omega)).2 (al_ok hsz) ?_)
  intro v' w1 hown' hgrow _
  have HO2 : Hid (w1.ownsRow w.heap.size 5 1 v' (sh n).length ((sh n).map bc)) := by
    rw [sh_lo hn]
    simp only [List.map_cons, List.map_nil]
    rw [bc_of (by omega)]
    exact hown'
  have HB2 : Hid (Below w.heap.size w w1) := ((Below.refl _ _).alloc hsz _).grown hgrow (al_ok hsz) (own_block hown)
  clear hown hown' hgrow
  go_wp2_with fail
  go_ret
  exact ⟨_, rfl, HO2.out, HB2.out⟩
set_option maxRecDepth 100000 in
set_option maxHeartbeats 1000000 in
theorem refShort_hi (n : Nat) (hn : ¬ n < 128) (hn2 : n < 18446744073709551616) (w : World)
    (ih : ∀ w, Calls Try.prog 68 #[.int .u64 ((n / 128 : Nat) : Int)] w fun e w' => ∃ v, e = .returned v ∧ w'.ownsRow w.heap.size 5 1 v (sh (n / 128)).length ((sh (n / 128)).map bc) ∧ Below w.heap.size w w') :
    Calls Try.prog 68 #[.int .u64 (n : Int)] w fun e w' => ∃ v, e = .returned v ∧ w'.ownsRow w.heap.size 5 1 v (sh n).length ((sh n).map bc) ∧ Below w.heap.size w w' := by
  obtain ⟨i0, hi, hz0, hz1, hz2⟩ := info_parts info5
  have hlti : ¬ (n : Int) < 128 := by omega
  have HIH : Hid _ := ih
  obtain ⟨X, HXX⟩ : ∃ X, Hid (X = UInt8.ofNat (n % 128 + 128)) := ⟨_, rfl⟩
  have hl10 := sh_len10 (show n / 128 < 18446744073709551616 by omega)
  have hown : w.ownsRow w.heap.size 5 1 (.slice none 0 0) 0 [] := World.ownsRow_nil _ _ _ _
  have hsz : w.heap.size ≤ w.heap.size := Nat.le_refl _
  clear ih
  go_enter Try.func68, Try.ntmps68
  go_wp2_with (at_builtin; refine wpList_append_own _ rfl _ _ 25 rfl w.heap.size 5 i0 (.int .u8 0) 1 1 Try.underlying25 hi hz0 hz1 hz2 rfl (by decide) _ _ _ rfl (hown.alloc _) ⟨w.heap.size, 0, none⟩ 1 1 [.int .u8 ((n : Int) % 128 + 128)] rfl rfl news1 one1 (len_ok (by omega)).1 (len_ok (by omega)).2 (al_ok hsz) ?_)
  intro v' w1 hown' hgrow _
  have HO1 : Hid (w1.ownsRow w.heap.size 5 1 v' 1 [bc X]) := by
    rw [HXX.out, bc_of (by omega)]
    have e : ((n % 128 + 128 : Nat) : Int) = (n : Int) % 128 + 128 := by omega
    rw [e]
    exact hown'
  have HB1 : Hid (Below w.heap.size w w1) := ((Below.refl _ _).alloc hsz _).grown hgrow (al_ok hsz) (own_block hown)
  clear hown hown' hgrow hsz
  have ed : ((n / 128 : Nat) : Int) = (n : Int) / 128 := by omega
  rw [ed] at HIH
  go_wp2_with fail
  refine (Hid.out HIH _).mono ?_
  rintro e w2 ⟨v2, rfl, o2, b2⟩
  have hown2 : w2.ownsRow w.heap.size 5 1 v' 1 [bc X] := own_belowQ HO1.out b2
  have HB2 : Hid (Below w.heap.size w w2) := HB1.out.trans (b2.mono HB1.out.size)
  have hsz2 := HB2.out.size
  obtain ⟨h00, _⟩ | ⟨sb, so, sc, rfl, _, _, _, _, g6⟩ := reads_own o2
  · have := sh_pos (n / 128); rw [h00] at this; simp at this
  have hps := sh_pos (n / 128)
  clear o2 b2 HO1 HB1
  go_wp2_with (at_builtin; refine wpList_append_own _ rfl _ _ 25 rfl w.heap.size 5 i0 (.int .u8 0) 1 1 Try.underlying25 hi hz0 hz1 hz2 rfl (by decide) _ _ _ rfl hown2 ⟨sb, so, none⟩ (sh (n / 128)).length sc ((sh (n / 128)).map bc) rfl (by simp) (newsR g6) one_bc (len_ok (by omega)).1 (len_ok (by omega)).2 hsz2 ?_)
  intro v3 w3 hown3 hgrow3 _
  have HO3 : Hid (w3.ownsRow w.heap.size 5 1 v3 (sh n).length ((sh n).map bc)) := by
    rw [sh_hi hn]
    simp only [List.map_cons, List.length_cons]
    rw [Nat.add_comm, ← HXX.out]
    exact hown3
  have HB3 : Hid (Below w.heap.size w w3) := HB2.out.grown hgrow3 hsz2 (own_block hown2)
  clear hown2 hown3 hgrow3 hsz2 g6
  go_wp2_with fail
  go_ret
  exact ⟨_, rfl, HO3.out, HB3.out⟩
theorem refShort_any (n : Nat) : n < 18446744073709551616 → ∀ w : World,
    Calls Try.prog 68 #[.int .u64 (n : Int)] w fun e w' => ∃ v, e = .returned v ∧ w'.ownsRow w.heap.size 5 1 v (sh n).length ((sh n).map bc) ∧ Below w.heap.size w w' := by
  induction n using Nat.strongRecOn with
  | _ n ih =>
    intro hn w
    by_cases h : n < 128
    · exact refShort_lo n h w
    · exact refShort_hi n h hn w (fun w => ih (n / 128) (by omega) (by omega) w)

set_option maxRecDepth 100000 in
set_option maxHeartbeats 1000000 in
theorem refReadShort_some (b off cap : Nat) (l : List UInt8) (h0 : 0 < l.length) (w : World) (hc : ∀ j (h : j < l.length), w.cell? ⟨b, off + j, none⟩ = some (bc l[j])) :
    Calls Try.prog 96 #[.slice (some ⟨b, off, none⟩) l.length cap] w fun e w' => e = .returned (.tuple #[.int .u64 (rsF l 0 0).1, .int .i64 (rsF l 0 0).2.1, .int .i64 (rsF l 0 0).2.2]) ∧ Below w.heap.size w w' := by
  go_enter Try.func96, Try.ntmps96
  go_wp2_with fail
  go_loop [5, 6, 7] (fun x wo i => ∃ k v : Nat, k ≤ l.length ∧ wo = .int .u64 ((128 ^ k : Nat) : Int) ∧ k ≤ 9 ∧ v < 128 ^ k ∧ i = .int .i64 (k : Int) ∧ x = .int .u64 (v : Int) ∧ rsF (l.drop k) k v = rsF l 0 0) (fun _ _ i => l.length - (intOf i).toNat)
  case atStart => exact ⟨0, 0, by omega, rfl, by omega, by decide, rfl, rfl, rfl⟩
  case round =>
    obtain ⟨k, v, hk, rfl, hk9, hv, rfl, rfl, hF⟩ := hrel
    by_cases hlt : k < l.length
    · have hcell := hc k hlt
      have hki : (k : Int) < (l.length : Int) := by omega
      rw [List.drop_eq_getElem_cons hlt, rsF_cons] at hF
      generalize l[k] = x at *
      have hx : x.toNat < 256 := UInt8.toNat_lt x
      unfold bc at hcell
      generalize x.toNat = y at *
      clear hc
      by_cases h9 : k = 9 ∧ 1 < y
      · rw [if_pos h9] at hF
        have HF : Hid _ := hF.symm
        have i1 : ((k : Int) == 9) = true := by simp; omega
        have i2 : ((y : Int) != 0) = true := by simp; omega
        have i3 : ((y : Int) != 1) = true := by simp; omega
        generalize 128 ^ k = q at *
        clear hF h9
        go_wp2_with fail
        go_ret3
        exact ⟨by rw [HF.out]; rfl, Below.refl _ _⟩
      · rw [if_neg h9] at hF
        have hfit := short_fit (y % 128) k hk9 (by omega) (fun h => by omega)
        have hp := pow128 k hk9
        have hw0 : ((y % 128 : Nat) : Int) = (y : Int) % 128 := by omega
        obtain ⟨Z, hZ⟩ : ∃ Z, Z = y % 128 * 128 ^ k := ⟨_, rfl⟩
        have hw1 : IntKind.u64.wrap ((y : Int) % 128 * ((128 ^ k : Nat) : Int)) = (Z : Int) := by
          rw [← hw0, ← Int.natCast_mul, IntKind.wrap_u64, hZ]; omega
        have hw2 : IntKind.u64.wrap ((v : Int) + (Z : Int)) = ((v + Z : Nat) : Int) := by
          rw [IntKind.wrap_u64]; omega
        rw [← hZ] at hF hfit
        by_cases h128 : 128 ≤ y
        · rw [if_pos h128] at hF
          have HF : Hid _ := hF
          have hk8 : k ≤ 8 := by omega
          have i1 : ¬ (y : Int) < 128 := by omega
          have i3 : ((k : Int) == 9) = false := by simp; omega
          have hp1 := pow128 (k + 1) (by omega)
          have hpe : 128 ^ (k + 1) = 128 ^ k * 128 := Nat.pow_succ ..
          have HV2 : Hid (v + Z < 128 ^ (k + 1)) := by
            have h2 : y % 128 * 128 ^ k ≤ 127 * 128 ^ k := Nat.mul_le_mul_right _ (by omega)
            unfold Hid; rw [hZ, hpe]; generalize 128 ^ k = q at *; omega
          have hw3 : IntKind.u64.wrap (((128 ^ k : Nat) : Int) * 128) = ((128 ^ (k + 1) : Nat) : Int) := by
            rw [IntKind.wrap_u64, hpe]; generalize 128 ^ k = q at *; omega
          generalize hq : 128 ^ k = q at *
          generalize hq1 : 128 ^ (k + 1) = q1 at *
          clear hF h9 h128 hpe hp hp1 hZ hfit hw0
          go_wp2_with fail
          go_round
          case rel => exact ⟨k + 1, v + Z, by omega, by rw [hq1], by omega, by rw [hq1]; exact HV2.out, by go_num, by go_num, HF.out⟩
          case measure => simp [intOf]; omega
        · rw [if_neg h128] at hF
          have i1 : (y : Int) < 128 := by omega
          generalize 128 ^ k = q at *
          clear hp hfit hw0 hZ
          by_cases h00 : y = 0 ∧ 0 < k
          · rw [if_pos h00] at hF
            have HF : Hid _ := hF.symm
            have i2 : ((y : Int) == 0) = true := by simp; omega
            have i4 : (0 : Int) < (k : Int) := by omega
            have i7 : ((y : Int) != 0) = false := by simp; omega
            by_cases i5 : k = 9
            · have i3 : ((k : Int) == 9) = true := by simp; omega
              clear hF h9 h128 h00 i5
              go_wp2_with fail
              go_ret3
              exact ⟨by rw [HF.out]; rfl, Below.refl _ _⟩
            · have i3 : ((k : Int) == 9) = false := by simp; omega
              clear hF h9 h128 h00 i5
              go_wp2_with fail
              go_ret3
              exact ⟨by rw [HF.out]; rfl, Below.refl _ _⟩
          · rw [if_neg h00] at hF
            have HF : Hid _ := hF.symm
            by_cases h9b : k = 9
            · have i3 : ((k : Int) == 9) = true := by simp; omega
              have i7 : ((y : Int) != 0) = true := by simp; omega
              have i8 : ((y : Int) != 1) = false := by simp; omega
              have i9 : ((y : Int) == 0) = false := by simp; omega
              clear hF h9 h128 h00 h9b
              go_wp2_with fail
              go_ret3
              exact ⟨by rw [HF.out]; rfl, Below.refl _ _⟩
            · have i3 : ((k : Int) == 9) = false := by simp; omega
              by_cases hy0 : y = 0
              · have i9 : ((y : Int) == 0) = true := by simp; omega
                have i4 : ¬ (0 : Int) < (k : Int) := by omega
                clear hF h9 h128 h00 h9b hy0
                go_wp2_with fail
                go_ret3
                exact ⟨by rw [HF.out]; rfl, Below.refl _ _⟩
              · have i9 : ((y : Int) == 0) = false := by simp; omega
                clear hF h9 h128 h00 h9b hy0
                go_wp2_with fail
                go_ret3
                exact ⟨by rw [HF.out]; rfl, Below.refl _ _⟩
    · have hke : k = l.length := by omega
      subst hke
      rw [List.drop_length] at hF
      have HF : Hid _ := hF.symm
      clear hc hF
      generalize 128 ^ l.length = q at *
      go_wp2_with fail
      go_ret3
      exact ⟨by rw [HF.out]; rfl, Below.refl _ _⟩
set_option maxRecDepth 100000 in
set_option maxHeartbeats 1000000 in
theorem refReadShort_none (a : Option Addr) (cap : Nat) (w : World) :
    Calls Try.prog 96 #[.slice a 0 cap] w fun e w' => e = .returned (.tuple #[.int .u64 0, .int .i64 0, .int .i64 10]) ∧ Below w.heap.size w w' := by
  go_enter Try.func96, Try.ntmps96
  go_wp2_with fail
  go_loop [7] (fun i => i = .int .i64 0) (fun _ => 0)
  case atStart => rfl
  case round =>
    obtain rfl := hrel
    go_wp2_with fail
    go_ret3
    exact ⟨rfl, Below.refl _ _⟩
theorem refReadShort_any (v : Value) (l : List UInt8) (w : World) (h : Reads w v l) :
    Calls Try.prog 96 #[v] w fun e w' => e = .returned (.tuple #[.int .u64 (rsF l 0 0).1, .int .i64 (rsF l 0 0).2.1, .int .i64 (rsF l 0 0).2.2]) ∧ Below w.heap.size w w' := by
  rcases h with ⟨rfl, a, cap, rfl, _⟩ | ⟨b, off, cap, rfl, h2, h3, h4, h5, h6⟩
  · exact refReadShort_none a cap w
  · exact refReadShort_some b off cap l h2 w h6
end Go.Proofs.Ytlpjdfgknmfmnaa

/- The contract of the reference's Common. -/
namespace Go.Proofs.Ytlpjdfgknmfmnaa
open Go.RowKit

theorem com_step {a b : Ks} (h1 : 0 < a.length) (h2 : 0 < b.length) (h : a[0] = b[0]) : com a b = com (a.drop 1) (b.drop 1) + 1 := by
  cases a with
  | nil => simp at h1
  | cons x a => cases b with
    | nil => simp at h2
    | cons y b => rw [com, if_pos (show x = y from h)]; rfl
theorem com_stop {a b : Ks} (h1 : 0 < a.length) (h2 : 0 < b.length) (h : a[0] ≠ b[0]) : com a b = 0 := by
  cases a with
  | nil => simp at h1
  | cons x a => cases b with
    | nil => simp at h2
    | cons y b => rw [com, if_neg (show x ≠ y from h)]
theorem com_nil1 {a b : Ks} (h : a.length = 0) : com a b = 0 := by
  rw [List.length_eq_zero_iff.1 h]; simp [com]
theorem com_nil2 {a b : Ks} (h : b.length = 0) : com a b = 0 := by
  rw [List.length_eq_zero_iff.1 h]; cases a <;> simp [com]
theorem beq0_t {n : Nat} (h : n = 0) : ((n : Int) == 0) = true := by subst h; rfl
theorem beq0_f {n : Nat} (h : ¬ n = 0) : ((n : Int) == 0) = false := by rw [beq_eq_false_iff_ne]; omega
set_option maxRecDepth 100000 in
set_option maxHeartbeats 1000000 in
theorem refCommon_any : ∀ (n : Nat) (a b : Ks) (va vb : Value) (w : World), a.length = n → Reads w va a → Reads w vb b →
    Calls Try.prog 67 #[va, vb] w fun e w' => e = .returned (.int .i64 ((com a b : Nat) : Int)) ∧ ∃ m, w' = w.drewN m := by
  intro n
  induction n using Nat.strongRecOn with
  | _ n ih =>
    intro a b va vb w hn ha hb
    obtain ⟨aa, ca, rfl, hma⟩ := ha.form
    obtain ⟨ab, cb, rfl, hmb⟩ := hb.form
    unfold maxLen at hma hmb
    have HA : Hid (Reads w (.slice aa a.length ca) a) := ha
    have HB : Hid (Reads w (.slice ab b.length cb) b) := hb
    have IH : Hid _ := ih
    have HN : Hid (a.length = n) := hn
    clear ha hb ih hn
    obtain ⟨C, HC⟩ := hid_ex (com a b)
    have HCl : Hid (com a b ≤ a.length) := (com_le a b).1
    rw [← HC.out]
    by_cases g1 : a.length = 0
    · have z : C = 0 := by rw [HC.out, com_nil1 g1]
      subst z
      have i1 : ((a.length : Int) == 0) = true := beq0_t g1
      clear g1
      go_enter Try.func67, Try.ntmps67
      go_wp2_with fail
      go_quiet (fail)
      go_wp2_with fail
      go_ret
      exact ⟨rfl, nq, rfl⟩
    have i1 : ((a.length : Int) == 0) = false := beq0_f g1
    by_cases g2 : b.length = 0
    · have z : C = 0 := by rw [HC.out, com_nil2 g2]
      subst z
      have i2 : ((b.length : Int) == 0) = true := beq0_t g2
      clear g2
      go_enter Try.func67, Try.ntmps67
      go_wp2_with fail
      go_quiet (fail)
      go_wp2_with fail
      go_ret
      exact ⟨rfl, nq, rfl⟩
    have i2 : ((b.length : Int) == 0) = false := beq0_f g2
    have p1 : 0 < a.length := by omega
    have p2 : 0 < b.length := by omega
    clear g1 g2
    obtain ⟨b1, o1, rfl, _, d1⟩ := HA.out.at 0 p1
    obtain ⟨b2, o2, rfl, _, d2⟩ := HB.out.at 0 p2
    simp only [Nat.add_zero] at d1 d2
    unfold bc at d1 d2
    obtain ⟨x, HX⟩ := hid_ex a[0]
    obtain ⟨y, HY⟩ := hid_ex b[0]
    rw [← HX.out] at d1
    rw [← HY.out] at d2
    by_cases hxy : (x.toNat : Int) = (y.toNat : Int)
    · have HE : Hid (C = com (a.drop 1) (b.drop 1) + 1) := by
        unfold Hid; rw [HC.out]
        exact com_step (by omega) (by omega) (by rw [← HX.out, ← HY.out]; exact UInt8.toNat_inj.1 (by omega))
      obtain ⟨C1, HC1⟩ := hid_ex (com (a.drop 1) (b.drop 1))
      have hC1 : C1 + 1 ≤ 9223372036854775807 := by
        have := HCl.out; rw [← HC.out, HE.out, ← HC1.out] at this; omega
      obtain ⟨a1, f1, hs1, hr1⟩ := sl_from (c := 1) HA.out (by omega)
      obtain ⟨a2, f2, hs2, hr2⟩ := sl_from (c := 1) HB.out (by omega)
      have k1 : ∀ w', (Instr.slice 25 (.slice (some ⟨b1, o1, none⟩) a.length ca) (some (.int .i64 1)) none none).run Try.prog w' = .ok (.slice a1 (a.length - 1) f1) w' := hs1
      have k2 : ∀ w', (Instr.slice 25 (.slice (some ⟨b2, o2, none⟩) b.length cb) (some (.int .i64 1)) none none).run Try.prog w' = .ok (.slice a2 (b.length - 1) f2) w' := hs2
      have HR1 : Hid (Reads w (.slice a1 (a.length - 1) f1) (a.drop 1)) := hr1
      have HR2 : Hid (Reads w (.slice a2 (b.length - 1) f2) (b.drop 1)) := hr2
      clear hs1 hs2 hr1 hr2
      have hEC : (C : Int) = (C1 : Int) + 1 := by rw [HE.out, ← HC1.out]; omega
      go_enter Try.func67, Try.ntmps67
      go_wp2_with fail
      go_quiet (fail)
      go_wp2_with fail
      obtain ⟨w1, HW1⟩ := hid_ex (w.drewN nq)
      rw [← HW1.out]
      have HB1 : Hid (Below w.heap.size w w1) := by rw [HW1.out]; exact below_drewN (Below.refl _ _) _
      have HCL : ∀ n, Calls Try.prog 67 #[.slice a1 (a.length - 1) f1, .slice a2 (b.length - 1) f2] (w1.drewN n) (fun e w' => e = .returned (.int .i64 (C1 : Int)) ∧ ∃ m, w' = w1.drewN m) := by
        intro n
        refine (IH.out (a.length - 1) (by have := HN.out; omega) (a.drop 1) (b.drop 1) _ _ _ (by simp) (HR1.out.below (below_drewN HB1.out _)) (HR2.out.below (below_drewN HB1.out _))).mono ?_
        intro e w' h
        exact ⟨by rw [h.1, ← HC1.out], by obtain ⟨m, hm⟩ := h.2; exact ⟨_, hm.trans (World.drewN_drewN _ _ _)⟩⟩
      go_quiet (exact HCL _)
      go_wp2_with fail
      go_ret
      exact ⟨by rw [hEC, Int.add_comm]; rfl, _, by rw [HW1.out]; exact World.drewN_drewN _ _ _⟩
    · have z : C = 0 := by
        rw [HC.out]
        exact com_stop (by omega) (by omega) (by rw [← HX.out, ← HY.out]; intro h; rw [h] at hxy; exact hxy rfl)
      subst z
      go_enter Try.func67, Try.ntmps67
      go_wp2_with fail
      go_quiet (fail)
      go_wp2_with fail
      go_ret
      exact ⟨rfl, nq, rfl⟩
end Go.Proofs.Ytlpjdfgknmfmnaa

/- The contract of the reference's Write. -/
namespace Go.Proofs.Ytlpjdfgknmfmnaa
open Go.RowKit

theorem rless_iff : ∀ a b : Ks, Op.bytesLess a b = true ↔ Lib.compareBytes a b = -1
  | [], [] => by simp [Op.bytesLess, Lib.compareBytes]
  | [], _ :: _ => by simp [Op.bytesLess, Lib.compareBytes]
  | _ :: _, [] => by simp [Op.bytesLess, Lib.compareBytes]
  | x :: a, y :: b => by
    have ih := rless_iff a b
    simp only [Op.bytesLess, Lib.compareBytes]
    by_cases h1 : x < y
    · simp [h1]
    · rw [if_neg h1]
      by_cases h2 : y < x
      · have : x ≠ y := fun e => by subst e; exact h1 h2
        simp [h1, h2, this]
      · have : x = y := u8_tri h1 h2
        subst this
        simp [ih]
theorem rless_ltK (a b : Ks) : Op.bytesLess a b = decide (ltK a b) := by
  rw [Bool.eq_iff_iff, rless_iff, decide_eq_true_iff]; rfl
theorem refShort_own (n : Nat) (h : n < 18446744073709551616) (w : World) :
    Calls Try.prog 68 #[.int .u64 (n : Int)] w fun e w' => ∃ v, e = .returned v ∧ Own w' w.heap.size v (sh n) ∧ Below w.heap.size w w' := refShort_any n h w
theorem svd_zero {k : Nat} {a b : Ks} (h : k % 8 = 0) : svd k a b = 0 := by unfold svd; rw [if_pos h]
theorem svd_com {k : Nat} {a b : Ks} (h : ¬ k % 8 = 0) : svd k a b = com a b := by unfold svd; rw [if_neg h]
end Go.Proofs.Ytlpjdfgknmfmnaa
