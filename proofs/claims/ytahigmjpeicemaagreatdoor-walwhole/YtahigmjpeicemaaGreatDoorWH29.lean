/- F5 V7 R5 RS, joined. -/
import Derived.Test.YtahigmjpeicemaaGreatDoorWH19
import Derived.Test.YtahigmjpeicemaaGreatDoorWH20
import Derived.Test.YtahigmjpeicemaaGreatDoorWH21
import Derived.BigRegion
import Derived.Test.YtahigmjpeicemaaGreatDoorRows
import Derived.WalkKit
import Derived.Deep.RegionHeld3
/- Lists of slices of bytes; the reference's Same. -/
namespace Go.Proofs.YtahigmjpeicemaaGreatDoor
open Go.RowKit

/-- A slice of slices reads these. -/
def LReads (w : World) (v : Value) (L : List (List UInt8)) : Prop :=
  ∃ a cap, v = .slice a L.length cap ∧ L.length ≤ cap ∧ cap ≤ maxLen ∧ (L = [] ∨ ∃ b off, a = some ⟨b, off, none⟩ ∧ b < w.heap.size ∧ ∀ j (hj : j < L.length), ∃ vj, w.cell? ⟨b, off + j, none⟩ = some vj ∧ Reads w vj L[j])
theorem LReads.below {w w' : World} {v : Value} {L : List (List UInt8)} (h : LReads w v L) (hb : Below w.heap.size w w') : LReads w' v L := by
  obtain ⟨a, cap, rfl, h1, h2, h3⟩ := h
  refine ⟨a, cap, rfl, h1, h2, ?_⟩
  rcases h3 with h3 | ⟨b, off, h4, h5, h6⟩
  · exact .inl h3
  · refine .inr ⟨b, off, h4, Nat.lt_of_lt_of_le h5 hb.size, fun j hj => ?_⟩
    obtain ⟨vj, g1, g2⟩ := h6 j hj
    exact ⟨vj, (hb.cell (p := ⟨b, off + j, none⟩) h5).trans g1, g2.below hb⟩
theorem LReads.take {w : World} {a : Option Addr} {n cap : Nat} {L : List (List UInt8)} (h : LReads w (.slice a n cap) L) {c : Nat} (hc : c ≤ L.length) : LReads w (.slice a c cap) (L.take c) := by
  obtain ⟨a', cap', hv, h1, h2, h3⟩ := h
  simp at hv
  obtain ⟨rfl, rfl, rfl⟩ := hv
  refine ⟨_, _, by rw [List.length_take, Nat.min_eq_left hc], by simp; omega, h2, ?_⟩
  rcases h3 with rfl | ⟨b, off, h4, h5, h6⟩
  · exact .inl (by simp)
  · refine .inr ⟨b, off, h4, h5, fun j hj => ?_⟩
    obtain ⟨vj, g1, g2⟩ := h6 j (by simp at hj; omega)
    exact ⟨vj, g1, by simpa using g2⟩
/-- What All hands back. -/
theorem LReads.of_row {w : World} {base base' : Nat} {vl : Value} {xs : List Fr} (h : w.ownsRow base 28 1 vl xs.length (xs.map Fr.v)) (ho : ∀ x ∈ xs, Own w base' x.v x.D) : LReads w vl (xs.map Fr.D) := by
  by_cases h0 : xs = []
  · subst h0
    rcases h.2 with ⟨h1, _⟩ | ⟨g, cap, cur, hv, hg, hw, hc, hm, _⟩
    · exact ⟨none, 0, by simpa using h1, by simp, by simp, .inl rfl⟩
    · exact ⟨_, cap, by simpa using hv, by simp, hm, .inl rfl⟩
  · have hl : 0 < xs.length := List.length_pos_iff.2 h0
    have hlt := World.ownsRow.lt h
    rcases h.2 with ⟨_, h1⟩ | ⟨g, cap, cur, hv, hg, hw, hc, hm, _⟩
    · omega
    · subst hv
      refine ⟨_, cap, by rw [List.length_map], by simpa using hc, hm, .inr ⟨g, 0, rfl, (hlt g rfl).2, fun j hj => ?_⟩⟩
      simp at hj
      refine ⟨xs[j].v, ?_, ?_⟩
      · rw [Nat.zero_add, World.ownsRow.cellAt h j (by simpa using hj)]; simp [hj]
      · rw [List.getElem_map]; exact (ho _ (List.getElem_mem hj)).reads
end Go.Proofs.YtahigmjpeicemaaGreatDoor

/- The contracts of the reference's step, More and Sum. -/
namespace Go.Proofs.YtahigmjpeicemaaGreatDoor
open Go.RowKit

theorem ret_intV {k : IntKind} {a b : Int} (h : a = b) : Ending.returned (.int k a) = .returned (.int k b) := by rw [h]

set_option maxRecDepth 100000 in
set_option maxHeartbeats 1000000 in
theorem step_any (c : Nat) (hc : c < 4294967296) (x : UInt8) (w : World) :
    Calls Tryz.prog 107 #[.int .u32 (c : Int), .int .u8 (x.toNat : Int)] w fun e w' => e = .returned (.int .u32 (byt c x : Nat)) ∧ w' = w := by
  have hxb : x.toNat < 256 := x.toNat_lt
  have hx := x_xor (c := c) (d := x.toNat) hc (by omega)
  go_enter Tryz.func107, Tryz.ntmps107
  go_wp2_with fail
  go_loop [0, 5] (fun r i => ∃ m d : Nat, m ≤ 8 ∧ i = .int .i64 m ∧ d < 4294967296 ∧ r = .int .u32 (d : Int) ∧ Hid (d = stps m (c ^^^ x.toNat))) (fun _ i => 8 - (intOf i).toNat)
  case atStart => exact ⟨0, _, by omega, rfl, xor_lt32 hc (by omega), rfl, rfl⟩
  case round =>
    obtain ⟨m, d, hm, rfl, hd, rfl, HD⟩ := hrel
    by_cases hm8 : m < 8
    · have y1 := x_turn hd
      rcases Nat.mod_two_eq_zero_or_one d with h2 | h2
      · have hs2 : stp d = d / 2 := by unfold stp; rw [if_neg (by omega)]
        have HS : Hid (d / 2 = stps (m + 1) (c ^^^ x.toNat)) := by unfold Hid; rw [stps_snoc, ← HD.out, hs2]
        have h3 : (d : Int) % 2 = 0 := by omega
        clear hs2 h2
        go_wp2_with fail
        go_round
        case rel => exact ⟨m + 1, d / 2, by omega, by go_num, by omega, by go_num, HS⟩
        case measure => simp [intOf]; omega
      · have hs2 : stp d = d / 2 ^^^ 2197175160 := by unfold stp; rw [if_pos h2]
        have HS : Hid (d / 2 ^^^ 2197175160 = stps (m + 1) (c ^^^ x.toNat)) := by unfold Hid; rw [stps_snoc, ← HD.out, hs2]
        have hlt2 := xor_lt32 (a := d / 2) (b := 2197175160) (by omega) (by omega)
        have h3 : (d : Int) % 2 = 1 := by omega
        clear hs2 h2
        go_wp2_with fail
        go_round
        case rel => exact ⟨m + 1, d / 2 ^^^ 2197175160, by omega, by go_num, hlt2, rfl, HS⟩
        case measure => simp [intOf]; omega
    · have HS : Hid (d = byt c x) := by
        unfold Hid
        have e8 : m = 8 := by omega
        rw [HD.out, e8]; rfl
      go_wp2_with fail
      go_ret
      exact ⟨by rw [HS.out]; rfl, rfl⟩
set_option maxRecDepth 100000 in
set_option maxHeartbeats 1000000 in
theorem refMore_some (s : Nat) (hs : s < 4294967296) (b off cap : Nat) (l : List UInt8) (hl : l.length ≤ maxLen) (w : World)
    (hc : ∀ j (h : j < l.length), w.cell? ⟨b, off + j, none⟩ = some (bc l[j])) :
    Calls Tryz.prog 78 #[.int .u32 (s : Int), .slice (some ⟨b, off, none⟩) l.length cap] w fun e w' => e = .returned (.int .u32 (mor s l : Nat)) ∧ w' = w := by
  unfold maxLen at hl
  have HC : Hid (∀ j (h : j < l.length), w.cell? ⟨b, off + j, none⟩ = some (bc l[j])) := hc
  clear hc
  go_enter Tryz.func78, Tryz.ntmps78
  go_wp2_with fail
  go_loop [5, 6] (fun r i => ∃ k c : Nat, k ≤ l.length ∧ i = .int .i64 k ∧ c < 4294967296 ∧ r = .int .u32 (c : Int) ∧ Hid (c = reg (4294967295 - s) (l.take k))) (fun _ i => l.length - (intOf i).toNat)
  case atStart => exact ⟨0, 4294967295 - s, Nat.zero_le _, rfl, by omega, by go_num, rfl⟩
  case round =>
    obtain ⟨k, c, hk, rfl, hcl, rfl, HE⟩ := hrel
    by_cases hlt : k < l.length
    · have hcell := HC.out k hlt
      unfold bc at hcell
      go_wp2_with fail
      refine (step_any c hcl l[k] _).mono ?_
      rintro e w1 ⟨rfl, hw⟩
      subst w1
      have HS : Hid (byt c l[k] = reg (4294967295 - s) (l.take (k + 1))) := by
        unfold Hid
        rw [List.take_succ_eq_append_getElem hlt, reg_snoc, ← HE.out]
      have hbl := byt_lt (c := c) (x := l[k]) hcl
      go_wp2_with fail
      go_round
      case rel => exact ⟨k + 1, _, by omega, by go_num, hbl, rfl, HS⟩
      case measure => simp [intOf]; omega
    · have hkl : k = l.length := by omega
      have HS : Hid (4294967295 - c = mor s l) := by
        unfold Hid mor
        rw [HE.out, hkl, List.take_length]
      clear hkl
      go_wp2_with fail
      go_ret
      exact ⟨by rw [← HS.out]; exact ret_intV (by omega), rfl⟩
theorem refMore_none (s : Nat) (hs : s < 4294967296) (a : Option Addr) (cap : Nat) (w : World) :
    Calls Tryz.prog 78 #[.int .u32 (s : Int), .slice a 0 cap] w fun e w' => e = .returned (.int .u32 (mor s [] : Nat)) ∧ w' = w := by
  have HS : Hid (mor s [] = s) := mor_nil hs
  go_enter Tryz.func78, Tryz.ntmps78
  go_wp2_with fail
  go_loop [5, 6] (fun r i => i = .int .i64 0 ∧ r = .int .u32 (4294967295 - (s : Int))) (fun _ _ => 0)
  case atStart => exact ⟨rfl, rfl⟩
  case round =>
    obtain ⟨rfl, rfl⟩ := hrel
    go_wp2_with fail
    go_ret
    exact ⟨by rw [HS.out]; exact ret_intV (by omega), rfl⟩
theorem refMore_any (s : Nat) (hs : s < 4294967296) (v : Value) (l : List UInt8) (w : World) (h : Reads w v l) :
    Calls Tryz.prog 78 #[.int .u32 (s : Int), v] w fun e w' => e = .returned (.int .u32 (mor s l : Nat)) ∧ w' = w := by
  rcases h with ⟨rfl, a, cap, rfl, _⟩ | ⟨b, off, cap, rfl, h2, h3, h4, h5, h6⟩
  · exact refMore_none s hs a cap w
  · exact refMore_some s hs b off cap l (by omega) w h6
theorem refSum_any (v : Value) (l : List UInt8) (w : World) (h : Reads w v l) :
    Calls Tryz.prog 47 #[v] w fun e w' => e = .returned (.int .u32 (mor 0 l : Nat)) ∧ w' = w := by
  obtain ⟨a, cap, rfl, _⟩ := h.form
  go_enter Tryz.func47, Tryz.ntmps47
  go_wp2_with fail
  refine (refMore_any 0 (by decide) _ l _ h).mono ?_
  rintro e w' ⟨rfl, hw⟩
  subst w'
  clear h
  go_wp2_with fail
  go_ret
  exact ⟨rfl, rfl⟩
end Go.Proofs.YtahigmjpeicemaaGreatDoor

/- The reference's frames. -/
namespace Go.Proofs.YtahigmjpeicemaaGreatDoor
open Go.RowKit

theorem four_at (n k : Nat) (hk : k < 4) : (four n).take (k + 1) = (four n).take k ++ [UInt8.ofNat (n / 256 ^ k)] := by
  have h : k = 0 ∨ k = 1 ∨ k = 2 ∨ k = 3 := by omega
  rcases h with rfl | rfl | rfl | rfl <;> simp [four]
set_option maxRecDepth 100000 in
set_option maxHeartbeats 1000000 in
theorem refFour_any (n : Nat) (hn : n < 4294967296) (w : World) :
    Calls Tryz.prog 46 #[.int .u32 (n : Int)] w fun e w' => ∃ v', e = .returned v' ∧ Own w' w.heap.size v' (four n) ∧ Below w.heap.size w w' := by
  go_enter Tryz.func46, Tryz.ntmps46
  go_wp2_with fail
  go_loopw [0, 3, 4] (fun x v i wr => ∃ k m : Nat, k ≤ 4 ∧ i = .int .i64 (k : Int) ∧ x = .int .u32 (m : Int) ∧ Hid (m = n / 256 ^ k) ∧ m < 4294967296 ∧ Hid (Own wr w.heap.size v ((four n).take k)) ∧ Hid (Below w.heap.size w wr)) (fun _ _ i _ => 4 - (intOf i).toNat)
  case atStart => exact ⟨0, n, by omega, rfl, rfl, by simp [Hid], hn, Own.nil _ _, Below.refl _ _⟩
  case round =>
    obtain ⟨k, m, hk, rfl, rfl, HM, hm, HO, HB⟩ := hrel
    by_cases hlt : k < 4
    · have HF : Hid ((four n).take (k + 1) = (four n).take k ++ [UInt8.ofNat m]) := by rw [HM.out]; exact four_at n k hlt
      have HM2 : Hid (m / 256 = n / 256 ^ (k + 1)) := by rw [HM.out, Nat.div_div_eq_div_mul, Nat.pow_succ]; exact rfl
      have hkl : ((four n).take k).length ≤ 4 := by simp [four_len]; omega
      have hsz := HB.out.size
      have hdm : (m : Int).tdiv 256 = ((m / 256 : Nat) : Int) := by rw [Int.tdiv_eq_ediv_of_nonneg (by omega)]; omega
      have hdw : IntKind.u32.wrap ((m / 256 : Nat) : Int) = ((m / 256 : Nat) : Int) := by simp [IntKind.wrap, IntKind.bits, IntKind.signed]; omega
      have hdc : IntKind.u32.wrap ((m : Int).tdiv 256) = ((m / 256 : Nat) : Int) := by rw [hdm, hdw]
      clear hdm hdw
      have hw1 : ((m : Int) % 256) % 256 = (m : Int) % 256 := by omega
      have hbc : Value.int .u8 ((m : Int) % 256) = bc (UInt8.ofNat m) := by
        unfold bc; rw [UInt8.toNat_ofNat']; simp
      have HBC : Hid _ := hbc
      clear hbc HM hw1
      go_wp2_with (at_builtin; refine wpList_app1 rfl _ _ rfl w.heap.size _ ((four n).take k) (UInt8.ofNat m) _ HF.out (by first | exact HBC.out | simpa using HBC.out) rfl rfl HO.out (by omega) hsz ?_)
      intro v2 w2 HO2 hb2
      have HB2 : Hid (Below w.heap.size w w2) := HB.out.trans hb2.out
      have HP2 : Hid (Own w2 w.heap.size v2 ((four n).take (k + 1))) := HO2
      clear HO2 hb2 HB HO HF HBC
      go_wp2_with fail
      go_roundw
      case rel => exact ⟨k + 1, m / 256, by omega, by simp, by simp, HM2, by omega, HP2, HB2⟩
      case measure => simp [intOf]; omega
    · have hke : k = 4 := by omega
      subst hke
      have HP : Hid (Own wr w.heap.size u3 (four n)) := HO.out
      clear HO HM
      go_wp2_with fail
      go_ret
      exact ⟨_, rfl, HP.out, HB.out⟩
set_option maxRecDepth 100000 in
set_option maxHeartbeats 1000000 in
theorem refNumber_anyV (v : Value) (l : List UInt8) (hl : 4 ≤ l.length) (w : World) (hr : Reads w v l) :
    Calls Tryz.prog 109 #[v] w fun e w' => e = .returned (.int .i64 (vle (l.take 4) : Nat)) ∧ Below w.heap.size w w' := by
  obtain ⟨a, cap, rfl, hm⟩ := hr.form
  obtain ⟨b, off, rfl, _, c0⟩ := hr.at 0 (by omega)
  obtain ⟨b1, off1, e1, _, c1⟩ := hr.at 1 (by omega)
  obtain ⟨b2, off2, e2, _, c2⟩ := hr.at 2 (by omega)
  obtain ⟨b3, off3, e3, _, c3⟩ := hr.at 3 (by omega)
  simp only [Option.some.injEq, Addr.mk.injEq, and_true] at e1 e2 e3
  obtain ⟨rfl, rfl⟩ := e1
  obtain ⟨rfl, rfl⟩ := e2
  obtain ⟨rfl, rfl⟩ := e3
  have hv : vle (l.take 4) = l[0].toNat + 256 * (l[1].toNat + 256 * (l[2].toNat + 256 * l[3].toNat)) := by
    match l, hl with
    | x :: y :: z :: u :: l, _ => simp [vle]
  have b0 := (l[0]).toNat_lt
  have b1 := (l[1]).toNat_lt
  have b2 := (l[2]).toNat_lt
  have b3 := (l[3]).toNat_lt
  unfold bc at c0 c1 c2 c3
  rw [Nat.add_zero] at c0
  generalize l[0].toNat = x0 at *
  generalize l[1].toNat = x1 at *
  generalize l[2].toNat = x2 at *
  generalize l[3].toNat = x3 at *
  have i1 : (1 : Int) < (l.length : Int) := by omega
  have i2 : (2 : Int) < (l.length : Int) := by omega
  have i3 : (3 : Int) < (l.length : Int) := by omega
  have i0 : (0 : Int) < (l.length : Int) := by omega
  have HV : Hid _ := hv
  clear hv hr
  rw [HV.out]
  go_enter Tryz.func109, Tryz.ntmps109
  go_wp2_with fail
  go_region
  go_wp2_with fail
  go_ret
  exact ⟨ret_intV (by omega), (Below.refl _ _).drew⟩
end Go.Proofs.YtahigmjpeicemaaGreatDoor

/- A drawn region's walk may hold on to more, as it goes on. -/
namespace Go.Proofs.YtahigmjpeicemaaGreatDoor
open Go.RowKit

theorem wpAnyH_sub {P : Program} {md : Region.Mode} {ops : Array Oper} {Q : Exit → Act → World → Prop} {S S' : World → Prop} (hS : ∀ w, S' w → S w) :
    ∀ (fuel : Nat) (listed : Array Bool) (a : Act) (w : World), wpAnyH P md ops Q S' fuel listed a w → wpAnyH P md ops Q S fuel listed a w
  | 0, _, _, _, h => h
  | fuel + 1, _, _, _, h => ⟨h.1, fun i hi => wpOp_mono (fun a' w' h' => ⟨hS _ h'.1, wpAnyH_sub hS fuel _ a' w' h'.2⟩) (h.2 i hi)⟩
end Go.Proofs.YtahigmjpeicemaaGreatDoor
