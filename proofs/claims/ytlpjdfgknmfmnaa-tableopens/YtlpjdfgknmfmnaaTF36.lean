/- RB3 RB4 RB5 TRa, joined. -/
import Derived.Test.YtlpjdfgknmfmnaaTZ0
import Derived.Test.YtlpjdfgknmfmnaaTF32
import Derived.Test.YtlpjdfgknmfmnaaTF34
import Derived.Test.YtlpjdfgknmfmnaaTF35
import Derived.BigRegion
/- The contracts of the reference's New, Add and May. -/
namespace Go.Proofs.Ytlpjdfgknmfmnaa
open Go.RowKit

theorem infoBl : (Try.prog.info? 4).map (fun i => (i.zero, i.size, i.bytes)) = some (some (.bool false), 1, 1) := by kernel_rfl
theorem rf_new {w : World} {base g n cap : Nat} {bs : List Bool} (h : Nat) (ho : w.ownsRow base 4 1 (.slice (some ⟨g, 0, none⟩) n cap) n (bs.map bcb)) (hn : n = bs.length) (h1 : 1 ≤ h) (h8 : h ≤ 8) (hd : 8 ≤ n) (hd8 : n ≤ 65536) :
    RF (w.alloc (.cells #[.slice (some ⟨g, 0, none⟩) n cap, .int .i64 (h : Int)] 113)) base (.pointer (some ⟨w.heap.size, 0, none⟩)) h bs := by
  subst hn
  have hlt := World.ownsRow.lt ho g rfl
  exact ⟨w.heap.size, g, cap, rfl, by omega, World.alloc_heap_new _ _, ho.alloc _, by omega, h1, h8, hd, hd8⟩
set_option maxRecDepth 100000 in
set_option maxHeartbeats 1000000 in
theorem refNew_ok (d h : Nat) (hok : newOk (8 * d) h) (w : World) : Calls Try.prog 25 #[.int .i64 (8 * (d : Int)), .int .i64 (h : Int)] w fun e w' => ∃ v, e = .returned (.tuple #[v, .int .i64 0]) ∧ RF w' w.heap.size v h (List.replicate (8 * d) false) ∧ Below w.heap.size w w' := by
  obtain ⟨h1, h2, h3, h4, h5⟩ := hok
  have i1 : ¬ 8 * (d : Int) < 8 := by omega
  have i2 : ¬ (65536 : Int) < 8 * (d : Int) := by omega
  have hr : (8 * (d : Int)).tmod 8 = 0 := by rw [Int.mul_tmod_right]
  obtain ⟨i0, hi, hz0, hz1, hz2⟩ := info_parts infoBl
  obtain ⟨w2, hrn, hown2, hg2⟩ := run_make_full (P := Try.prog) w w.heap.size 111 4 i0 (.bool false) 1 Try.underlying111 hi hz0 hz1 .i64 .i64 (8 * d) (by rw [hz2]; omega) (by unfold maxLen; omega) (Nat.le_refl _)
  have e2 : ((8 * d : Nat) : Int) = 8 * (d : Int) := by omega
  rw [e2] at hrn
  have HB2 : Hid (Below w.heap.size w w2) := (Below.refl _ _).grown hg2 (Nat.le_refl _) (fun k hk => by cases hk)
  have HO2 : Hid (w2.ownsRow w.heap.size 4 1 (.slice (some ⟨w.heap.size, 0, none⟩) (8 * d) (8 * d)) (8 * d) ((List.replicate (8 * d) false).map bcb)) := by
    have e0 : (Value.bool false).cells = #[.bool false] := rfl
    rw [e0, Nat.mul_one, toList_madeCells_one] at hown2
    unfold Hid; simpa [bcb] using hown2
  clear hown2 hg2 e2 hi hz0 hz1 hz2
  go_enter Try.func25, Try.ntmps25
  go_wp2_with fail
  go_ret2
  have hs2 := HB2.out.size
  exact ⟨_, rfl, rf_new h HO2.out (by simp) (by omega) (by omega) (by omega) (by omega), HB2.out.alloc hs2 _⟩
end Go.Proofs.Ytlpjdfgknmfmnaa

/- The contract of the reference's May. -/
namespace Go.Proofs.Ytlpjdfgknmfmnaa
open Go.RowKit

theorem my_succ (D : List UInt8) (key : List UInt8) (n k : Nat) : myF D (plc key n (k + 1)) = (myF D (plc key n k) && gb D (pla key k % n)) := by
  unfold myF; rw [plc_succ, List.all_append]; simp
set_option maxRecDepth 100000 in
set_option maxHeartbeats 1000000 in
theorem refMay_any_B (v kv : Value) (h : Nat) (D key : List UInt8) (hkl : key.length ≤ 100000) (w : World) (base : Nat) (hF : RF w base v h (dgs D)) (hR : Reads w kv key) :
    Calls Try.prog 77 #[v, kv] w fun e W' => e = .returned (.bool (myF D (plc key (8 * D.length) h))) ∧ Below w.heap.size w W' := by
  obtain ⟨B, g, cap, rfl, hBB, hc, hO, hBg, hh1, hh8, hd8, hd9⟩ := id hF
  have HF : Hid (RF w base (.pointer (some ⟨B, 0, none⟩)) h (dgs D)) := hF
  have HR : Hid (Reads w kv key) := hR
  obtain ⟨ak, ck, rfl, _⟩ := hR.form
  have hBlt := (Array.getElem?_eq_some_iff.1 hc).1
  have c0 := cell_of hc 0 (by simp)
  have c1 := cell_of hc 1 (by simp)
  simp at c0 c1
  have HC0 : Hid _ := c0
  have HC1 : Hid _ := c1
  have hgl := (World.ownsRow.lt hO g rfl).2
  have HG : Hid (∀ p (hp : p < (dgs D).length), w.cell? ⟨g, p, none⟩ = some (.bool (gb D p))) := fun p hp => by
    have := (row_bool_at hO p hp).1; rw [dgs_at] at this; exact this
  have HDL : Hid ((dgs D).length = 8 * D.length) := dgs_len D
  clear hF hR hO hc c0 c1
  rw [HDL.out] at hd8 hd9
  go_enter Try.func77, Try.ntmps77
  go_wp2_with fail
  go_loopw [5, 6] (fun b i wr => ∃ k : Nat, k ≤ h ∧ i = .int .i64 (k : Int) ∧ b = .bool (myF D (plc key (8 * D.length) k)) ∧ Hid (Below w.heap.size w wr)) (fun _ i _ => h - (intOf i).toNat)
  case atStart => exact ⟨0, by omega, rfl, rfl, Below.refl _ _⟩
  case round =>
    obtain ⟨k, hk, rfl, rfl, HB⟩ := hrel
    have c1 := (HB.out.cell (p := ⟨B, 1, none⟩) hBlt).trans HC1.out
    have c0 := (HB.out.cell (p := ⟨B, 0, none⟩) hBlt).trans HC0.out
    by_cases hlt : k < h
    · have HMS : Hid _ := my_succ D key (8 * D.length) k
      cases hmy : myF D (plc key (8 * D.length) k)
      · have HM2 : Hid (myF D (plc key (8 * D.length) (k + 1)) = false) := by unfold Hid; rw [HMS.out, hmy]; rfl
        go_wp2_with fail
        refine wp_region_noPanic ?_
        refine wp_region_held_drew (S := (fun w' => Below w.heap.size w w')) (by kernel_rfl) ?_ (fun hHeld => ?_)
        · exact HB.out.drew
        refine tk (i := 0) (v := .bool false) rfl ?_ ?_
        · intro w1 hSw; go_simp
        simp only [za, zc, Act.put, zd, ze, zf]
        refine tk (i := 1) (v := .bool false) rfl ?_ ?_
        · intro w1 hSw; go_simp
        simp only [za, zb, zc, Act.put, zd, ze, zf]
        refine tn (i := 2) rfl ?_
        simp only [za, zb, zc, Act.put, zd, ze, zf]
        refine tn (i := 3) rfl ?_
        simp only [za, zb, zc, Act.put, zd, ze, zf]
        refine tn (i := 4) rfl ?_
        simp only [za, zb, zc, Act.put, zd, ze, zf]
        refine tn (i := 5) rfl ?_
        simp only [za, zb, zc, Act.put, zd, ze, zf]
        refine tn (i := 6) rfl ?_
        simp only [za, zb, zc, Act.put, zd, ze, zf]
        refine tn (i := 7) rfl ?_
        simp only [za, zb, zc, Act.put, zd, ze, zf]
        refine tn (i := 8) rfl ?_
        simp only [za, zb, zc, Act.put, zd, ze, zf]
        refine tn (i := 9) rfl ?_
        simp only [za, zb, zc, Act.put, zd, ze, zf]
        refine tn (i := 10) rfl ?_
        simp only [za, zb, zc, Act.put, zd, ze, zf]
        refine tn (i := 11) rfl ?_
        simp only [za, zb, zc, Act.put, zd, ze, zf]
        refine tk (i := 12) (v := .bool false) rfl ?_ ?_
        · intro w1 hSw; go_simp
        simp only [za, zb, zc, Act.put, zd, ze, zf]
        refine tk (i := 13) (v := .bool false) rfl ?_ ?_
        · intro w1 hSw; go_simp
        simp only [za, zb, zc, Act.put, zd, ze, zf]
        refine wpAnyH_done (by kernel_rfl) ?_ _
        refine NoPanic.normal ?_
        have HB9 : Hid (Below w.heap.size w _) := hHeld
        clear hHeld
        go_wp2_with fail
        go_roundw
        case rel => exact ⟨k + 1, by omega, by go_num, by rw [HM2.out], HB9⟩
        case measure => simp [intOf]; omega
      · obtain ⟨p, Hp⟩ := hid_ex (pla key k % (dgs D).length)
        have hp : p < (dgs D).length := by rw [Hp.out]; exact Nat.mod_lt _ (by rw [HDL.out]; omega)
        have HM2 : Hid (myF D (plc key (8 * D.length) (k + 1)) = gb D p) := by unfold Hid; rw [HMS.out, hmy, Hp.out, HDL.out]; rfl
        have hcp := HG.out p hp
        have HCP : Hid (w.cell? ⟨g, p, none⟩ = some (.bool (gb D p))) := hcp
        obtain ⟨n, Hn⟩ := hid_ex (dgs D).length
        have hpn : p < n := by rw [Hn.out]; exact hp
        rw [← Hn.out] at c0 HC0 Hp
        clear hcp hp
        go_wp2_with fail
        refine wp_region_noPanic ?_
        refine wp_region_held_drew (S := (fun w' => Below w.heap.size w w')) (by kernel_rfl) ?_ (fun hHeld => ?_)
        · exact HB.out.drew
        refine tk (i := 0) (v := .bool true) rfl ?_ ?_
        · intro w1 hSw; go_simp
        simp only [za, zc, Act.put, zd, ze, zf]
        refine tk (i := 1) (v := .bool true) rfl ?_ ?_
        · intro w1 hSw; go_simp
        simp only [za, zb, zc, Act.put, zd, ze, zf]
        refine tk (i := 2) (v := .pointer (some ⟨B, 0, none⟩)) rfl ?_ ?_
        · intro w1 hSw; go_simp
        simp only [za, zb, zc, Act.put, zd, ze, zf]
        refine tk (i := 3) (v := .pointer (some ⟨B, 0, none⟩)) rfl ?_ ?_
        · intro w1 hSw; go_simp
        simp only [za, zb, zc, Act.put, zd, ze, zf]
        refine tk (i := 4) (v := .pointer (some ⟨B, 0, none⟩)) rfl ?_ ?_
        · intro w1 hSw; go_simp
        simp only [za, zb, zc, Act.put, zd, ze, zf]
        refine tk (i := 5) (v := .slice (some ⟨g, 0, none⟩) n cap) rfl ?_ ?_
        · (intro w1 hSw; (try dsimp only at hSw); have hcc := (hSw.cell (p := ⟨B, 0, none⟩) hBlt).trans HC0.out; go_simp)
        simp only [za, zb, zc, Act.put, zd, ze, zf]
        refine tk (i := 6) (v := .pointer (some ⟨B, 0, none⟩)) rfl ?_ ?_
        · intro w1 hSw; go_simp
        simp only [za, zb, zc, Act.put, zd, ze, zf]
        refine tk (i := 7) (v := .slice ak key.length ck) rfl ?_ ?_
        · intro w1 hSw; go_simp
        simp only [za, zb, zc, Act.put, zd, ze, zf]
        refine tk (i := 8) (v := .int .i64 (k : Int)) rfl ?_ ?_
        · intro w1 hSw; go_simp
        simp only [za, zb, zc, Act.put, zd, ze, zf]
        refine wpAnyH_ready (rs := [9]) (by kernel_rfl) (by simp) ?_
        refine AllReadyH.cons (o := _) rfl (fun K hK => ?_) AllReadyH.nil
        go_simp
        refine (place_any _ _ h (dgs D) key hkl k (by omega) wr.drew base (HF.out.below HB.out.drew) (HR.out.below HB.out.drew)).mono ?_
        rintro e w3 ⟨rfl, hb3⟩
        have HB3 : Hid (Below w.heap.size w w3) := HB.out.drew.trans (hb3.mono HB.out.size)
        rw [← Hn.out, ← Hp.out]
        clear hb3
        refine hK.out _ _ ?_ (fun hHeld => ?_)
        · exact HB3.out
        clear hK K
        refine tk (i := 10) (v := .pointer (some ⟨g, p, none⟩)) rfl ?_ ?_
        · intro w1 hSw; go_simp
        simp only [za, zb, zc, Act.put, zd, ze, zf]
        refine tk (i := 11) (v := .bool (gb D p)) rfl ?_ ?_
        · (intro w1 hSw; (try dsimp only at hSw); have hcc := (hSw.cell (p := ⟨g, p, none⟩) hgl).trans HCP.out; go_simp)
        simp only [za, zb, zc, Act.put, zd, ze, zf]
        refine tk (i := 12) (v := .bool (gb D p)) rfl ?_ ?_
        · intro w1 hSw; go_simp
        simp only [za, zb, zc, Act.put, zd, ze, zf]
        refine tk (i := 13) (v := .bool (gb D p)) rfl ?_ ?_
        · intro w1 hSw; go_simp
        simp only [za, zb, zc, Act.put, zd, ze, zf]
        refine wpAnyH_done (by kernel_rfl) ?_ _
        refine NoPanic.normal ?_
        have HB9 : Hid (Below w.heap.size w w3) := hHeld
        clear hHeld
        go_wp2_with fail
        go_roundw
        case rel => exact ⟨k + 1, by omega, by go_num, by rw [HM2.out], HB9⟩
        case measure => simp [intOf]; omega
    · have hkh : k = h := by omega
      go_wp2_with fail
      go_ret
      exact ⟨by rw [hkh]; rfl, HB.out⟩
end Go.Proofs.Ytlpjdfgknmfmnaa

/- The contract of the reference's Write. -/
namespace Go.Proofs.Ytlpjdfgknmfmnaa
open Go.RowKit

theorem half_bit (x m : Nat) : x / 2 ^ m = 2 * (x / 2 ^ (m + 1)) + (if x.testBit m then 1 else 0) := by
  have e : x / 2 ^ (m + 1) = x / 2 ^ m / 2 := by rw [Nat.pow_succ, Nat.div_div_eq_div_mul]
  rw [e, Nat.testBit_eq_decide_div_mod_eq]
  generalize x / 2 ^ m = y
  rcases Nat.mod_two_eq_zero_or_one y with h | h <;> simp [h] <;> omega
theorem gb_byte (D : List UInt8) (j m : Nat) (hj : j < D.length) (hm : m < 8) : gb D (8 * j + m) = D[j].toNat.testBit m := by
  unfold gb
  have e1 : (8 * j + m) / 8 = j := by omega
  have e2 : (8 * j + m) % 8 = m := by omega
  rw [e1, e2]; simp [List.getD, hj]
set_option maxRecDepth 100000 in
set_option maxHeartbeats 1000000 in
theorem refWrite_any_B (v : Value) (h : Nat) (D : List UInt8) (w : World) (base : Nat) (hF : RF w base v h (dgs D)) :
    Calls Try.prog 31 #[v] w fun e W' => ∃ v', e = .returned v' ∧ Own W' w.heap.size v' (UInt8.ofNat h :: D) ∧ Below w.heap.size w W' := by
  obtain ⟨B, g, cap, rfl, hBB, hc, hO, hBg, hh1, hh8, hd8, hd9⟩ := id hF
  have hBlt := (Array.getElem?_eq_some_iff.1 hc).1
  have c0 := cell_of hc 0 (by simp)
  have c1 := cell_of hc 1 (by simp)
  simp at c0 c1
  have hgl := (World.ownsRow.lt hO g rfl).2
  have HG : Hid (∀ p (hp : p < (dgs D).length), w.cell? ⟨g, p, none⟩ = some (.bool (gb D p))) := fun p hp => by
    have := (row_bool_at hO p hp).1; rw [dgs_at] at this; exact this
  have hDL : (dgs D).length = 8 * D.length := dgs_len D
  rw [hDL] at c0 hd8 hd9
  have HC0 : Hid (w.cell? ⟨B, 0, none⟩ = some (.slice (some ⟨g, 0, none⟩) (8 * D.length) cap)) := c0
  have HDL : Hid ((dgs D).length = 8 * D.length) := hDL
  clear hF hO hc hDL
  go_enter Try.func31, Try.ntmps31
  go_wp2_with (at_builtin; refine wpList_app1 rfl _ _ rfl w.heap.size (.slice none 0 0) [] (UInt8.ofNat h) [UInt8.ofNat h] rfl (by unfold bc; rw [UInt8.toNat_ofNat', Nat.mod_eq_of_lt (by omega)]) rfl rfl (Own.nil _ _) (by simp) (Nat.le_refl _) ?_)
  intro v1 w1 HO1 hb1
  have HB1 : Hid (Below w.heap.size w w1) := hb1.out
  have HP1 : Hid (Own w1 w.heap.size v1 (UInt8.ofNat h :: D.take 0)) := HO1
  clear hb1 HO1
  go_wp2_with fail
  go_loopw [3, 4] (fun o i wr => ∃ j : Nat, j ≤ D.length ∧ i = .int .i64 (8 * (j : Int)) ∧ Hid (Own wr w.heap.size o (UInt8.ofNat h :: D.take j)) ∧ Hid (Below w.heap.size w wr)) (fun _ i _ => 8 * D.length - (intOf i).toNat)
  case atStart => exact ⟨0, by omega, rfl, HP1, HB1⟩
  case round =>
    obtain ⟨j, hj, rfl, HO, HB⟩ := hrel
    clear HP1 HB1
    have c0' := (HB.out.cell (p := ⟨B, 0, none⟩) hBlt).trans HC0.out
    by_cases hlt : j < D.length
    · have i1 : 8 * (j : Int) < 8 * (D.length : Int) := by omega
      obtain ⟨x, Hx⟩ := hid_ex D[j].toNat
      have hx : x < 256 := by rw [Hx.out]; exact UInt8.toNat_lt _
      have hdv : x / 2 ^ 8 = 0 := Nat.div_eq_of_lt hx
      have HDV : Hid (x / 2 ^ 8 = 0) := hdv
      clear hdv
      go_wp2_with fail
      rename World => wo
      go_loopw [5, 6] (fun n k wr => ∃ m : Nat, m ≤ 8 ∧ k = .int .i64 ((m : Int) - 1) ∧ n = .int .i64 ((x / 2 ^ m : Nat) : Int) ∧ Hid (Below wo.heap.size wo wr)) (fun _ k _ => ((intOf k) + 1).toNat)
      case atStart => exact ⟨8, by omega, rfl, by rw [HDV.out]; rfl, Below.refl _ _⟩
      case round =>
        obtain ⟨m, hm, rfl, rfl, HB2⟩ := hrel
        have HB3 : Hid (Below w.heap.size w wr) := HB.out.trans (HB2.out.mono HB.out.size)
        obtain ⟨y, Hy⟩ := hid_ex (x / 2 ^ m)
        rw [← Hy.out]
        have hy : y < 256 := by rw [Hy.out]; exact Nat.lt_of_le_of_lt (Nat.div_le_self _ _) hx
        cases m with
        | zero =>
          have hyx : y = x := by rw [Hy.out]; simp
          subst hyx
          have HT : Hid ((UInt8.ofNat h :: D.take (j + 1)) = (UInt8.ofNat h :: D.take j) ++ [D[j]]) := by
            unfold Hid; rw [List.take_add_one, List.getElem?_eq_getElem hlt]; rfl
          have HOo : Own wr w.heap.size _ (UInt8.ofNat h :: D.take j) := HO.out.below HB2.out
          go_wp2_with (at_builtin; refine wpList_app1 rfl _ _ rfl w.heap.size _ (UInt8.ofNat h :: D.take j) D[j] (UInt8.ofNat h :: D.take (j + 1)) HT.out (by unfold bc; rw [← Hx.out]) rfl rfl HOo (by simp; omega) HB3.out.size ?_)
          intro v5 w5 HO5 hb5
          have HB5 : Hid (Below w.heap.size w w5) := HB3.out.trans hb5.out
          have HP5 : Hid (Own w5 w.heap.size v5 (UInt8.ofNat h :: D.take (j + 1))) := HO5
          clear hb5 HO5 HOo
          go_wp2_with fail
          go_roundw
          case rel => exact ⟨j + 1, by omega, by go_num, HP5, HB5⟩
          case measure => simp [intOf]; omega
        | succ m =>
          have HH := half_bit x m
          rw [← Hy.out] at HH
          have hgp := (HB3.out.cell (p := ⟨g, 8 * j + m, none⟩) hgl).trans (HG.out (8 * j + m) (by rw [HDL.out]; omega))
          have hgb := gb_byte D j m hlt (by omega)
          rw [← Hx.out] at hgb
          rw [hgb] at hgp
          have c02 := (HB3.out.cell (p := ⟨B, 0, none⟩) hBlt).trans HC0.out
          have q1 : (8 * (j : Int) + ((m + 1 : Nat) - 1)).toNat = 8 * j + m := by omega
          clear hgb
          cases hbit : x.testBit m
          · rw [hbit] at hgp HH
            simp only [Bool.false_eq_true, if_false, Nat.add_zero] at HH
            have HHH : Hid _ := HH
            clear HH
            go_wp2_with fail
            go_roundw
            case rel => exact ⟨m, by omega, by go_num, by rw [HHH.out]; go_num, HB2⟩
            case measure => simp [intOf]
          · rw [hbit] at hgp HH
            simp only [if_true] at HH
            have HHH : Hid _ := HH
            clear HH
            go_wp2_with fail
            go_roundw
            case rel => exact ⟨m, by omega, by go_num, by rw [HHH.out]; go_num, HB2⟩
            case measure => simp [intOf]
    · have i1 : ¬ 8 * (j : Int) < 8 * (D.length : Int) := by omega
      have hje : j = D.length := by omega
      rw [hje, List.take_length] at HO
      clear hje
      go_wp2_with fail
      go_ret
      exact ⟨_, rfl, HO.out, HB.out⟩
end Go.Proofs.Ytlpjdfgknmfmnaa

/- The reference's Add of a filter: only its digits turn. -/
namespace Go.Proofs.Ytlpjdfgknmfmnaa
open Go.RowKit

set_option maxRecDepth 100000 in
set_option maxHeartbeats 1000000 in
theorem refAddK_any (v kv : Value) (h : Nat) (D key : List UInt8) (hkl : key.length ≤ 100000) (w0 w : World) (base : Nat) (hbase : base ≤ w.heap.size) (hF : RF w base v h (dgs D)) (hR : Reads w0 kv key) (h0 : Below w0.heap.size w0 w) (hb0 : w0.heap.size ≤ base) :
    Calls Try.prog 29 #[v, kv] w fun e W' => (∃ u, e = .returned u) ∧ RF W' base v h (dgs (adF D (plc key (8 * D.length) h))) ∧ Below base w W' ∧ KpT (fun T => T ≠ 4) w W' := by
  obtain ⟨B, rfl⟩ := hF.ptr
  have HF : Hid (RF w base (.pointer (some ⟨B, 0, none⟩)) h (dgs D)) := hF
  have HR : Hid (Reads w0 kv key) := hR
  have H0 : Hid (Below w0.heap.size w0 w) := h0
  obtain ⟨ak, ck, rfl, _⟩ := hR.form
  have hfc := hF.facts
  rw [dgs_len] at hfc
  obtain ⟨hh1, hh8, hd8, hd9⟩ := hfc
  clear hF hR h0
  go_enter Try.func29, Try.ntmps29
  go_wp2_with fail
  go_loopw [4] (fun i wr => ∃ k : Nat, k ≤ h ∧ i = .int .i64 (k : Int) ∧ Hid (RF wr base (.pointer (some ⟨B, 0, none⟩)) h (dgs (adF D (plc key (8 * D.length) k)))) ∧ Hid (Below base w wr) ∧ Hid (KpT (fun T => T ≠ 4) w wr)) (fun i _ => h - (intOf i).toNat)
  case atStart => exact ⟨0, by omega, rfl, HF, Below.refl _ _, fun _ _ _ _ _ h => h⟩
  case round =>
    obtain ⟨k, hk, rfl, HX, HB, HKp⟩ := hrel
    obtain ⟨E, HE⟩ := hid_ex (adF D (plc key (8 * D.length) k))
    rw [← HE.out] at HX
    have HEL : Hid (E.length = D.length) := by rw [HE.out]; exact adF_len _ _
    obtain ⟨B', g, cap, hBe, hBB, hc, hO, hBg, _, _, _, _⟩ := id HX.out
    cases hBe
    have c1 := cell_of hc 1 (by simp)
    have c0 := cell_of hc 0 (by simp)
    simp at c0 c1
    by_cases hlt : k < h
    · have HRk : Hid (Reads wr (.slice ak key.length ck) key) := HR.out.below (H0.out.trans (HB.out.mono hb0))
      have HO : Hid (wr.ownsRow base 4 1 (.slice (some ⟨g, 0, none⟩) (dgs E).length cap) (dgs E).length ((dgs E).map bcb)) := hO
      have HC : Hid (wr.heap[B]? = some (.cells #[.slice (some ⟨g, 0, none⟩) (dgs E).length cap, .int .i64 (h : Int)] 113)) := hc
      have HCE : Hid ((dgs E).length = 8 * D.length) := by unfold Hid; rw [dgs_len, HEL.out]
      have HSZ : Hid (base ≤ wr.heap.size) := Nat.le_trans hbase HB.out.size
      have HGB : Hid (g < wr.heap.size ∧ base ≤ g) := by have := World.ownsRow.lt hO g rfl; exact ⟨this.2, this.1⟩
      have HBL : Hid (B < wr.heap.size) := (Array.getElem?_eq_some_iff.1 hc).1
      have HBG : Hid (B ≠ g) := hBg
      have HPL : Hid (pla key k % (8 * D.length) < 8 * D.length) := Nat.mod_lt _ (by omega)
      clear hO hc hBg
      go_wp2_with fail
      refine wp_region_noPanic ?_
      refine wp_region_held_drew (S := (fun w' => Below base w w' ∧ w'.heap[B]? = some (.cells #[.slice (some ⟨g, 0, none⟩) (dgs E).length cap, .int .i64 (h : Int)] 113))) (by kernel_rfl) ?_ (fun hHeld => ?_)
      · exact ⟨HB.out.drew, HC.out⟩
      refine tk (i := 0) (v := .pointer (some ⟨B, 0, none⟩)) rfl ?_ ?_
      · intro w1 hSw; go_simp
      simp only [za, zc, Act.put, zd, ze, zf]
      refine tk (i := 1) (v := .pointer (some ⟨B, 0, none⟩)) rfl ?_ ?_
      · intro w1 hSw; go_simp
      simp only [za, zb, zc, Act.put, zd, ze, zf]
      refine tk (i := 2) (v := .pointer (some ⟨B, 0, none⟩)) rfl ?_ ?_
      · intro w1 hSw; go_simp
      simp only [za, zb, zc, Act.put, zd, ze, zf]
      refine tk (i := 3) (v := .slice (some ⟨g, 0, none⟩) (dgs E).length cap) rfl ?_ ?_
      · (intro w1 hSw; (try dsimp only at hSw); (have hcc := cell_of hSw.2 0 (by simp); simp at hcc); go_simp)
      simp only [za, zb, zc, Act.put, zd, ze, zf]
      refine tk (i := 4) (v := .pointer (some ⟨B, 0, none⟩)) rfl ?_ ?_
      · intro w1 hSw; go_simp
      simp only [za, zb, zc, Act.put, zd, ze, zf]
      refine tk (i := 5) (v := .slice ak key.length ck) rfl ?_ ?_
      · intro w1 hSw; go_simp
      simp only [za, zb, zc, Act.put, zd, ze, zf]
      refine tk (i := 6) (v := .int .i64 (k : Int)) rfl ?_ ?_
      · intro w1 hSw; go_simp
      simp only [za, zb, zc, Act.put, zd, ze, zf]
      refine wpAnyH_ready (rs := [7]) (by kernel_rfl) (by simp) ?_
      refine AllReadyH.cons (o := _) rfl (fun K hK => ?_) AllReadyH.nil
      go_simp
      refine (place_any _ _ h (dgs E) key hkl k (by omega) wr.drew base (HX.out.below (Below.refl wr.heap.size wr).drew) (HRk.out.below (Below.refl wr.heap.size wr).drew)).mono ?_
      rintro e w3 ⟨rfl, hb3⟩
      have HB3 : Hid (Below wr.heap.size wr w3) := (Below.refl wr.heap.size wr).drew.trans hb3
      clear hb3
      obtain ⟨p, Hp⟩ := hid_ex (pla key k % (dgs E).length)
      rw [← Hp.out]
      have hp : p < 8 * D.length := by rw [Hp.out, HCE.out]; exact HPL.out
      have hpE : p < (dgs E).length := by rw [HCE.out]; exact hp
      have HC3 : Hid (w3.heap[B]? = some (.cells #[.slice (some ⟨g, 0, none⟩) (dgs E).length cap, .int .i64 (h : Int)] 113)) := (HB3.out.block B HBL.out).trans HC.out
      have HO3 : Hid (w3.ownsRow base 4 1 (.slice (some ⟨g, 0, none⟩) (dgs E).length cap) (dgs E).length ((dgs E).map bcb)) := by
        obtain ⟨q1, q2⟩ := HO.out
        refine ⟨q1, ?_⟩
        rcases q2 with q2 | ⟨g2, cap2, cur, hv, hg, hw, r⟩
        · exact .inl q2
        · exact .inr ⟨g2, cap2, cur, hv, hg, (HB3.out.block g2 (Array.getElem?_eq_some_iff.1 hw).1).trans hw, r⟩
      have HB4 : Hid (Below base w w3) := HB.out.trans (HB3.out.mono HSZ.out)
      refine hK.out _ _ ?_ (fun hHeld => ?_)
      · exact ⟨HB4.out, HC3.out⟩
      clear hK K
      refine tk (i := 8) (v := .pointer (some ⟨g, p, none⟩)) rfl ?_ ?_
      · intro w1 hSw; go_simp
      simp only [za, zb, zc, Act.put, zd, ze, zf]
      obtain ⟨hcp, hfp⟩ := row_bool_at HO3.out p hpE
      refine wpAnyH_ready (rs := [9]) (by kernel_rfl) (by simp) ?_
      refine AllReadyH.cons (o := _) rfl (fun K hK => ?_) AllReadyH.nil
      go_simp
      have hst := (HO3.out.stored p (.bool true)).1
      have hgr := grown_set w3 g p (.bool true)
      have hB4 : Below base w3 (w3.setCell ⟨g, p, none⟩ (.bool true)) := (Below.refl _ _).setCell HGB.out.2 _
      have HC5 : Hid ((w3.setCell ⟨g, p, none⟩ (.bool true)).heap[B]? = some (.cells #[.slice (some ⟨g, 0, none⟩) (dgs E).length cap, .int .i64 (h : Int)] 113)) := (hgr.block B (Array.getElem?_eq_some_iff.1 HC3.out).1 (by simpa using HBG.out)).trans HC3.out
      have HB5 : Hid (Below base w (w3.setCell ⟨g, p, none⟩ (.bool true))) := HB4.out.trans hB4
      refine hK.out _ _ ?_ (fun hHeld => ?_)
      · exact ⟨HB5.out, HC5.out⟩
      clear hK K
      clear hHeld
      refine wpAnyH_done (by kernel_rfl) ?_ _
      refine NoPanic.normal ?_
      have HX5 : Hid (RF (w3.setCell ⟨g, p, none⟩ (.bool true)) base (.pointer (some ⟨B, 0, none⟩)) h (dgs (adF D (plc key (8 * D.length) (k + 1))))) := by
        have e1 : adF D (plc key (8 * D.length) (k + 1)) = sb E p := by rw [plc_succ, adF_snoc, ← HE.out, Hp.out, HCE.out]
        rw [e1, ← dgs_sb E p (by rw [HEL.out]; exact hp)]
        refine ⟨B, g, cap, rfl, hBB, by rw [List.length_set]; exact HC5.out, ?_, HBG.out, hh1, hh8, by rw [List.length_set, HCE.out]; exact hd8, by rw [List.length_set, HCE.out]; exact hd9⟩
        rw [List.length_set, List.map_set]; exact hst
      have HKp5 : Hid (KpT (fun T => T ≠ 4) w (w3.setCell ⟨g, p, none⟩ (.bool true))) := (HKp.out.trans (KpT.of_below HB3.out)).trans (KpT.set HO3.out)
      clear hst hgr hB4 HC5
      go_wp2_with fail
      go_roundw
      case rel => exact ⟨k + 1, by omega, by go_num, HX5, HB5, HKp5⟩
      case measure => simp [intOf]; omega
    · have hkh : k = h := by omega
      clear hO hc
      go_wp2_with fail
      refine bodyPost_end (results_none rfl _ _ _) rfl ?_
      refine ⟨⟨_, rfl⟩, ?_, HB.out, HKp.out⟩
      have e9 : plc key (8 * D.length) h = plc key (8 * D.length) k := by rw [hkh]
      rw [e9, ← HE.out]; exact HX.out
end Go.Proofs.Ytlpjdfgknmfmnaa
