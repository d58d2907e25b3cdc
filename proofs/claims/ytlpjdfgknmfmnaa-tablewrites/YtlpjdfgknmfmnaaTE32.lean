/- RB1 V7 RB2 RB3, joined. -/
import Derived.Test.YtlpjdfgknmfmnaaTE9
import Derived.Test.YtlpjdfgknmfmnaaTE13
import Derived.Test.YtlpjdfgknmfmnaaTE19
import Derived.Test.YtlpjdfgknmfmnaaTE31
import Derived.Deep.QuietTactic
import Derived.BigQuiet
import Derived.BigRegion
/- A filter's digits, one by one. -/
namespace Go.Proofs.Ytlpjdfgknmfmnaa
open Go.RowKit

/-- A filter's digits. -/
def dgs (D : List UInt8) : List Bool := (List.range (8 * D.length)).map (gb D)
theorem dgs_len (D : List UInt8) : (dgs D).length = 8 * D.length := by simp [dgs]
theorem dgs_at (D : List UInt8) (q : Nat) (h : q < (dgs D).length) : (dgs D)[q] = gb D q := by simp [dgs]
theorem dgs_sb (D : List UInt8) (p : Nat) (hp : p < 8 * D.length) : (dgs D).set p true = dgs (sb D p) := by
  apply List.ext_getElem
  · simp [dgs_len, sb_len]
  · intro q h1 h2
    rw [List.getElem_set, dgs_at _ _ h2, gb_sb _ _ _ (by omega)]
    by_cases e : p = q
    · subst e; simp
    · simp [e, dgs_at]
theorem dgs_zero (d : Nat) : dgs (List.replicate d 0) = List.replicate (8 * d) false := by
  apply List.ext_getElem
  · simp [dgs_len]
  · intro q h1 h2
    rw [dgs_at, gb_zero]; simp
def bcb (b : Bool) : Value := .bool b
/-- The reference's filter in memory, made since base: lo ≤ its blocks. -/
def RF (w : World) (base : Nat) (v : Value) (h : Nat) (bs : List Bool) : Prop :=
  ∃ B g cap, v = .pointer (some ⟨B, 0, none⟩) ∧ base ≤ B ∧ w.heap[B]? = some (.cells #[.slice (some ⟨g, 0, none⟩) bs.length cap, .int .i64 (h : Int)] 113) ∧ w.ownsRow base 4 1 (.slice (some ⟨g, 0, none⟩) bs.length cap) bs.length (bs.map bcb) ∧ B ≠ g ∧ 1 ≤ h ∧ h ≤ 8 ∧ 8 ≤ bs.length ∧ bs.length ≤ 65536
theorem RF.kcB {n : Nat} {A B : World} {base : Nat} {v : Value} {h : Nat} {D : List Bool} (hf : RF A base v h D) (hk : Kc n A B) : RF B base v h D := by
  obtain ⟨b, g, cap, h1, h2, h3, h4, h5⟩ := hf
  refine ⟨b, g, cap, h1, h2, hk.c _ _ _ _ h3, ?_, h5⟩
  obtain ⟨q1, q2⟩ := h4
  refine ⟨q1, ?_⟩
  rcases q2 with q2 | ⟨g, cap, cur, hv, hg, hw, r⟩
  · exact .inl q2
  · exact .inr ⟨g, cap, cur, hv, hg, hk.c _ _ _ _ hw, r⟩
theorem RF.below {A B : World} {base : Nat} {v : Value} {h : Nat} {D : List Bool} (hf : RF A base v h D) (hb : Below A.heap.size A B) : RF B base v h D :=
  hf.kcB (Kc.of_below hb (Nat.le_refl _))
theorem RF.ptr {w : World} {base : Nat} {v : Value} {h : Nat} {D : List Bool} (hf : RF w base v h D) : ∃ B, v = .pointer (some ⟨B, 0, none⟩) := by obtain ⟨B, _, _, rfl, _⟩ := hf; exact ⟨B, rfl⟩
theorem RF.facts {w : World} {base : Nat} {v : Value} {h : Nat} {D : List Bool} (hf : RF w base v h D) : 1 ≤ h ∧ h ≤ 8 ∧ 8 ≤ D.length ∧ D.length ≤ 65536 := by obtain ⟨B, _, _, _, _, _, _, _, h1, h2, h3, h4⟩ := hf; exact ⟨h1, h2, h3, h4⟩
theorem row_bool_at {w : World} {base g cap : Nat} {bs : List Bool} (h : w.ownsRow base 4 1 (.slice (some ⟨g, 0, none⟩) bs.length cap) bs.length (bs.map bcb)) (j : Nat) (hj : j < bs.length) : w.cell? ⟨g, j, none⟩ = some (.bool bs[j]) ∧ w.frozen? ⟨g, j, none⟩ = false := by
  refine ⟨?_, World.ownsRow.frozenAt h j⟩
  rw [World.ownsRow.cellAt h j (by simpa using hj)]
  simp [hj, bcb]
/-- The reference's place, and the code's. -/
theorem ref_step (key : List UInt8) : (if mor 0 (key ++ [1]) % 2 = 0 then mor 0 (key ++ [1]) + 1 else mor 0 (key ++ [1])) = ste key := by
  unfold ste
  rw [← mor_append]
  generalize mor 0 (key ++ [1]) = m
  split
  · rename_i h
    obtain ⟨k, rfl⟩ : ∃ k, m = 2 * k := ⟨m / 2, by omega⟩
    have := Nat.two_pow_add_eq_or_of_lt (i := 1) (b := 1) (by decide) k
    simpa using this
  · rename_i h
    obtain ⟨k, rfl⟩ : ∃ k, m = 2 * k + 1 := ⟨m / 2, by omega⟩
    have := Nat.two_pow_add_eq_or_of_lt (i := 1) (b := 1) (by decide) k
    simp at this
    rw [this, Nat.or_assoc, Nat.or_self]
theorem ref_place (key : List UInt8) (i : Nat) : ((mor 0 key : Int) + ((i : Int) * (ste key : Int)) % 4294967296) % 4294967296 = (pla key i : Int) := by
  unfold pla
  have e : ((i * ste key : Nat) : Int) = (i : Int) * (ste key : Int) := Int.natCast_mul _ _
  rw [← e]
  generalize i * ste key = m
  omega
end Go.Proofs.Ytlpjdfgknmfmnaa

/- The contracts of the reference's step, More and Sum. -/
namespace Go.Proofs.Ytlpjdfgknmfmnaa
open Go.RowKit

theorem ret_int {k : IntKind} {a b : Int} (h : a = b) : Ending.returned (.int k a) = .returned (.int k b) := by rw [h]

set_option maxRecDepth 100000 in
set_option maxHeartbeats 1000000 in
theorem step_any (c : Nat) (hc : c < 4294967296) (x : UInt8) (w : World) :
    Calls Try.prog 99 #[.int .u32 (c : Int), .int .u8 (x.toNat : Int)] w fun e w' => e = .returned (.int .u32 (byt c x : Nat)) ∧ w' = w := by
  have hxb : x.toNat < 256 := x.toNat_lt
  have hx := x_xor (c := c) (d := x.toNat) hc (by omega)
  go_enter Try.func99, Try.ntmps99
  go_wp2_with fail
  go_loop [0, 5] (fun r i => ∃ m d : Nat, m ≤ 8 ∧ i = .int .i64 m ∧ d < 4294967296 ∧ r = .int .u32 (d : Int) ∧ Hid (d = stps m (c ^^^ x.toNat))) (fun _ i => 8 - (intOf i).toNat)
  case atStart => exact ⟨0, _, by omega, rfl, xor_lt32 hc (by omega), rfl, rfl⟩
  case round =>
    obtain ⟨m, d, hm, rfl, hd, rfl, HD⟩ := hrel
    by_cases hm8 : m < 8
    · have y1 := x_turn hd
      rcases Nat.mod_two_eq_zero_or_one d with h2 | h2
      · have hs2 : stp d = d / 2 := by unfold stp; rw [if_neg (by omega)]
        have HS : Hid (d / 2 = stps (m + 1) (c ^^^ x.toNat)) := by unfold Hid; rw [stps_snoc, ← HD.out, hs2]
        have h3 : (d : Int) % 2 = 0 := by omega
        clear hs2 h2
        go_wp2_with fail
        go_round
        case rel => exact ⟨m + 1, d / 2, by omega, by go_num, by omega, by go_num, HS⟩
        case measure => simp [intOf]; omega
      · have hs2 : stp d = d / 2 ^^^ 2197175160 := by unfold stp; rw [if_pos h2]
        have HS : Hid (d / 2 ^^^ 2197175160 = stps (m + 1) (c ^^^ x.toNat)) := by unfold Hid; rw [stps_snoc, ← HD.out, hs2]
        have hlt2 := xor_lt32 (a := d / 2) (b := 2197175160) (by omega) (by omega)
        have h3 : (d : Int) % 2 = 1 := by omega
        clear hs2 h2
        go_wp2_with fail
        go_round
        case rel => exact ⟨m + 1, d / 2 ^^^ 2197175160, by omega, by go_num, hlt2, rfl, HS⟩
        case measure => simp [intOf]; omega
    · have HS : Hid (d = byt c x) := by
        unfold Hid
        have e8 : m = 8 := by omega
        rw [HD.out, e8]; rfl
      go_wp2_with fail
      go_ret
      exact ⟨by rw [HS.out]; rfl, rfl⟩
set_option maxRecDepth 100000 in
set_option maxHeartbeats 1000000 in
theorem refMore_some (s : Nat) (hs : s < 4294967296) (b off cap : Nat) (l : List UInt8) (hl : l.length ≤ maxLen) (w : World)
    (hc : ∀ j (h : j < l.length), w.cell? ⟨b, off + j, none⟩ = some (bc l[j])) :
    Calls Try.prog 88 #[.int .u32 (s : Int), .slice (some ⟨b, off, none⟩) l.length cap] w fun e w' => e = .returned (.int .u32 (mor s l : Nat)) ∧ w' = w := by
  unfold maxLen at hl
  have HC : Hid (∀ j (h : j < l.length), w.cell? ⟨b, off + j, none⟩ = some (bc l[j])) := hc
  clear hc
  go_enter Try.func88, Try.ntmps88
  go_wp2_with fail
  go_loop [5, 6] (fun r i => ∃ k c : Nat, k ≤ l.length ∧ i = .int .i64 k ∧ c < 4294967296 ∧ r = .int .u32 (c : Int) ∧ Hid (c = reg (4294967295 - s) (l.take k))) (fun _ i => l.length - (intOf i).toNat)
  case atStart => exact ⟨0, 4294967295 - s, Nat.zero_le _, rfl, by omega, by go_num, rfl⟩
  case round =>
    obtain ⟨k, c, hk, rfl, hcl, rfl, HE⟩ := hrel
    by_cases hlt : k < l.length
    · have hcell := HC.out k hlt
      unfold bc at hcell
      go_wp2_with fail
      refine (step_any c hcl l[k] _).mono ?_
      rintro e w1 ⟨rfl, hw⟩
      subst w1
      have HS : Hid (byt c l[k] = reg (4294967295 - s) (l.take (k + 1))) := by
        unfold Hid
        rw [List.take_succ_eq_append_getElem hlt, reg_snoc, ← HE.out]
      have hbl := byt_lt (c := c) (x := l[k]) hcl
      go_wp2_with fail
      go_round
      case rel => exact ⟨k + 1, _, by omega, by go_num, hbl, rfl, HS⟩
      case measure => simp [intOf]; omega
    · have hkl : k = l.length := by omega
      have HS : Hid (4294967295 - c = mor s l) := by
        unfold Hid mor
        rw [HE.out, hkl, List.take_length]
      clear hkl
      go_wp2_with fail
      go_ret
      exact ⟨by rw [← HS.out]; exact ret_int (by omega), rfl⟩
theorem refMore_none (s : Nat) (hs : s < 4294967296) (a : Option Addr) (cap : Nat) (w : World) :
    Calls Try.prog 88 #[.int .u32 (s : Int), .slice a 0 cap] w fun e w' => e = .returned (.int .u32 (mor s [] : Nat)) ∧ w' = w := by
  have HS : Hid (mor s [] = s) := mor_nil hs
  go_enter Try.func88, Try.ntmps88
  go_wp2_with fail
  go_loop [5, 6] (fun r i => i = .int .i64 0 ∧ r = .int .u32 (4294967295 - (s : Int))) (fun _ _ => 0)
  case atStart => exact ⟨rfl, rfl⟩
  case round =>
    obtain ⟨rfl, rfl⟩ := hrel
    go_wp2_with fail
    go_ret
    exact ⟨by rw [HS.out]; exact ret_int (by omega), rfl⟩
theorem refMore_any (s : Nat) (hs : s < 4294967296) (v : Value) (l : List UInt8) (w : World) (h : Reads w v l) :
    Calls Try.prog 88 #[.int .u32 (s : Int), v] w fun e w' => e = .returned (.int .u32 (mor s l : Nat)) ∧ w' = w := by
  rcases h with ⟨rfl, a, cap, rfl, _⟩ | ⟨b, off, cap, rfl, h2, h3, h4, h5, h6⟩
  · exact refMore_none s hs a cap w
  · exact refMore_some s hs b off cap l (by omega) w h6
theorem refSum_any (v : Value) (l : List UInt8) (w : World) (h : Reads w v l) :
    Calls Try.prog 64 #[v] w fun e w' => e = .returned (.int .u32 (mor 0 l : Nat)) ∧ w' = w := by
  obtain ⟨a, cap, rfl, _⟩ := h.form
  go_enter Try.func64, Try.ntmps64
  go_wp2_with fail
  refine (refMore_any 0 (by decide) _ l _ h).mono ?_
  rintro e w' ⟨rfl, hw⟩
  subst w'
  clear h
  go_wp2_with fail
  go_ret
  exact ⟨rfl, rfl⟩
end Go.Proofs.Ytlpjdfgknmfmnaa

/- The contract of the reference's Place. -/
namespace Go.Proofs.Ytlpjdfgknmfmnaa
open Go.RowKit

theorem ref_fin (q i st n : Nat) (hn : 0 < n) (hn2 : n ≤ 65536) : wrap64 (((q : Int) + (i : Int) * (st : Int)) % 4294967296 % (n : Int)) = (((q + i * st) % 4294967296 % n : Nat) : Int) := by
  have e : ((q : Int) + (i : Int) * (st : Int)) = ((q + i * st : Nat) : Int) := by rw [Int.natCast_add, Int.natCast_mul]
  rw [e]
  generalize q + i * st = m
  have e2 : ((m : Int) % 4294967296 % (n : Int)) = ((m % 4294967296 % n : Nat) : Int) := by rw [Int.natCast_emod, Int.natCast_emod]; rfl
  rw [e2]
  have := Nat.mod_lt (m % 4294967296) hn
  generalize m % 4294967296 % n = k at *
  unfold wrap64
  omega
set_option maxRecDepth 100000 in
set_option maxHeartbeats 1000000 in
theorem place_any (v kv : Value) (h : Nat) (bs : List Bool) (key : List UInt8) (hkl : key.length ≤ 100000) (i : Nat) (hi8 : i < 8) (w : World) (base : Nat) (hF : RF w base v h bs) (hR : Reads w kv key) :
    Calls Try.prog 66 #[v, kv, .int .i64 (i : Int)] w fun e W' => e = .returned (.int .i64 ((pla key i % bs.length : Nat) : Int)) ∧ Below w.heap.size w W' := by
  obtain ⟨B, g, cap, rfl, hB, hc, hO, hBg, hh1, hh8, hD0, hD1⟩ := id hF
  have c0 := cell_of hc 0 (by simp)
  simp at c0
  have hBlt := (Array.getElem?_eq_some_iff.1 hc).1
  have HC0 : Hid (w.cell? ⟨B, 0, none⟩ = some (.slice (some ⟨g, 0, none⟩) bs.length cap)) := c0
  have HR : Hid (Reads w kv key) := hR
  obtain ⟨ak, ck, rfl, _⟩ := hR.form
  clear hF hc hO c0
  go_enter Try.func66, Try.ntmps66
  go_wp2_with (at_builtin; refine wpList_app rfl _ _ rfl w.heap.size _ _ [] key key rfl rfl rfl (Own.nil _ _) hR (by simp; omega) (Nat.le_refl _) ?_)
  intro v2 w2 HO2 hb2
  have HB2 : Hid (Below w.heap.size w w2) := hb2.out
  have hsz2 := HB2.out.size
  clear hb2 hR
  go_wp2_with (at_builtin; refine wpList_app1 rfl _ _ rfl w.heap.size v2 key 1 (key ++ [1]) rfl rfl rfl rfl HO2 (by omega) hsz2 ?_)
  intro v3 w3 HO3 hb3
  have HB3 : Hid (Below w.heap.size w w3) := HB2.out.trans hb3.out
  have HR3 : Hid (Reads w3 v3 (key ++ [1])) := HO3.reads
  have HK3 : Hid (Reads w3 (.slice ak key.length ck) key) := HR.out.below HB3.out
  clear hb3 HO2 HO3 HB2 hsz2
  go_wp2_with fail
  refine (refSum_any _ key _ HK3.out).mono ?_
  rintro e w4 ⟨rfl, hw4⟩
  subst w4
  go_wp2_with fail
  refine (refSum_any _ _ _ HR3.out).mono ?_
  rintro e w4 ⟨rfl, hw4⟩
  subst w4
  obtain ⟨a3, c3, hv3, _⟩ := HR3.out.form
  subst hv3
  obtain ⟨m, Hm⟩ := hid_ex (mor 0 (key ++ [1]))
  rw [← Hm.out]
  have hm : m < 4294967296 := by rw [Hm.out]; exact mor_lt _ _
  obtain ⟨q, Hq⟩ := hid_ex (mor 0 key)
  rw [← Hq.out]
  have hq : q < 4294967296 := by rw [Hq.out]; exact mor_lt _ _
  have hcB := (HB3.out.cell (p := ⟨B, 0, none⟩) hBlt).trans HC0.out
  have hst := ste_lt key
  have hz : ¬ ((bs.length : Nat) : Int) = 0 := by omega
  have HRS : Hid ((if m % 2 = 0 then m + 1 else m) = ste key) := by rw [Hm.out]; exact ref_step key
  clear HR3 HK3
  rcases Nat.mod_two_eq_zero_or_one m with h2 | h2
  · have e1 : ste key = m + 1 := by rw [← HRS.out, if_pos h2]
    have j2 : (m : Int) % 2 = 0 := by omega
    have HE : Hid (pla key i = (q + i * (m + 1)) % 4294967296) := by unfold Hid pla; rw [e1, Hq.out]
    clear e1 HRS
    go_wp2_with fail
    go_ret
    refine ⟨?_, HB3.out⟩
    have := ref_fin q i (m + 1) bs.length (by omega) hD1
    rw [HE.out, ← this, Int.natCast_add]; rfl
  · have e1 : ste key = m := by rw [← HRS.out, if_neg (by omega)]
    have j2 : (m : Int) % 2 = 1 := by omega
    have HE : Hid (pla key i = (q + i * m) % 4294967296) := by unfold Hid pla; rw [e1, Hq.out]
    clear e1 HRS
    go_wp2_with fail
    go_ret
    refine ⟨?_, HB3.out⟩
    have := ref_fin q i m bs.length (by omega) hD1
    rw [HE.out, ← this]; rfl
end Go.Proofs.Ytlpjdfgknmfmnaa

/- The contracts of the reference's New, Add and May. -/
namespace Go.Proofs.Ytlpjdfgknmfmnaa
open Go.RowKit

theorem infoBl : (Try.prog.info? 4).map (fun i => (i.zero, i.size, i.bytes)) = some (some (.bool false), 1, 1) := by kernel_rfl
theorem rf_new {w : World} {base g n cap : Nat} {bs : List Bool} (h : Nat) (ho : w.ownsRow base 4 1 (.slice (some ⟨g, 0, none⟩) n cap) n (bs.map bcb)) (hn : n = bs.length) (h1 : 1 ≤ h) (h8 : h ≤ 8) (hd : 8 ≤ n) (hd8 : n ≤ 65536) :
    RF (w.alloc (.cells #[.slice (some ⟨g, 0, none⟩) n cap, .int .i64 (h : Int)] 113)) base (.pointer (some ⟨w.heap.size, 0, none⟩)) h bs := by
  subst hn
  have hlt := World.ownsRow.lt ho g rfl
  exact ⟨w.heap.size, g, cap, rfl, by omega, World.alloc_heap_new _ _, ho.alloc _, by omega, h1, h8, hd, hd8⟩
set_option maxRecDepth 100000 in
set_option maxHeartbeats 1000000 in
theorem refNew_ok (d h : Nat) (hok : newOk (8 * d) h) (w : World) : Calls Try.prog 25 #[.int .i64 (8 * (d : Int)), .int .i64 (h : Int)] w fun e w' => ∃ v, e = .returned (.tuple #[v, .int .i64 0]) ∧ RF w' w.heap.size v h (List.replicate (8 * d) false) ∧ Below w.heap.size w w' := by
  obtain ⟨h1, h2, h3, h4, h5⟩ := hok
  have i1 : ¬ 8 * (d : Int) < 8 := by omega
  have i2 : ¬ (65536 : Int) < 8 * (d : Int) := by omega
  have hr : (8 * (d : Int)).tmod 8 = 0 := by rw [Int.mul_tmod_right]
  obtain ⟨i0, hi, hz0, hz1, hz2⟩ := info_parts infoBl
  obtain ⟨w2, hrn, hown2, hg2⟩ := run_make_full (P := Try.prog) w w.heap.size 111 4 i0 (.bool false) 1 Try.underlying111 hi hz0 hz1 .i64 .i64 (8 * d) (by rw [hz2]; omega) (by unfold maxLen; omega) (Nat.le_refl _)
  have e2 : ((8 * d : Nat) : Int) = 8 * (d : Int) := by omega
  rw [e2] at hrn
  have HB2 : Hid (Below w.heap.size w w2) := (Below.refl _ _).grown hg2 (Nat.le_refl _) (fun k hk => by cases hk)
  have HO2 : Hid (w2.ownsRow w.heap.size 4 1 (.slice (some ⟨w.heap.size, 0, none⟩) (8 * d) (8 * d)) (8 * d) ((List.replicate (8 * d) false).map bcb)) := by
    have e0 : (Value.bool false).cells = #[.bool false] := rfl
    rw [e0, Nat.mul_one, toList_madeCells_one] at hown2
    unfold Hid; simpa [bcb] using hown2
  clear hown2 hg2 e2 hi hz0 hz1 hz2
  go_enter Try.func25, Try.ntmps25
  go_wp2_with fail
  go_ret2
  have hs2 := HB2.out.size
  exact ⟨_, rfl, rf_new h HO2.out (by simp) (by omega) (by omega) (by omega) (by omega), HB2.out.alloc hs2 _⟩
theorem refNew_no (d h : Int) (hno : ¬ newOk d h) (w : World) : Calls Try.prog 25 #[.int .i64 d, .int .i64 h] w fun e w' => e = .returned (.tuple #[.pointer none, .int .i64 1]) ∧ w' = w := by
  by_cases h1 : d < 8
  · go_enter Try.func25, Try.ntmps25
    go_wp2_with fail
    go_ret2
    exact ⟨rfl, rfl⟩
  by_cases h2 : 65536 < d
  · go_enter Try.func25, Try.ntmps25
    go_wp2_with fail
    go_ret2
    exact ⟨rfl, rfl⟩
  have et : d.tmod 8 = d % 8 := Int.tmod_eq_emod_of_nonneg (by omega)
  by_cases h3 : d % 8 = 0
  · have h4 : d.tmod 8 = 0 := by omega
    have h5 : h < 1 ∨ 8 < h := by
      unfold newOk at hno
      omega
    clear et
    by_cases h6 : h < 1
    · go_enter Try.func25, Try.ntmps25
      go_wp2_with fail
      go_ret2
      exact ⟨rfl, rfl⟩
    · have h7 : 8 < h := by omega
      go_enter Try.func25, Try.ntmps25
      go_wp2_with fail
      go_ret2
      exact ⟨rfl, rfl⟩
  · have h4 : 0 < d.tmod 8 := by omega
    clear et
    go_enter Try.func25, Try.ntmps25
    go_wp2_with fail
    go_ret2
    exact ⟨rfl, rfl⟩
set_option maxRecDepth 100000 in
set_option maxHeartbeats 1000000 in
theorem refAdd_any_B (v kv : Value) (h : Nat) (D key : List UInt8) (hkl : key.length ≤ 100000) (w0 w : World) (base : Nat) (hbase : base ≤ w.heap.size) (hF : RF w base v h (dgs D)) (hR : Reads w0 kv key) (h0 : Below w0.heap.size w0 w) (hb0 : w0.heap.size ≤ base) :
    Calls Try.prog 29 #[v, kv] w fun e W' => (∃ u, e = .returned u) ∧ RF W' base v h (dgs (adF D (plc key (8 * D.length) h))) ∧ Below base w W' := by
  obtain ⟨B, rfl⟩ := hF.ptr
  have HF : Hid (RF w base (.pointer (some ⟨B, 0, none⟩)) h (dgs D)) := hF
  have HR : Hid (Reads w0 kv key) := hR
  have H0 : Hid (Below w0.heap.size w0 w) := h0
  obtain ⟨ak, ck, rfl, _⟩ := hR.form
  have hfc := hF.facts
  rw [dgs_len] at hfc
  obtain ⟨hh1, hh8, hd8, hd9⟩ := hfc
  clear hF hR h0
  go_enter Try.func29, Try.ntmps29
  go_wp2_with fail
  go_loopw [4] (fun i wr => ∃ k : Nat, k ≤ h ∧ i = .int .i64 (k : Int) ∧ Hid (RF wr base (.pointer (some ⟨B, 0, none⟩)) h (dgs (adF D (plc key (8 * D.length) k)))) ∧ Hid (Below base w wr)) (fun i _ => h - (intOf i).toNat)
  case atStart => exact ⟨0, by omega, rfl, HF, Below.refl _ _⟩
  case round =>
    obtain ⟨k, hk, rfl, HX, HB⟩ := hrel
    obtain ⟨E, HE⟩ := hid_ex (adF D (plc key (8 * D.length) k))
    rw [← HE.out] at HX
    have HEL : Hid (E.length = D.length) := by rw [HE.out]; exact adF_len _ _
    obtain ⟨B', g, cap, hBe, hBB, hc, hO, hBg, _, _, _, _⟩ := id HX.out
    cases hBe
    have c1 := cell_of hc 1 (by simp)
    have c0 := cell_of hc 0 (by simp)
    simp at c0 c1
    by_cases hlt : k < h
    · have HRk : Hid (Reads wr (.slice ak key.length ck) key) := HR.out.below (H0.out.trans (HB.out.mono hb0))
      have HO : Hid (wr.ownsRow base 4 1 (.slice (some ⟨g, 0, none⟩) (dgs E).length cap) (dgs E).length ((dgs E).map bcb)) := hO
      have HC : Hid (wr.heap[B]? = some (.cells #[.slice (some ⟨g, 0, none⟩) (dgs E).length cap, .int .i64 (h : Int)] 113)) := hc
      have HCE : Hid ((dgs E).length = 8 * D.length) := by unfold Hid; rw [dgs_len, HEL.out]
      have HSZ : Hid (base ≤ wr.heap.size) := Nat.le_trans hbase HB.out.size
      have HGB : Hid (g < wr.heap.size ∧ base ≤ g) := by have := World.ownsRow.lt hO g rfl; exact ⟨this.2, this.1⟩
      have HBL : Hid (B < wr.heap.size) := (Array.getElem?_eq_some_iff.1 hc).1
      have HBG : Hid (B ≠ g) := hBg
      have HPL : Hid (pla key k % (8 * D.length) < 8 * D.length) := Nat.mod_lt _ (by omega)
      clear hO hc hBg
      go_wp2_with fail
      refine wp_region_noPanic ?_
      refine wp_region_held_drew (S := (fun w' => Below base w w' ∧ w'.heap[B]? = some (.cells #[.slice (some ⟨g, 0, none⟩) (dgs E).length cap, .int .i64 (h : Int)] 113))) (by kernel_rfl) ?_ (fun hHeld => ?_)
      · exact ⟨HB.out.drew, HC.out⟩
      refine wpAnyH_take (i := 0) (v := .pointer (some ⟨B, 0, none⟩)) rfl (by kernel_rfl) (by kernel_rfl) (by kernel_rfl) (fun _ _ _ h => h) (Or.inl ⟨by rfl, ?_⟩) (by assumption) ?_
      · (intro w1 hSw; (try dsimp only at hSw); go_simp)
      simp only [List.getElem_toArray, List.getElem_cons_zero, Act.put, List.setIfInBounds_toArray, List.set_cons_zero, List.set_cons_succ]
      refine wpAnyH_take (i := 1) (v := .pointer (some ⟨B, 0, none⟩)) rfl (by kernel_rfl) (by kernel_rfl) (by kernel_rfl) (fun _ _ _ h => h) (Or.inl ⟨by rfl, ?_⟩) (by assumption) ?_
      · (intro w1 hSw; (try dsimp only at hSw); go_simp)
      simp only [List.getElem_toArray, List.getElem_cons_succ, List.getElem_cons_zero, Act.put, List.setIfInBounds_toArray, List.set_cons_zero, List.set_cons_succ]
      refine wpAnyH_take (i := 2) (v := .pointer (some ⟨B, 0, none⟩)) rfl (by kernel_rfl) (by kernel_rfl) (by kernel_rfl) (fun _ _ _ h => h) (Or.inl ⟨by rfl, ?_⟩) (by assumption) ?_
      · (intro w1 hSw; (try dsimp only at hSw); go_simp)
      simp only [List.getElem_toArray, List.getElem_cons_succ, List.getElem_cons_zero, Act.put, List.setIfInBounds_toArray, List.set_cons_zero, List.set_cons_succ]
      refine wpAnyH_take (i := 3) (v := .slice (some ⟨g, 0, none⟩) (dgs E).length cap) rfl (by kernel_rfl) (by kernel_rfl) (by kernel_rfl) (fun _ _ _ h => h) (Or.inl ⟨by rfl, ?_⟩) (by assumption) ?_
      · (intro w1 hSw; (try dsimp only at hSw); (have hcc := cell_of hSw.2 0 (by simp); simp at hcc); go_simp)
      simp only [List.getElem_toArray, List.getElem_cons_succ, List.getElem_cons_zero, Act.put, List.setIfInBounds_toArray, List.set_cons_zero, List.set_cons_succ]
      refine wpAnyH_take (i := 4) (v := .pointer (some ⟨B, 0, none⟩)) rfl (by kernel_rfl) (by kernel_rfl) (by kernel_rfl) (fun _ _ _ h => h) (Or.inl ⟨by rfl, ?_⟩) (by assumption) ?_
      · (intro w1 hSw; (try dsimp only at hSw); go_simp)
      simp only [List.getElem_toArray, List.getElem_cons_succ, List.getElem_cons_zero, Act.put, List.setIfInBounds_toArray, List.set_cons_zero, List.set_cons_succ]
      refine wpAnyH_take (i := 5) (v := .slice ak key.length ck) rfl (by kernel_rfl) (by kernel_rfl) (by kernel_rfl) (fun _ _ _ h => h) (Or.inl ⟨by rfl, ?_⟩) (by assumption) ?_
      · (intro w1 hSw; (try dsimp only at hSw); go_simp)
      simp only [List.getElem_toArray, List.getElem_cons_succ, List.getElem_cons_zero, Act.put, List.setIfInBounds_toArray, List.set_cons_zero, List.set_cons_succ]
      refine wpAnyH_take (i := 6) (v := .int .i64 (k : Int)) rfl (by kernel_rfl) (by kernel_rfl) (by kernel_rfl) (fun _ _ _ h => h) (Or.inl ⟨by rfl, ?_⟩) (by assumption) ?_
      · (intro w1 hSw; (try dsimp only at hSw); go_simp)
      simp only [List.getElem_toArray, List.getElem_cons_succ, List.getElem_cons_zero, Act.put, List.setIfInBounds_toArray, List.set_cons_zero, List.set_cons_succ]
      refine wpAnyH_ready (rs := [7]) (by kernel_rfl) (by simp) ?_
      refine AllReadyH.cons (o := _) rfl (fun K hK => ?_) AllReadyH.nil
      go_simp
      refine (place_any _ _ h (dgs E) key hkl k (by omega) wr.drew base (HX.out.below (Below.refl wr.heap.size wr).drew) (HRk.out.below (Below.refl wr.heap.size wr).drew)).mono ?_
      rintro e w3 ⟨rfl, hb3⟩
      have HB3 : Hid (Below wr.heap.size wr w3) := (Below.refl wr.heap.size wr).drew.trans hb3
      clear hb3
      obtain ⟨p, Hp⟩ := hid_ex (pla key k % (dgs E).length)
      rw [← Hp.out]
      have hp : p < 8 * D.length := by rw [Hp.out, HCE.out]; exact HPL.out
      have hpE : p < (dgs E).length := by rw [HCE.out]; exact hp
      have HC3 : Hid (w3.heap[B]? = some (.cells #[.slice (some ⟨g, 0, none⟩) (dgs E).length cap, .int .i64 (h : Int)] 113)) := (HB3.out.block B HBL.out).trans HC.out
      have HO3 : Hid (w3.ownsRow base 4 1 (.slice (some ⟨g, 0, none⟩) (dgs E).length cap) (dgs E).length ((dgs E).map bcb)) := by
        obtain ⟨q1, q2⟩ := HO.out
        refine ⟨q1, ?_⟩
        rcases q2 with q2 | ⟨g2, cap2, cur, hv, hg, hw, r⟩
        · exact .inl q2
        · exact .inr ⟨g2, cap2, cur, hv, hg, (HB3.out.block g2 (Array.getElem?_eq_some_iff.1 hw).1).trans hw, r⟩
      have HB4 : Hid (Below base w w3) := HB.out.trans (HB3.out.mono HSZ.out)
      refine hK.out _ _ ?_ (fun hHeld => ?_)
      · exact ⟨HB4.out, HC3.out⟩
      clear hK K
      refine wpAnyH_take (i := 8) (v := .pointer (some ⟨g, p, none⟩)) rfl (by kernel_rfl) (by kernel_rfl) (by kernel_rfl) (fun _ _ _ h => h) (Or.inl ⟨by rfl, ?_⟩) (by assumption) ?_
      · (intro w1 hSw; (try dsimp only at hSw); go_simp)
      simp only [List.getElem_toArray, List.getElem_cons_succ, List.getElem_cons_zero, Act.put, List.setIfInBounds_toArray, List.set_cons_zero, List.set_cons_succ]
      obtain ⟨hcp, hfp⟩ := row_bool_at HO3.out p hpE
      refine wpAnyH_ready (rs := [9]) (by kernel_rfl) (by simp) ?_
      refine AllReadyH.cons (o := _) rfl (fun K hK => ?_) AllReadyH.nil
      go_simp
      have hst := (HO3.out.stored p (.bool true)).1
      have hgr := grown_set w3 g p (.bool true)
      have hB4 : Below base w3 (w3.setCell ⟨g, p, none⟩ (.bool true)) := (Below.refl _ _).setCell HGB.out.2 _
      have HC5 : Hid ((w3.setCell ⟨g, p, none⟩ (.bool true)).heap[B]? = some (.cells #[.slice (some ⟨g, 0, none⟩) (dgs E).length cap, .int .i64 (h : Int)] 113)) := (hgr.block B (Array.getElem?_eq_some_iff.1 HC3.out).1 (by simpa using HBG.out)).trans HC3.out
      have HB5 : Hid (Below base w (w3.setCell ⟨g, p, none⟩ (.bool true))) := HB4.out.trans hB4
      refine hK.out _ _ ?_ (fun hHeld => ?_)
      · exact ⟨HB5.out, HC5.out⟩
      clear hK K
      clear hHeld
      refine wpAnyH_done (by kernel_rfl) ?_ _
      refine NoPanic.normal ?_
      have HX5 : Hid (RF (w3.setCell ⟨g, p, none⟩ (.bool true)) base (.pointer (some ⟨B, 0, none⟩)) h (dgs (adF D (plc key (8 * D.length) (k + 1))))) := by
        have e1 : adF D (plc key (8 * D.length) (k + 1)) = sb E p := by rw [plc_succ, adF_snoc, ← HE.out, Hp.out, HCE.out]
        rw [e1, ← dgs_sb E p (by rw [HEL.out]; exact hp)]
        refine ⟨B, g, cap, rfl, hBB, by rw [List.length_set]; exact HC5.out, ?_, HBG.out, hh1, hh8, by rw [List.length_set, HCE.out]; exact hd8, by rw [List.length_set, HCE.out]; exact hd9⟩
        rw [List.length_set, List.map_set]; exact hst
      clear hst hgr hB4 HC5
      go_wp2_with fail
      go_roundw
      case rel => exact ⟨k + 1, by omega, by go_num, HX5, HB5⟩
      case measure => simp [intOf]; omega
    · have hkh : k = h := by omega
      clear hO hc
      go_wp2_with fail
      refine bodyPost_end (results_none rfl _ _ _) rfl ?_
      refine ⟨⟨_, rfl⟩, ?_, HB.out⟩
      have e9 : plc key (8 * D.length) h = plc key (8 * D.length) k := by rw [hkh]
      rw [e9, ← HE.out]; exact HX.out
end Go.Proofs.Ytlpjdfgknmfmnaa
