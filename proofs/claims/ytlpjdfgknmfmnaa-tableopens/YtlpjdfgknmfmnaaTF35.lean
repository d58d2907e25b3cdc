/- B10 RB1 V7 RB2, joined. -/
import Derived.Test.YtlpjdfgknmfmnaaTF9
import Derived.Test.YtlpjdfgknmfmnaaTF11
import Derived.Test.YtlpjdfgknmfmnaaTF13
import Derived.Deep.QuietTactic
import Derived.BigQuiet
/- Many keys, and two filters side by side. -/
namespace Go.Proofs.Ytlpjdfgknmfmnaa
open Go.RowKit

/-- Keys are added, one behind the other. -/
def adK (h : Nat) (D : List UInt8) (L : List (List UInt8)) : List UInt8 := L.foldl (fun E k => adF E (plc k (8 * D.length) h)) D
theorem gb_fold (n h : Nat) (L : List (List UInt8)) : ∀ (D : List UInt8) (q : Nat), n = 8 * D.length → 0 < D.length → gb (L.foldl (fun E k => adF E (plc k n h)) D) q = (gb D q || L.any fun k => decide (q ∈ plc k n h)) := by
  induction L with
  | nil => intro D q _ _; simp
  | cons l L ih =>
    intro D q hn hd
    rw [List.foldl_cons, ih _ _ (by rw [adF_len]; exact hn) (by rw [adF_len]; exact hd), gb_adF _ _ _ (by rw [hn]; exact plc_in hd), List.any_cons, Bool.or_assoc]
theorem gb_adK (h : Nat) (D : List UInt8) (L : List (List UInt8)) (q : Nat) (hd : 0 < D.length) : gb (adK h D L) q = (gb D q || L.any fun k => decide (q ∈ plc k (8 * D.length) h)) := gb_fold _ _ _ _ _ rfl hd
theorem my_adK {h : Nat} {D : List UInt8} {L : List (List UInt8)} {l : List UInt8} (hd : 0 < D.length) (hl : l ∈ L) : myF (adK h D L) (plc l (8 * D.length) h) = true := by
  unfold myF
  rw [List.all_eq_true]
  intro q hq
  rw [gb_adK h D L q hd, List.any_eq_true.2 ⟨l, hl, by simpa using hq⟩, Bool.or_true]
/-- A filter in memory, made since lo, and ahead of hi. -/
def FilIn (w : World) (lo hi : Nat) (v : Value) (h : Nat) (D : List UInt8) : Prop :=
  ∃ B g cap, v = .pointer (some ⟨B, 0, none⟩) ∧ lo ≤ B ∧ w.heap[B]? = some (.cells #[.int .i64 (h : Int), .slice (some ⟨g, 0, none⟩) D.length cap] 125) ∧ Own w lo (.slice (some ⟨g, 0, none⟩) D.length cap) D ∧ B ≠ g ∧ (1 ≤ h ∧ h ≤ 8 ∧ 0 < D.length ∧ D.length ≤ 8192) ∧ B < hi ∧ g < hi
theorem Fil.in {w : World} {lo : Nat} {v : Value} {h : Nat} {D : List UInt8} (hf : Fil w lo v h D) : FilIn w lo w.heap.size v h D := by
  obtain ⟨B, g, cap, h1, h2, h3, h4, h5, h6, h7, h8, h9⟩ := hf
  exact ⟨B, g, cap, h1, h2, h3, h4, h5, ⟨h6, h7, h8, h9⟩, (Array.getElem?_eq_some_iff.1 h3).1, (World.ownsRow.lt h4 g rfl).2⟩
theorem FilIn.below {w w' : World} {lo hi : Nat} {v : Value} {h : Nat} {D : List UInt8} (hf : FilIn w lo hi v h D) (hb : Below hi w w') : FilIn w' lo hi v h D := by
  obtain ⟨B, g, cap, h1, h2, h3, h4, h5, h6, h7, h8⟩ := hf
  refine ⟨B, g, cap, h1, h2, (hb.block B h7).trans h3, ?_, h5, h6, h7, h8⟩
  obtain ⟨q1, q2⟩ := h4
  refine ⟨q1, ?_⟩
  rcases q2 with q2 | ⟨g', cap', cur, hv, hg, hw, r⟩
  · exact .inl q2
  · have : g = g' := by simp at hv; exact hv.1
    subst this
    exact .inr ⟨g, cap', cur, hv, hg, (hb.block g h8).trans hw, r⟩
theorem Fil.kx {A W : World} {base g : Nat} {v : Value} {h : Nat} {D : List UInt8} (hf : Fil A base v h D) (hk : Kx g A W) (hg : g < base) : Fil W base v h D := by
  obtain ⟨B, g', cap, h1, h2, h3, h4, h5⟩ := hf
  refine ⟨B, g', cap, h1, h2, hk _ _ _ _ (by omega) h3, ?_, h5⟩
  obtain ⟨q1, q2⟩ := h4
  refine ⟨q1, ?_⟩
  rcases q2 with q2 | ⟨g2, cap', cur, hv, hg2, hw, r⟩
  · exact .inl q2
  · exact .inr ⟨g2, cap', cur, hv, hg2, hk _ _ _ _ (by omega) hw, r⟩
end Go.Proofs.Ytlpjdfgknmfmnaa

/- A filter's digits, one by one. -/
namespace Go.Proofs.Ytlpjdfgknmfmnaa
open Go.RowKit

/-- A filter's digits. -/
def dgs (D : List UInt8) : List Bool := (List.range (8 * D.length)).map (gb D)
theorem dgs_len (D : List UInt8) : (dgs D).length = 8 * D.length := by simp [dgs]
theorem dgs_at (D : List UInt8) (q : Nat) (h : q < (dgs D).length) : (dgs D)[q] = gb D q := by simp [dgs]
theorem dgs_sb (D : List UInt8) (p : Nat) (hp : p < 8 * D.length) : (dgs D).set p true = dgs (sb D p) := by
  apply List.ext_getElem
  · simp [dgs_len, sb_len]
  · intro q h1 h2
    rw [List.getElem_set, dgs_at _ _ h2, gb_sb _ _ _ (by omega)]
    by_cases e : p = q
    · subst e; simp
    · simp [e, dgs_at]
theorem dgs_zero (d : Nat) : dgs (List.replicate d 0) = List.replicate (8 * d) false := by
  apply List.ext_getElem
  · simp [dgs_len]
  · intro q h1 h2
    rw [dgs_at, gb_zero]; simp
def bcb (b : Bool) : Value := .bool b
/-- The reference's filter in memory, made since base: lo ≤ its blocks. -/
def RF (w : World) (base : Nat) (v : Value) (h : Nat) (bs : List Bool) : Prop :=
  ∃ B g cap, v = .pointer (some ⟨B, 0, none⟩) ∧ base ≤ B ∧ w.heap[B]? = some (.cells #[.slice (some ⟨g, 0, none⟩) bs.length cap, .int .i64 (h : Int)] 113) ∧ w.ownsRow base 4 1 (.slice (some ⟨g, 0, none⟩) bs.length cap) bs.length (bs.map bcb) ∧ B ≠ g ∧ 1 ≤ h ∧ h ≤ 8 ∧ 8 ≤ bs.length ∧ bs.length ≤ 65536
theorem RF.kcB {n : Nat} {A B : World} {base : Nat} {v : Value} {h : Nat} {D : List Bool} (hf : RF A base v h D) (hk : Kc n A B) : RF B base v h D := by
  obtain ⟨b, g, cap, h1, h2, h3, h4, h5⟩ := hf
  refine ⟨b, g, cap, h1, h2, hk.c _ _ _ _ h3, ?_, h5⟩
  obtain ⟨q1, q2⟩ := h4
  refine ⟨q1, ?_⟩
  rcases q2 with q2 | ⟨g, cap, cur, hv, hg, hw, r⟩
  · exact .inl q2
  · exact .inr ⟨g, cap, cur, hv, hg, hk.c _ _ _ _ hw, r⟩
theorem RF.below {A B : World} {base : Nat} {v : Value} {h : Nat} {D : List Bool} (hf : RF A base v h D) (hb : Below A.heap.size A B) : RF B base v h D :=
  hf.kcB (Kc.of_below hb (Nat.le_refl _))
theorem RF.ptr {w : World} {base : Nat} {v : Value} {h : Nat} {D : List Bool} (hf : RF w base v h D) : ∃ B, v = .pointer (some ⟨B, 0, none⟩) := by obtain ⟨B, _, _, rfl, _⟩ := hf; exact ⟨B, rfl⟩
theorem RF.facts {w : World} {base : Nat} {v : Value} {h : Nat} {D : List Bool} (hf : RF w base v h D) : 1 ≤ h ∧ h ≤ 8 ∧ 8 ≤ D.length ∧ D.length ≤ 65536 := by obtain ⟨B, _, _, _, _, _, _, _, h1, h2, h3, h4⟩ := hf; exact ⟨h1, h2, h3, h4⟩
theorem row_bool_at {w : World} {base g cap : Nat} {bs : List Bool} (h : w.ownsRow base 4 1 (.slice (some ⟨g, 0, none⟩) bs.length cap) bs.length (bs.map bcb)) (j : Nat) (hj : j < bs.length) : w.cell? ⟨g, j, none⟩ = some (.bool bs[j]) ∧ w.frozen? ⟨g, j, none⟩ = false := by
  refine ⟨?_, World.ownsRow.frozenAt h j⟩
  rw [World.ownsRow.cellAt h j (by simpa using hj)]
  simp [hj, bcb]
/-- The reference's place, and the code's. -/
theorem ref_step (key : List UInt8) : (if mor 0 (key ++ [1]) % 2 = 0 then mor 0 (key ++ [1]) + 1 else mor 0 (key ++ [1])) = ste key := by
  unfold ste
  rw [← mor_append]
  generalize mor 0 (key ++ [1]) = m
  split
  · rename_i h
    obtain ⟨k, rfl⟩ : ∃ k, m = 2 * k := ⟨m / 2, by omega⟩
    have := Nat.two_pow_add_eq_or_of_lt (i := 1) (b := 1) (by decide) k
    simpa using this
  · rename_i h
    obtain ⟨k, rfl⟩ : ∃ k, m = 2 * k + 1 := ⟨m / 2, by omega⟩
    have := Nat.two_pow_add_eq_or_of_lt (i := 1) (b := 1) (by decide) k
    simp at this
    rw [this, Nat.or_assoc, Nat.or_self]
end Go.Proofs.Ytlpjdfgknmfmnaa

/- The contracts of the reference's step, More and Sum. -/
namespace Go.Proofs.Ytlpjdfgknmfmnaa
open Go.RowKit

theorem ret_int {k : IntKind} {a b : Int} (h : a = b) : Ending.returned (.int k a) = .returned (.int k b) := by rw [h]

set_option maxRecDepth 100000 in
set_option maxHeartbeats 1000000 in
theorem step_any (c : Nat) (hc : c < 4294967296) (x : UInt8) (w : World) :
    Calls Try.prog 99 #[.int .u32 (c : Int), .int .u8 (x.toNat : Int)] w fun e w' => e = .returned (.int .u32 (byt c x : Nat)) ∧ w' = w := by
  have hxb : x.toNat < 256 := x.toNat_lt
  have hx := x_xor (c := c) (d := x.toNat) hc (by omega)
  go_enter Try.func99, Try.ntmps99
  go_wp2_with fail
  go_loop [0, 5] (fun r i => ∃ m d : Nat, m ≤ 8 ∧ i = .int .i64 m ∧ d < 4294967296 ∧ r = .int .u32 (d : Int) ∧ Hid (d = stps m (c ^^^ x.toNat))) (fun _ i => 8 - (intOf i).toNat)
  case atStart => exact ⟨0, _, by omega, rfl, xor_lt32 hc (by omega), rfl, rfl⟩
  case round =>
    obtain ⟨m, d, hm, rfl, hd, rfl, HD⟩ := hrel
    by_cases hm8 : m < 8
    · have y1 := x_turn hd
      rcases Nat.mod_two_eq_zero_or_one d with h2 | h2
      · have hs2 : stp d = d / 2 := by unfold stp; rw [if_neg (by omega)]
        have HS : Hid (d / 2 = stps (m + 1) (c ^^^ x.toNat)) := by unfold Hid; rw [stps_snoc, ← HD.out, hs2]
        have h3 : (d : Int) % 2 = 0 := by omega
        clear hs2 h2
        go_wp2_with fail
        go_round
        case rel => exact ⟨m + 1, d / 2, by omega, by go_num, by omega, by go_num, HS⟩
        case measure => simp [intOf]; omega
      · have hs2 : stp d = d / 2 ^^^ 2197175160 := by unfold stp; rw [if_pos h2]
        have HS : Hid (d / 2 ^^^ 2197175160 = stps (m + 1) (c ^^^ x.toNat)) := by unfold Hid; rw [stps_snoc, ← HD.out, hs2]
        have hlt2 := xor_lt32 (a := d / 2) (b := 2197175160) (by omega) (by omega)
        have h3 : (d : Int) % 2 = 1 := by omega
        clear hs2 h2
        go_wp2_with fail
        go_round
        case rel => exact ⟨m + 1, d / 2 ^^^ 2197175160, by omega, by go_num, hlt2, rfl, HS⟩
        case measure => simp [intOf]; omega
    · have HS : Hid (d = byt c x) := by
        unfold Hid
        have e8 : m = 8 := by omega
        rw [HD.out, e8]; rfl
      go_wp2_with fail
      go_ret
      exact ⟨by rw [HS.out]; rfl, rfl⟩
set_option maxRecDepth 100000 in
set_option maxHeartbeats 1000000 in
theorem refMore_some (s : Nat) (hs : s < 4294967296) (b off cap : Nat) (l : List UInt8) (hl : l.length ≤ maxLen) (w : World)
    (hc : ∀ j (h : j < l.length), w.cell? ⟨b, off + j, none⟩ = some (bc l[j])) :
    Calls Try.prog 88 #[.int .u32 (s : Int), .slice (some ⟨b, off, none⟩) l.length cap] w fun e w' => e = .returned (.int .u32 (mor s l : Nat)) ∧ w' = w := by
  unfold maxLen at hl
  have HC : Hid (∀ j (h : j < l.length), w.cell? ⟨b, off + j, none⟩ = some (bc l[j])) := hc
  clear hc
  go_enter Try.func88, Try.ntmps88
  go_wp2_with fail
  go_loop [5, 6] (fun r i => ∃ k c : Nat, k ≤ l.length ∧ i = .int .i64 k ∧ c < 4294967296 ∧ r = .int .u32 (c : Int) ∧ Hid (c = reg (4294967295 - s) (l.take k))) (fun _ i => l.length - (intOf i).toNat)
  case atStart => exact ⟨0, 4294967295 - s, Nat.zero_le _, rfl, by omega, by go_num, rfl⟩
  case round =>
    obtain ⟨k, c, hk, rfl, hcl, rfl, HE⟩ := hrel
    by_cases hlt : k < l.length
    · have hcell := HC.out k hlt
      unfold bc at hcell
      go_wp2_with fail
      refine (step_any c hcl l[k] _).mono ?_
      rintro e w1 ⟨rfl, hw⟩
      subst w1
      have HS : Hid (byt c l[k] = reg (4294967295 - s) (l.take (k + 1))) := by
        unfold Hid
        rw [List.take_succ_eq_append_getElem hlt, reg_snoc, ← HE.out]
      have hbl := byt_lt (c := c) (x := l[k]) hcl
      go_wp2_with fail
      go_round
      case rel => exact ⟨k + 1, _, by omega, by go_num, hbl, rfl, HS⟩
      case measure => simp [intOf]; omega
    · have hkl : k = l.length := by omega
      have HS : Hid (4294967295 - c = mor s l) := by
        unfold Hid mor
        rw [HE.out, hkl, List.take_length]
      clear hkl
      go_wp2_with fail
      go_ret
      exact ⟨by rw [← HS.out]; exact ret_int (by omega), rfl⟩
theorem refMore_none (s : Nat) (hs : s < 4294967296) (a : Option Addr) (cap : Nat) (w : World) :
    Calls Try.prog 88 #[.int .u32 (s : Int), .slice a 0 cap] w fun e w' => e = .returned (.int .u32 (mor s [] : Nat)) ∧ w' = w := by
  have HS : Hid (mor s [] = s) := mor_nil hs
  go_enter Try.func88, Try.ntmps88
  go_wp2_with fail
  go_loop [5, 6] (fun r i => i = .int .i64 0 ∧ r = .int .u32 (4294967295 - (s : Int))) (fun _ _ => 0)
  case atStart => exact ⟨rfl, rfl⟩
  case round =>
    obtain ⟨rfl, rfl⟩ := hrel
    go_wp2_with fail
    go_ret
    exact ⟨by rw [HS.out]; exact ret_int (by omega), rfl⟩
theorem refMore_any (s : Nat) (hs : s < 4294967296) (v : Value) (l : List UInt8) (w : World) (h : Reads w v l) :
    Calls Try.prog 88 #[.int .u32 (s : Int), v] w fun e w' => e = .returned (.int .u32 (mor s l : Nat)) ∧ w' = w := by
  rcases h with ⟨rfl, a, cap, rfl, _⟩ | ⟨b, off, cap, rfl, h2, h3, h4, h5, h6⟩
  · exact refMore_none s hs a cap w
  · exact refMore_some s hs b off cap l (by omega) w h6
theorem refSum_any (v : Value) (l : List UInt8) (w : World) (h : Reads w v l) :
    Calls Try.prog 64 #[v] w fun e w' => e = .returned (.int .u32 (mor 0 l : Nat)) ∧ w' = w := by
  obtain ⟨a, cap, rfl, _⟩ := h.form
  go_enter Try.func64, Try.ntmps64
  go_wp2_with fail
  refine (refMore_any 0 (by decide) _ l _ h).mono ?_
  rintro e w' ⟨rfl, hw⟩
  subst w'
  clear h
  go_wp2_with fail
  go_ret
  exact ⟨rfl, rfl⟩
end Go.Proofs.Ytlpjdfgknmfmnaa

/- The contract of the reference's Place. -/
namespace Go.Proofs.Ytlpjdfgknmfmnaa
open Go.RowKit

theorem ref_fin (q i st n : Nat) (hn : 0 < n) (hn2 : n ≤ 65536) : wrap64 (((q : Int) + (i : Int) * (st : Int)) % 4294967296 % (n : Int)) = (((q + i * st) % 4294967296 % n : Nat) : Int) := by
  have e : ((q : Int) + (i : Int) * (st : Int)) = ((q + i * st : Nat) : Int) := by rw [Int.natCast_add, Int.natCast_mul]
  rw [e]
  generalize q + i * st = m
  have e2 : ((m : Int) % 4294967296 % (n : Int)) = ((m % 4294967296 % n : Nat) : Int) := by rw [Int.natCast_emod, Int.natCast_emod]; rfl
  rw [e2]
  have := Nat.mod_lt (m % 4294967296) hn
  generalize m % 4294967296 % n = k at *
  unfold wrap64
  omega
set_option maxRecDepth 100000 in
set_option maxHeartbeats 1000000 in
theorem place_any (v kv : Value) (h : Nat) (bs : List Bool) (key : List UInt8) (hkl : key.length ≤ 100000) (i : Nat) (hi8 : i < 8) (w : World) (base : Nat) (hF : RF w base v h bs) (hR : Reads w kv key) :
    Calls Try.prog 66 #[v, kv, .int .i64 (i : Int)] w fun e W' => e = .returned (.int .i64 ((pla key i % bs.length : Nat) : Int)) ∧ Below w.heap.size w W' := by
  obtain ⟨B, g, cap, rfl, hB, hc, hO, hBg, hh1, hh8, hD0, hD1⟩ := id hF
  have c0 := cell_of hc 0 (by simp)
  simp at c0
  have hBlt := (Array.getElem?_eq_some_iff.1 hc).1
  have HC0 : Hid (w.cell? ⟨B, 0, none⟩ = some (.slice (some ⟨g, 0, none⟩) bs.length cap)) := c0
  have HR : Hid (Reads w kv key) := hR
  obtain ⟨ak, ck, rfl, _⟩ := hR.form
  clear hF hc hO c0
  go_enter Try.func66, Try.ntmps66
  go_wp2_with (at_builtin; refine wpList_app rfl _ _ rfl w.heap.size _ _ [] key key rfl rfl rfl (Own.nil _ _) hR (by simp; omega) (Nat.le_refl _) ?_)
  intro v2 w2 HO2 hb2
  have HB2 : Hid (Below w.heap.size w w2) := hb2.out
  have hsz2 := HB2.out.size
  clear hb2 hR
  go_wp2_with (at_builtin; refine wpList_app1 rfl _ _ rfl w.heap.size v2 key 1 (key ++ [1]) rfl rfl rfl rfl HO2 (by omega) hsz2 ?_)
  intro v3 w3 HO3 hb3
  have HB3 : Hid (Below w.heap.size w w3) := HB2.out.trans hb3.out
  have HR3 : Hid (Reads w3 v3 (key ++ [1])) := HO3.reads
  have HK3 : Hid (Reads w3 (.slice ak key.length ck) key) := HR.out.below HB3.out
  clear hb3 HO2 HO3 HB2 hsz2
  go_wp2_with fail
  refine (refSum_any _ key _ HK3.out).mono ?_
  rintro e w4 ⟨rfl, hw4⟩
  subst w4
  go_wp2_with fail
  refine (refSum_any _ _ _ HR3.out).mono ?_
  rintro e w4 ⟨rfl, hw4⟩
  subst w4
  obtain ⟨a3, c3, hv3, _⟩ := HR3.out.form
  subst hv3
  obtain ⟨m, Hm⟩ := hid_ex (mor 0 (key ++ [1]))
  rw [← Hm.out]
  have hm : m < 4294967296 := by rw [Hm.out]; exact mor_lt _ _
  obtain ⟨q, Hq⟩ := hid_ex (mor 0 key)
  rw [← Hq.out]
  have hq : q < 4294967296 := by rw [Hq.out]; exact mor_lt _ _
  have hcB := (HB3.out.cell (p := ⟨B, 0, none⟩) hBlt).trans HC0.out
  have hst := ste_lt key
  have hz : ¬ ((bs.length : Nat) : Int) = 0 := by omega
  have HRS : Hid ((if m % 2 = 0 then m + 1 else m) = ste key) := by rw [Hm.out]; exact ref_step key
  clear HR3 HK3
  rcases Nat.mod_two_eq_zero_or_one m with h2 | h2
  · have e1 : ste key = m + 1 := by rw [← HRS.out, if_pos h2]
    have j2 : (m : Int) % 2 = 0 := by omega
    have HE : Hid (pla key i = (q + i * (m + 1)) % 4294967296) := by unfold Hid pla; rw [e1, Hq.out]
    clear e1 HRS
    go_wp2_with fail
    go_ret
    refine ⟨?_, HB3.out⟩
    have := ref_fin q i (m + 1) bs.length (by omega) hD1
    rw [HE.out, ← this, Int.natCast_add]; rfl
  · have e1 : ste key = m := by rw [← HRS.out, if_neg (by omega)]
    have j2 : (m : Int) % 2 = 1 := by omega
    have HE : Hid (pla key i = (q + i * m) % 4294967296) := by unfold Hid pla; rw [e1, Hq.out]
    clear e1 HRS
    go_wp2_with fail
    go_ret
    refine ⟨?_, HB3.out⟩
    have := ref_fin q i m bs.length (by omega) hD1
    rw [HE.out, ← this]; rfl
end Go.Proofs.Ytlpjdfgknmfmnaa
