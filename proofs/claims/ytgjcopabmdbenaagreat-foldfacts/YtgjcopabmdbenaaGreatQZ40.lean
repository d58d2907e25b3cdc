/- FL16, joined. -/
import Derived.Test.YtgjcopabmdbenaaGreatQZ39
/- The contract of law15's Rules and alive. -/
namespace Go.Proofs.YtgjcopabmdbenaaGreat
open Go.RowKit Go.Shelf

def sz15 : Nat → Int | 0 => 1 | _ => 10
def ag15 : Nat → Int | 0 => 0 | _ => 20
def rl15 (b : Nat) : Rl := ⟨some ⟨b, 0, none⟩, 2, 2, sz15, ag15, 100⟩
theorem right15 (b : Nat) : RightP (rl15 b) := by
  refine ⟨by show (1 : Nat) ≤ 2; omega, by show (2 : Nat) ≤ 4; omega, rfl, fun i hi => ?_, by show (20 : Int) ≤ 100; decide, by show (100 : Int) ≤ 2199023255552; decide⟩
  have hi2 : i < 2 := hi
  match i, hi2 with
  | 0, _ => exact ⟨by show isS 1 = true; decide, by show isT 0 = true; decide, fun h => by omega⟩
  | 1, _ => exact ⟨by show isS 10 = true; decide, by show isT 20 = true; decide, fun _ => by show folB 1 0 10 20 = true; decide⟩
set_option maxRecDepth 100000 in
theorem rules_any (w : World) : Calls Tryz.prog 9 #[] w fun e w' => ∃ b, e = .returned (.agg #[.slice (some ⟨b, 0, none⟩) 2 2, .int .i64 100]) ∧ Lies (rl15 b) w'.heap.size w' ∧ Below w.heap.size w w' := by
  go_enter Tryz.func9, Tryz.ntmps9
  go_wp2_with fail
  refine bodyPost_ret (v := .agg #[.slice (some ⟨w.heap.size + 1, 0, none⟩) 2 2, .int .i64 100]) (by simp [results, Tryz.results9, go_sem]) rfl ⟨w.heap.size + 1, rfl, ?_, ((Below.refl _ _).alloc (Nat.le_refl _) _).alloc (by simp) _⟩
  refine ⟨by show 2 ≤ maxLen; decide, Nat.le_refl _, .inr ⟨w.heap.size + 1, 0, rfl, by simp, fun i hi => ?_⟩⟩
  have hi' : i < 2 := hi
  match i, hi' with
  | 0, _ => simp [go_sem, rl15, sz15, ag15]
  | 1, _ => simp [go_sem, rl15, sz15, ag15]
/-- The three facts. -/
def fa3 : List Fa := [⟨.slice none 0 0, [], 12, 3⟩, ⟨.slice none 0 0, [], 45, 1⟩, ⟨.slice none 0 0, [], 15, 4⟩]
theorem stp_12 (b : Nat) : stp (rl15 b) 12 50 = 1 := stp_eq (right15 b) ⟨by show (1 : Nat) < 2; omega, .inr (by show endF 12 10 ≤ 50 - 20; decide), fun j h1 h2 => by have : j < 2 := h2; omega⟩
theorem stp_15 (b : Nat) : stp (rl15 b) 15 50 = 1 := stp_eq (right15 b) ⟨by show (1 : Nat) < 2; omega, .inr (by show endF 15 10 ≤ 50 - 20; decide), fun j h1 h2 => by have : j < 2 := h2; omega⟩
theorem stp_45 (b : Nat) : stp (rl15 b) 45 50 = 0 := stp_eq (right15 b) ⟨by show (0 : Nat) < 2; omega, .inl rfl, fun j h1 h2 => by
  have h3 : j < 2 := h2
  have : j = 1 := by omega
  subst this
  show ¬ endF 45 10 ≤ 50 - 20
  decide⟩
theorem fk_15 (b : Nat) {f : Int} {s : Nat} {r : Int} (hr : rightBK [] f 0 = true) (hs : stp (rl15 b) f 50 = s) (hf : f - f % (rl15 b).sz s = r) (hg : goneB (rl15 b) 50 f = false) : fk (rl15 b) 50 (kb [] f 0) = some (kb [] r (s : Int)) := by
  have h1 := rdF_kb [] f 0 hr
  rw [fk_of h1, hg]
  have e1 : stq (rl15 b) 50 f (0 : Int).toNat = s := by unfold stq; rw [hs]; show max s 0 = s; omega
  have e2 : flq (rl15 b) 50 f (0 : Int).toNat = r := by unfold flq; rw [e1]; exact hf
  rw [e1, e2]
  rfl
theorem fold_3 (b : Nat) : foldF (rl15 b) 50 (fa3.map (fcE (rl15 b))) = [(kb [] 10 1, mrg (oneF 3) (oneF 4)), (kb [] 45 0, oneF 1)] := by
  have e : fa3.map (fcE (rl15 b)) = [(kb [] 12 0, oneF 3), (kb [] 45 0, oneF 1), (kb [] 15 0, oneF 4)] := by simp [fa3, fcE, rl15, sz15]
  have k1 : fk (rl15 b) 50 (kb [] 12 0) = some (kb [] 10 1) := fk_15 b (by decide) (stp_12 b) (by show (12 : Int) - 12 % 10 = 10; decide) (by show decide (endF 12 10 ≤ 50 - 100) = false; decide)
  have k2 : fk (rl15 b) 50 (kb [] 45 0) = some (kb [] 45 0) := fk_15 b (by decide) (stp_45 b) (by show (45 : Int) - 45 % 1 = 45; decide) (by show decide (endF 45 10 ≤ 50 - 100) = false; decide)
  have k3 : fk (rl15 b) 50 (kb [] 15 0) = some (kb [] 10 1) := fk_15 b (by decide) (stp_15 b) (by show (15 : Int) - 15 % 10 = 10; decide) (by show decide (endF 15 10 ≤ 50 - 100) = false; decide)
  have hlt : ltK (kb [] 10 1) (kb [] 45 0) := by decide
  unfold foldF
  rw [e, fm_cons, fm_cons, fm_cons]
  dsimp only
  rw [k1, k2, k3]
  show ins (kb [] 10 1, oneF 3) (ins (kb [] 45 0, oneF 1) [(kb [] 10 1, oneF 4)]) = _
  rw [ins_gt (x := (kb [] 45 0, oneF 1)) (y := (kb [] 10 1, oneF 4)) hlt]
  exact ins_eq rfl
theorem fa3_reads {w : World} {t : TypeId} : FReads (w.alloc (.cells #[.slice none 0 0, .int .i64 12, .int .i64 3, .slice none 0 0, .int .i64 45, .int .i64 1, .slice none 0 0, .int .i64 15, .int .i64 4] t)) (.slice (some ⟨w.heap.size, 0, none⟩) 3 3) fa3 := by
  refine ⟨_, 3, rfl, by decide, by decide, .inr ⟨w.heap.size, 0, rfl, by simp, fun j hj => ?_⟩⟩
  have hj2 : j < 3 := hj
  have hn : SReads (w.alloc (.cells #[.slice none 0 0, .int .i64 12, .int .i64 3, .slice none 0 0, .int .i64 45, .int .i64 1, .slice none 0 0, .int .i64 15, .int .i64 4] t)) (.slice none 0 0) [] := .inl ⟨rfl, none, 0, rfl, fun _ => rfl⟩
  match j, hj2 with
  | 0, _ =>
    refine ⟨fun i hi => ?_, hn, (show FaB ⟨.slice none 0 0, [], 12, 3⟩ from ⟨by decide, by decide, by decide, by decide⟩)⟩
    rw [Go.Joins.cell_of_block (heap_alloc_new _ _)]
    match i, hi with
    | 0, _ => rfl
    | 1, _ => rfl
    | 2, _ => rfl
  | 1, _ =>
    refine ⟨fun i hi => ?_, hn, (show FaB ⟨.slice none 0 0, [], 45, 1⟩ from ⟨by decide, by decide, by decide, by decide⟩)⟩
    rw [Go.Joins.cell_of_block (heap_alloc_new _ _)]
    match i, hi with
    | 0, _ => rfl
    | 1, _ => rfl
    | 2, _ => rfl
  | 2, _ =>
    refine ⟨fun i hi => ?_, hn, (show FaB ⟨.slice none 0 0, [], 15, 4⟩ from ⟨by decide, by decide, by decide, by decide⟩)⟩
    rw [Go.Joins.cell_of_block (heap_alloc_new _ _)]
    match i, hi with
    | 0, _ => rfl
    | 1, _ => rfl
    | 2, _ => rfl
theorem chkN : chkF rlN 0 [] = 30 := by
  have h : fE rlN 0 0 ≠ 0 := by rw [fEN]; decide
  rw [chkF_e h, fEN]
theorem eReads_none (w : World) : EReads w (.slice none 0 0) [] := ⟨none, 0, rfl, by simp, by simp, .inl rfl⟩
set_option maxRecDepth 100000 in
set_option maxHeartbeats 2000000 in
theorem alive15_any (w : World) : Calls Tryz.prog 5 #[] w fun e w' => e = .returned (.bool true) ∧ Below w.heap.size w w' := by
  go_enter Tryz.func5, Tryz.ntmps5
  go_wp2_with fail
  refine (rules_any _).mono ?_
  rintro e w1 ⟨b, rfl, hL1, hb1⟩
  have HB1 : Hid (Below w.heap.size w w1) := hb1
  obtain ⟨w2, HW2⟩ := hid_ex (w1.alloc (.cells #[.slice none 0 0, .int .i64 12, .int .i64 3, .slice none 0 0, .int .i64 45, .int .i64 1, .slice none 0 0, .int .i64 15, .int .i64 4] 36))
  have hb2 : Below w1.heap.size w1 w2 := by rw [HW2.out]; exact new_below _ _
  have HF2 : Hid (FReads w2 (.slice (some ⟨w1.heap.size, 0, none⟩) 3 3) fa3) := by rw [HW2.out]; exact fa3_reads
  have HL2 : Hid (Lies (rl15 b) w2.heap.size w2) := hL1.at hb2
  have HB2 : Hid (Below w.heap.size w w2) := HB1.out.trans (hb2.mono HB1.out.size)
  clear hL1 hb1 hb2
  go_wp2_with fail
  rw [← HW2.out]
  refine (facts_any (rl15 b) 50 _ fa3 _ HL2.out HF2.out (by decide) (sorts_small 3 (by omega))).mono ?_
  rintro e w3 ⟨hb3, ⟨h, _⟩ | ⟨_, h, _⟩ | ⟨_, _, v, rfl, hE⟩⟩
  · exact absurd (fE_of (right15 b) (by decide) (by decide)) h
  · exact absurd h (by decide)
  rw [fold_3] at hE
  have HB3 : Hid (Below w.heap.size w w3) := HB2.out.trans (hb3.mono HB2.out.size)
  obtain ⟨eb, eo, ec, rfl, hebl⟩ := eReads_some hE (by decide)
  obtain ⟨kv0, hc0, _⟩ := eReads_at hE (k := 0) (by decide) rfl
  obtain ⟨kv1, hc1, _⟩ := eReads_at hE (k := 1) (by decide) rfl
  have p0 : w3.cell? ⟨eb, eo + 1, none⟩ = some (.int .u64 2) := hc0 1 (by decide)
  have p1 : w3.cell? ⟨eb, eo + 1 + 5, none⟩ = some (.int .i64 4) := hc0 6 (by decide)
  have p2 : w3.cell? ⟨eb, eo + 7 + 1, none⟩ = some (.int .u64 1) := hc1 1 (by decide)
  clear hb3 hE hc0 hc1 HW2
  go_wp2_with fail
  refine (fold_any rlN 0 _ [] _ (rlN_lies _) (eReads_none _) (by simp) (fun x hx => by cases hx)).mono ?_
  rintro e w4 ⟨hb4, ⟨_, he⟩ | ⟨h, _⟩⟩
  · rw [chkN] at he
    subst he
    have HB4 : Hid (Below w.heap.size w w4) := HB3.out.trans (hb4.mono HB3.out.size)
    have q0 := (hb4.cell (p := ⟨eb, _, none⟩) hebl).trans p0
    have q1 := (hb4.cell (p := ⟨eb, _, none⟩) hebl).trans p1
    have q2 := (hb4.cell (p := ⟨eb, _, none⟩) hebl).trans p2
    clear hb4 p0 p1 p2
    go_wp2_with fail
    refine (fits_any rlN _ [] _ (rlN_lies _) (eReads_none _) (by simp) (fun x hx => by cases hx)).mono ?_
    rintro e w5 ⟨he5, hb5⟩
    have HB5 : Hid (Below w.heap.size w w5) := HB4.out.trans (hb5.mono HB4.out.size)
    rw [fitsA_of (b := true) ⟨fun _ => .inl rfl, fun _ => rfl⟩] at he5
    subst he5
    clear hb5
    go_wp2_with fail
    go_ret
    exact ⟨rfl, HB5.out⟩
  · rw [chkN] at h
    exact absurd h (by decide)
end Go.Proofs.YtgjcopabmdbenaaGreat
