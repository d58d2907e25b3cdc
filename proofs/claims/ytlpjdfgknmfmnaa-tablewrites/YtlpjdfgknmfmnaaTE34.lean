/- TRf F5 R5 R6, joined. -/
import Derived.Test.YtlpjdfgknmfmnaaTE2
import Derived.Test.YtlpjdfgknmfmnaaTE13
import Derived.Test.YtlpjdfgknmfmnaaTE19
import Derived.Test.YtlpjdfgknmfmnaaTE32
import Derived.Deep.AppendSrc
import Derived.Laws.IdiomCopy
import Derived.BigRegion
/- An append upon bytes that lie ahead of their block's end, behind its head. -/
namespace Go.Proofs.Ytlpjdfgknmfmnaa
open Go.RowKit

theorem below_setCells {B : Nat} {a : World} (g : Nat) (hg : B ≤ g) : ∀ (vs : List Value) (o : Nat) (w : World), Below B a w → Below B a (w.setCells g o vs)
  | [], _, _, h => h
  | v :: r, o, w, h => by
    show Below B a ((w.setCell ⟨g, o, none⟩ v).setCells g (o + 1) r)
    exact below_setCells g hg r _ _ (h.setCell (p := ⟨g, o, none⟩) hg v)
set_option maxRecDepth 100000 in
theorem foot_app {W : World} {base g c1 : Nat} {P : List UInt8} (hP : P.length = 16) (ho : Own W base (.slice (some ⟨g, 0, none⟩) 16 c1) P) (hb : base ≤ W.heap.size) {vx : Value} {l : List UInt8} (hr : Reads W vx l) (hl : l.length = 8) (ty : TypeId) :
    ∃ v' w1, (Builtin.append_ #[25, 25] ty #[.slice (some ⟨g, 8, none⟩) 8 (c1 - 8), vx]).run Try.prog W = .ok v' w1 ∧ Reads w1 v' (P.drop 8 ++ l) ∧ Below base W w1 := by
  obtain ⟨i0, hi, hz0, hz1, hz2⟩ := info_parts info5
  have hPr := ho.reads
  rcases ho.2 with ⟨q, _⟩ | ⟨g', cap, cur, hv, hg, hw, hc, hm, hs, _⟩
  · cases q
  simp only [Value.slice.injEq, Option.some.injEq, Addr.mk.injEq, and_true] at hv
  obtain ⟨rfl, hv2, rfl⟩ := hv
  rw [hP] at hc
  have hglt : g < W.heap.size := (Array.getElem?_eq_some_iff.1 hw).1
  rcases hr with ⟨rfl, _⟩ | ⟨b, off, cx, rfl, _, h3, h4, h5, h6⟩
  · simp at hl
  have hS : Go.Src Try.prog i0.size 25 (.slice (some ⟨b, off, none⟩) l.length cx) l.length (l.map bc) W := Go.Src.ofSlice W Try.underlying25 ⟨b, off, none⟩ l.length cx (l.map bc) (by rw [List.length_map, hz1, Nat.mul_one]) (newsR h6) one_bc
  rw [hl] at hS
  rw [hl]
  have hPc : ∀ j (h : j < 16), W.cell? ⟨g, j, none⟩ = some (bc (P[j]'(by omega))) := by
    rcases hPr with ⟨q, _⟩ | ⟨b2, o2, c2, e, _, _, _, _, k6⟩
    · rw [q] at hP; simp at hP
    · simp only [Value.slice.injEq, Option.some.injEq, Addr.mk.injEq, and_true] at e
      obtain ⟨⟨rfl, rfl⟩, _⟩ := e
      intro j h
      have := k6 j (by omega)
      rwa [Nat.zero_add] at this
  have hQl : (P.drop 8 ++ l).length = 16 := by rw [List.length_append, List.length_drop, hP, hl]
  have hQ1 : ∀ j (h : j < (P.drop 8 ++ l).length) (h8 : j < 8), (P.drop 8 ++ l)[j] = P[8 + j]'(by omega) := fun j h h8 => by
    rw [List.getElem_append_left (by rw [List.length_drop]; omega), List.getElem_drop]
  have hQ2 : ∀ j (h : j < (P.drop 8 ++ l).length) (h8 : ¬ j < 8), (P.drop 8 ++ l)[j] = l[j - 8]'(by omega) := fun j h h8 => by
    rw [List.getElem_append_right (by rw [List.length_drop]; omega)]
    congr 1
    rw [List.length_drop, hP]
  by_cases hroom : 8 + 8 ≤ c1 - 8
  · have hth : ∀ j, j < (l.map bc).length → (W.cell? ⟨g, 8 + 8 * i0.size + j, none⟩).isSome = true := fun j hj => by
      rw [List.length_map] at hj
      have hlt : 8 + 8 * 1 + j < cur.size := by rw [hs]; omega
      rw [hz1]
      simp [World.cell?, hw, hlt]
    have hfr : ∀ j, j < (l.map bc).length → W.frozen? ⟨g, 8 + 8 * i0.size + j, none⟩ = false := fun j _ => by simp [World.frozen?, hw]
    refine ⟨_, _, run_append_room_src W 25 25 ty 5 i0 Try.underlying25 hi g 8 8 (c1 - 8) _ 8 _ hS hroom hth hfr, ?_, below_setCells g hg _ _ _ (Below.refl _ _)⟩
    refine .inr ⟨g, 8, c1 - 8, by rw [hQl], by omega, by omega, by omega, ?_, fun j hj => ?_⟩
    · exact Nat.lt_of_lt_of_le hglt (below_setCells (B := 0) g (Nat.zero_le _) _ _ W (Below.refl _ _)).size
    · by_cases h8 : j < 8
      · rw [hQ1 j hj h8]
        have e1 := World.cell?_setCells_out g (l.map bc) (8 + 8 * i0.size) W ⟨g, 8 + j, none⟩ (fun _ _ => .inl (show 8 + j < 8 + 8 * i0.size by rw [hz1]; omega))
        exact e1.trans (hPc (8 + j) (by omega))
      · have := World.cell?_setCells_in g (l.map bc) (8 + 8 * i0.size) W hth (j - 8) (by rw [List.length_map]; omega)
        rw [hQ2 j hj h8, show 8 + j = 8 + 8 * i0.size + (j - 8) by rw [hz1]; omega, this, List.getElem_map]
  · have hold : (Builtin.firstCells i0.size 8 (.slice (some ⟨g, 8, none⟩) 8 (c1 - 8))).run Try.prog W.drew = .ok ((P.drop 8).map bc).toArray W.drew := by
      refine run_firstCells_some W.drew i0.size 8 ⟨g, 8, none⟩ 8 (c1 - 8) _ (by rw [List.length_map, List.length_drop, hP, hz1]) (fun j v hj => ?_)
      rw [List.getElem?_map] at hj
      have hlt : j < 8 := by
        rcases Nat.lt_or_ge j 8 with q | q
        · exact q
        · rw [List.getElem?_eq_none (by rw [List.length_drop, hP]; omega)] at hj; cases hj
      rw [List.getElem?_eq_getElem (by rw [List.length_drop, hP]; omega), List.getElem_drop] at hj
      simp only [Option.map_some, Option.some.injEq] at hj
      subst hj
      have hq := hPc (8 + j) (by omega)
      by_cases q : j = 0
      · subst q; simpa [Addr.add] using hq
      · simpa [Addr.add, q] using hq
    refine ⟨_, _, run_append_grow_src W 25 25 ty 5 i0 _ Try.underlying25 hi hz0 (some ⟨g, 8, none⟩) 8 (c1 - 8) _ hold _ 8 _ hS (by omega) (by decide) (growslice_fits (by omega) (by rw [hz2]; decide)), ?_, (Below.refl _ _).drew.alloc (by exact hb) _⟩
    have hge := grownCap_ge W (8 + 8) (c1 - 8) 5
    have hcm := grownCap_le_maxLen W (8 + 8) (c1 - 8) 5 (by decide)
    refine .inr ⟨W.heap.size, 0, _, by rw [hQl], by omega, by omega, hcm, by simp [World.alloc], fun j hj => ?_⟩
    have e1 := World.cell?_alloc_new W.drew (((P.drop 8).map bc ++ l.map bc).toArray ++ Builtin.zeroCells (Value.int .u8 0).cells (grownCap W (8 + 8) (c1 - 8) 5 - (8 + 8))) 5 (0 + j)
    refine Eq.trans e1 ?_
    rw [Nat.zero_add, ← List.map_append, Array.getElem?_append_left (by simp only [List.size_toArray, List.length_map]; exact hj), List.getElem?_toArray, List.getElem?_map, List.getElem?_eq_getElem hj]
    rfl
end Go.Proofs.Ytlpjdfgknmfmnaa

/- Lists of slices of bytes; the reference's Same. -/
namespace Go.Proofs.Ytlpjdfgknmfmnaa
open Go.RowKit

/-- A slice of slices reads these. -/
def LReads_C (w : World) (v : Value) (L : List (List UInt8)) : Prop :=
  ∃ a cap, v = .slice a L.length cap ∧ L.length ≤ cap ∧ cap ≤ maxLen ∧ (L = [] ∨ ∃ b off, a = some ⟨b, off, none⟩ ∧ b < w.heap.size ∧ ∀ j (hj : j < L.length), ∃ vj, w.cell? ⟨b, off + j, none⟩ = some vj ∧ Reads w vj L[j])
theorem LReads_C.below {w w' : World} {v : Value} {L : List (List UInt8)} (h : LReads_C w v L) (hb : Below w.heap.size w w') : LReads_C w' v L := by
  obtain ⟨a, cap, rfl, h1, h2, h3⟩ := h
  refine ⟨a, cap, rfl, h1, h2, ?_⟩
  rcases h3 with h3 | ⟨b, off, h4, h5, h6⟩
  · exact .inl h3
  · refine .inr ⟨b, off, h4, Nat.lt_of_lt_of_le h5 hb.size, fun j hj => ?_⟩
    obtain ⟨vj, g1, g2⟩ := h6 j hj
    exact ⟨vj, (hb.cell (p := ⟨b, off + j, none⟩) h5).trans g1, g2.below hb⟩
theorem LReads_C.take {w : World} {a : Option Addr} {n cap : Nat} {L : List (List UInt8)} (h : LReads_C w (.slice a n cap) L) {c : Nat} (hc : c ≤ L.length) : LReads_C w (.slice a c cap) (L.take c) := by
  obtain ⟨a', cap', hv, h1, h2, h3⟩ := h
  simp at hv
  obtain ⟨rfl, rfl, rfl⟩ := hv
  refine ⟨_, _, by rw [List.length_take, Nat.min_eq_left hc], by simp; omega, h2, ?_⟩
  rcases h3 with rfl | ⟨b, off, h4, h5, h6⟩
  · exact .inl (by simp)
  · refine .inr ⟨b, off, h4, h5, fun j hj => ?_⟩
    obtain ⟨vj, g1, g2⟩ := h6 j (by simp at hj; omega)
    exact ⟨vj, g1, by simpa using g2⟩
/-- What All hands back. -/
theorem LReads_C.of_row {w : World} {base base' : Nat} {vl : Value} {xs : List Fr} (h : w.ownsRow base 25 1 vl xs.length (xs.map Fr.v)) (ho : ∀ x ∈ xs, Own w base' x.v x.D) : LReads_C w vl (xs.map Fr.D) := by
  by_cases h0 : xs = []
  · subst h0
    rcases h.2 with ⟨h1, _⟩ | ⟨g, cap, cur, hv, hg, hw, hc, hm, _⟩
    · exact ⟨none, 0, by simpa using h1, by simp, by simp, .inl rfl⟩
    · exact ⟨_, cap, by simpa using hv, by simp, hm, .inl rfl⟩
  · have hl : 0 < xs.length := List.length_pos_iff.2 h0
    have hlt := World.ownsRow.lt h
    rcases h.2 with ⟨_, h1⟩ | ⟨g, cap, cur, hv, hg, hw, hc, hm, _⟩
    · omega
    · subst hv
      refine ⟨_, cap, by rw [List.length_map], by simpa using hc, hm, .inr ⟨g, 0, rfl, (hlt g rfl).2, fun j hj => ?_⟩⟩
      simp at hj
      refine ⟨xs[j].v, ?_, ?_⟩
      · rw [Nat.zero_add, World.ownsRow.cellAt h j (by simpa using hj)]; simp [hj]
      · rw [List.getElem_map]; exact (ho _ (List.getElem_mem hj)).reads
end Go.Proofs.Ytlpjdfgknmfmnaa

/- The reference's frames. -/
namespace Go.Proofs.Ytlpjdfgknmfmnaa
open Go.RowKit

theorem four_at (n k : Nat) (hk : k < 4) : (four n).take (k + 1) = (four n).take k ++ [UInt8.ofNat (n / 256 ^ k)] := by
  have h : k = 0 ∨ k = 1 ∨ k = 2 ∨ k = 3 := by omega
  rcases h with rfl | rfl | rfl | rfl <;> simp [four]
set_option maxRecDepth 100000 in
set_option maxHeartbeats 1000000 in
theorem refFour_any (n : Nat) (hn : n < 4294967296) (w : World) :
    Calls Try.prog 63 #[.int .u32 (n : Int)] w fun e w' => ∃ v', e = .returned v' ∧ Own w' w.heap.size v' (four n) ∧ Below w.heap.size w w' := by
  go_enter Try.func63, Try.ntmps63
  go_wp2_with fail
  go_loopw [0, 3, 4] (fun x v i wr => ∃ k m : Nat, k ≤ 4 ∧ i = .int .i64 (k : Int) ∧ x = .int .u32 (m : Int) ∧ Hid (m = n / 256 ^ k) ∧ m < 4294967296 ∧ Hid (Own wr w.heap.size v ((four n).take k)) ∧ Hid (Below w.heap.size w wr)) (fun _ _ i _ => 4 - (intOf i).toNat)
  case atStart => exact ⟨0, n, by omega, rfl, rfl, by simp [Hid], hn, Own.nil _ _, Below.refl _ _⟩
  case round =>
    obtain ⟨k, m, hk, rfl, rfl, HM, hm, HO, HB⟩ := hrel
    by_cases hlt : k < 4
    · have HF : Hid ((four n).take (k + 1) = (four n).take k ++ [UInt8.ofNat m]) := by rw [HM.out]; exact four_at n k hlt
      have HM2 : Hid (m / 256 = n / 256 ^ (k + 1)) := by rw [HM.out, Nat.div_div_eq_div_mul, Nat.pow_succ]; exact rfl
      have hkl : ((four n).take k).length ≤ 4 := by simp [four_len]; omega
      have hsz := HB.out.size
      have hdm : (m : Int).tdiv 256 = ((m / 256 : Nat) : Int) := by rw [Int.tdiv_eq_ediv_of_nonneg (by omega)]; omega
      have hdw : IntKind.u32.wrap ((m / 256 : Nat) : Int) = ((m / 256 : Nat) : Int) := by simp [IntKind.wrap, IntKind.bits, IntKind.signed]; omega
      have hdc : IntKind.u32.wrap ((m : Int).tdiv 256) = ((m / 256 : Nat) : Int) := by rw [hdm, hdw]
      clear hdm hdw
      have hw1 : ((m : Int) % 256) % 256 = (m : Int) % 256 := by omega
      have hbc : Value.int .u8 ((m : Int) % 256) = bc (UInt8.ofNat m) := by
        unfold bc; rw [UInt8.toNat_ofNat']; simp
      have HBC : Hid _ := hbc
      clear hbc HM hw1
      go_wp2_with (at_builtin; refine wpList_app1 rfl _ _ rfl w.heap.size _ ((four n).take k) (UInt8.ofNat m) _ HF.out (by first | exact HBC.out | simpa using HBC.out) rfl rfl HO.out (by omega) hsz ?_)
      intro v2 w2 HO2 hb2
      have HB2 : Hid (Below w.heap.size w w2) := HB.out.trans hb2.out
      have HP2 : Hid (Own w2 w.heap.size v2 ((four n).take (k + 1))) := HO2
      clear HO2 hb2 HB HO HF HBC
      go_wp2_with fail
      go_roundw
      case rel => exact ⟨k + 1, m / 256, by omega, by simp, by simp, HM2, by omega, HP2, HB2⟩
      case measure => simp [intOf]; omega
    · have hke : k = 4 := by omega
      subst hke
      have HP : Hid (Own wr w.heap.size u3 (four n)) := HO.out
      clear HO HM
      go_wp2_with fail
      go_ret
      exact ⟨_, rfl, HP.out, HB.out⟩
set_option maxRecDepth 100000 in
set_option maxHeartbeats 1000000 in
theorem refNumber_any (v : Value) (l : List UInt8) (hl : 4 ≤ l.length) (w : World) (hr : Reads w v l) :
    Calls Try.prog 95 #[v] w fun e w' => e = .returned (.int .i64 (vle (l.take 4) : Nat)) ∧ Below w.heap.size w w' := by
  obtain ⟨a, cap, rfl, hm⟩ := hr.form
  obtain ⟨b, off, rfl, _, c0⟩ := hr.at 0 (by omega)
  obtain ⟨b1, off1, e1, _, c1⟩ := hr.at 1 (by omega)
  obtain ⟨b2, off2, e2, _, c2⟩ := hr.at 2 (by omega)
  obtain ⟨b3, off3, e3, _, c3⟩ := hr.at 3 (by omega)
  simp only [Option.some.injEq, Addr.mk.injEq, and_true] at e1 e2 e3
  obtain ⟨rfl, rfl⟩ := e1
  obtain ⟨rfl, rfl⟩ := e2
  obtain ⟨rfl, rfl⟩ := e3
  have hv : vle (l.take 4) = l[0].toNat + 256 * (l[1].toNat + 256 * (l[2].toNat + 256 * l[3].toNat)) := by
    match l, hl with
    | x :: y :: z :: u :: l, _ => simp [vle]
  have b0 := (l[0]).toNat_lt
  have b1 := (l[1]).toNat_lt
  have b2 := (l[2]).toNat_lt
  have b3 := (l[3]).toNat_lt
  unfold bc at c0 c1 c2 c3
  rw [Nat.add_zero] at c0
  generalize l[0].toNat = x0 at *
  generalize l[1].toNat = x1 at *
  generalize l[2].toNat = x2 at *
  generalize l[3].toNat = x3 at *
  have i1 : (1 : Int) < (l.length : Int) := by omega
  have i2 : (2 : Int) < (l.length : Int) := by omega
  have i3 : (3 : Int) < (l.length : Int) := by omega
  have i0 : (0 : Int) < (l.length : Int) := by omega
  have HV : Hid _ := hv
  clear hv hr
  rw [HV.out]
  go_enter Try.func95, Try.ntmps95
  go_wp2_with fail
  go_region
  go_wp2_with fail
  go_ret
  exact ⟨ret_int (by omega), (Below.refl _ _).drew⟩
end Go.Proofs.Ytlpjdfgknmfmnaa

/- The reference's Frame and Next. -/
namespace Go.Proofs.Ytlpjdfgknmfmnaa
open Go.RowKit

set_option maxRecDepth 100000 in
set_option maxHeartbeats 1000000 in
theorem refFrame_any (v : Value) (l : List UInt8) (hl : l.length ≤ 65535) (w : World) (hr : Reads w v l) :
    Calls Try.prog 27 #[v] w fun e w' => ∃ v', e = .returned (.tuple #[v', .int .i64 0]) ∧ Own w' w.heap.size v' (frm l) ∧ Below w.heap.size w w' := by
  obtain ⟨a, cap, rfl, _⟩ := hr.form
  have g1 : ¬ (65535 : Int) < (l.length : Int) := by omega
  have hwr : IntKind.u32.wrap (l.length : Int) = (l.length : Int) := by simp [IntKind.wrap, IntKind.bits, IntKind.signed]; omega
  have HR : Hid (Reads w (.slice a l.length cap) l) := hr
  clear hr
  go_enter Try.func27, Try.ntmps27
  go_wp2_with fail
  refine (refFour_any l.length (by omega) _).mono ?_
  rintro e w1 ⟨v1, rfl, HO1, hb1⟩
  have HB1 : Hid (Below w.heap.size w w1) := hb1
  have hr1 : Reads w1 _ l := HR.out.below hb1
  have hsz1 := hb1.size
  obtain ⟨M, HM⟩ := hid_ex (four l.length ++ l)
  have hml : M.length = 4 + l.length := by rw [HM.out, List.length_append]; rfl
  have HML : Hid (M.length = 4 + l.length) := hml
  clear hb1 hml
  go_wp2_with (at_builtin; refine wpList_app rfl _ _ rfl w.heap.size _ _ (four l.length) l M HM.out rfl rfl HO1 hr1 (by simp [four_len]; omega) hsz1 ?_)
  intro v2 w2 HO2 hb2
  have HB2 : Hid (Below w.heap.size w w2) := HB1.out.trans hb2.out
  have HP2 : Hid (Own w2 w.heap.size v2 M) := HO2
  clear HO1 hr1 hb2 HB1 hsz1 HO2
  go_wp2_with fail
  refine (refSum_any _ M _ HP2.out.reads).mono ?_
  rintro e w3 ⟨rfl, hw⟩
  subst w3
  go_wp2_with fail
  refine (refFour_any (mor 0 M) (mor_lt _ _) _).mono ?_
  rintro e w3 ⟨v3, rfl, HO3, hb3⟩
  have HB3 : Hid (Below w.heap.size w w3) := HB2.out.trans (hb3.mono HB2.out.size)
  have HP3 : Hid (Own w3 w.heap.size v2 M) := HP2.out.below hb3
  have hsz3 := HB3.out.size
  have hr3 := HO3.reads
  clear hb3 HB2 HP2 HO3
  obtain ⟨G, HG⟩ := hid_ex (M ++ four (mor 0 M))
  go_wp2_with (at_builtin; refine wpList_app rfl _ _ rfl w.heap.size _ _ M (four (mor 0 M)) G HG.out rfl rfl HP3.out hr3 (by rw [HML.out]; simp [four_len]; omega) hsz3 ?_)
  intro v4 w4 HO4 hb4
  have HB4 : Hid (Below w.heap.size w w4) := HB3.out.trans hb4.out
  have HP4 : Hid (Own w4 w.heap.size v4 (frm l)) := by
    have : frm l = G := by rw [HG.out, HM.out]; rfl
    rw [this]; exact HO4
  clear HO4 hb4 HB3 HP3 hr3 HG HM HML
  go_wp2_with fail
  go_ret2
  exact ⟨_, rfl, HP4.out, HB4.out⟩
set_option maxRecDepth 100000 in
set_option maxHeartbeats 1000000 in
theorem refFrame_long (v : Value) (l : List UInt8) (hl : 65535 < l.length) (w : World) (hr : Reads w v l) :
    Calls Try.prog 27 #[v] w fun e w' => e = .returned (.tuple #[.slice none 0 0, .int .i64 2]) ∧ w' = w := by
  obtain ⟨a, cap, rfl, _⟩ := hr.form
  clear hr
  have h1 : (65535 : Int) < (l.length : Int) := by omega
  go_enter Try.func27, Try.ntmps27
  go_wp2_with fail
  go_ret2
  exact ⟨rfl, rfl⟩
theorem four_vle : ∀ (t : List UInt8), t.length = 4 → four (vle t) = t
  | [a, b, c, d], _ => by
    have ha := a.toNat_lt
    have hb := b.toNat_lt
    have hc := c.toNat_lt
    have hd := d.toNat_lt
    simp only [four, vle, List.cons.injEq, and_true]
    refine ⟨?_, ?_, ?_, ?_⟩ <;> (apply UInt8.toNat_inj.1; rw [UInt8.toNat_ofNat']; omega)
theorem four_iff (t : List UInt8) (h : t.length = 4) (x : Nat) (hx : x < 4294967296) : four x = t ↔ vle t = x := by
  constructor
  · intro e; rw [← e]; exact vle_four' x hx
  · intro e; rw [← e]; exact four_vle t h
set_option maxRecDepth 100000 in
set_option maxHeartbeats 1000000 in
theorem refNext_any (v : Value) (l : List UInt8) (hll : l.length ≤ 100000) (w : World) (hr : Reads w v l) :
    Calls Try.prog 73 #[v] w fun e w' => ∃ v', e = .returned (.tuple #[v', .int .i64 ((nxF l).2.1 : Nat), .int .i64 (nxF l).2.2]) ∧ Own w' w.heap.size v' (nxF l).1 ∧ Below w.heap.size w w' := by
  obtain ⟨a, cap, rfl, _⟩ := hr.form
  by_cases h4 : (l.length : Int) < 4
  · have e : nxF l = ([], 0, 10) := by rw [nxF, if_pos (by omega)]
    rw [e]
    clear hr e
    go_enter Try.func73, Try.ntmps73
    go_wp2_with fail
    refine bodyPost_ret (results_tmp3 rfl _ _ _) rfl ?_
    exact ⟨_, rfl, Own.nil _ _, Below.refl _ _⟩
  · obtain ⟨n, HN⟩ := hid_ex (vle (l.take 4))
    have HR : Hid (Reads w (.slice a l.length cap) l) := hr
    have hn : n < 4294967296 := by rw [HN.out]; exact vle_four_lt (by simp; omega)
    have hnum := refNumber_any _ l (by omega) _ hr
    rw [← HN.out] at hnum
    have HNU : Hid _ := hnum
    clear hr hnum
    by_cases h5 : (65535 : Int) < (n : Int)
    · have e : nxF l = ([], 0, 2) := by rw [nxF, if_neg (by omega), ← HN.out, if_pos (by omega)]
      rw [e]
      clear e HN
      go_enter Try.func73, Try.ntmps73
      go_wp2_with fail
      refine Calls.mono HNU.out ?_
      rintro e w1 ⟨rfl, hb1⟩
      have HB1 : Hid (Below w.heap.size w w1) := hb1
      clear hb1
      go_wp2_with fail
      refine bodyPost_ret (results_tmp3 rfl _ _ _) rfl ?_
      exact ⟨_, rfl, Own.nil _ _, HB1.out⟩
    · by_cases h6 : (l.length : Int) < 8 + (n : Int)
      · have e : nxF l = ([], 0, 10) := by rw [nxF, if_neg (by omega), ← HN.out, if_neg (by omega), if_pos (by omega)]
        rw [e]
        clear e HN
        go_enter Try.func73, Try.ntmps73
        go_wp2_with fail
        refine Calls.mono HNU.out ?_
        rintro e w1 ⟨rfl, hb1⟩
        have HB1 : Hid (Below w.heap.size w w1) := hb1
        clear hb1
        go_wp2_with fail
        refine bodyPost_ret (results_tmp3 rfl _ _ _) rfl ?_
        exact ⟨_, rfl, Own.nil _ _, HB1.out⟩
      · obtain ⟨b, off, rfl, hb, _⟩ := HR.out.at 0 (by omega)
        have hcap := HR.out.cap (by omega)
        have j1 : (4 : Int) + (n : Int) ≤ (cap : Int) := by omega
        have j2 : (8 : Int) + (n : Int) ≤ (cap : Int) := by omega
        have j3 : (4 : Int) + (n : Int) ≤ 8 + (n : Int) := by omega
        have j4 : IntKind.i64.wrap (4 + (n : Int)) = 4 + (n : Int) := by simp [IntKind.wrap, IntKind.bits, IntKind.signed]; omega
        have j5 : IntKind.i64.wrap (8 + (n : Int)) = 8 + (n : Int) := by simp [IntKind.wrap, IntKind.bits, IntKind.signed]; omega
        have j6 : (0 : Int) ≤ 4 + (n : Int) := by omega
        have j7 : (0 : Int) ≤ 8 + (n : Int) := by omega
        have j8 : (4 + (n : Int)).toNat = 4 + n := by omega
        have j9 : (8 + (n : Int)).toNat = 8 + n := by omega
        have j10 : ¬ cap = 4 + n := by omega
        have j11 : 8 + n - (4 + n) = 4 := by omega
        obtain ⟨A, HA⟩ := hid_ex (l.take (4 + n))
        obtain ⟨S, HS⟩ := hid_ex ((l.drop (4 + n)).take 4)
        obtain ⟨D, HD⟩ := hid_ex ((l.drop 4).take n)
        have HAR : Hid (∀ w', Below w.heap.size w w' → Reads w' (.slice (some ⟨b, off, none⟩) (4 + n) cap) A) := by
          intro w' hb'; rw [HA.out]; exact (HR.out.below hb').take (by omega)
        have HSR : Hid (∀ w', Below w.heap.size w w' → Reads w' (.slice (some ⟨b, off + (4 + n), none⟩) 4 (cap - (4 + n))) S) := by
          intro w' hb'
          have h := ((HR.out.below hb').drop (c := 4 + n) (by omega) b off rfl).1 (by omega)
          rw [← List.length_drop] at h
          rw [HS.out]; exact h.take (by simp; omega)
        have HDR : Hid (∀ w', Below w.heap.size w w' → Reads w' (.slice (some ⟨b, off + 4, none⟩) n (cap - 4)) D) := by
          intro w' hb'
          have h := ((HR.out.below hb').drop (c := 4) (by omega) b off rfl).1 (by omega)
          rw [← List.length_drop] at h
          rw [HD.out]; exact h.take (by simp; omega)
        have hiff := four_iff S (by rw [HS.out]; simp; omega) (mor 0 A) (mor_lt _ _)
        by_cases hsum : vle S = mor 0 A
        · have e : nxF l = (D, n + 8, 0) := by
            rw [nxF, if_neg (by omega), ← HN.out, if_neg (by omega), if_neg (by omega), ← HS.out, ← HA.out, if_neg (by simpa using hsum), ← HD.out]
          have HE : Hid (four (mor 0 A) = S) := hiff.2 hsum
          have hDl : D.length = n := by rw [HD.out]; simp; omega
          have HDL : Hid (D.length = n) := hDl
          rw [e]
          clear e HN HS HA HD hiff hsum HR hDl
          go_enter Try.func73, Try.ntmps73
          go_wp2_with fail
          refine Calls.mono HNU.out ?_
          rintro e w1 ⟨rfl, hb1⟩
          have HB1 : Hid (Below w.heap.size w w1) := hb1
          clear hb1
          go_wp2_with fail
          refine wp_region_noPanic ?_
          refine wp_region_held_drew (S := (fun w' => Below w.heap.size w w')) (by kernel_rfl) ?_ (fun hHeld => ?_)
          · exact HB1.out.drew
          refine wpAnyH_take (i := 0) (v := .slice (some ⟨b, off, none⟩) l.length cap) rfl (by kernel_rfl) (by kernel_rfl) (by kernel_rfl) (fun _ _ _ h => h) (Or.inl ⟨by rfl, ?_⟩) (by assumption) ?_
          · (intro w1 hSw; (try dsimp only at hSw); go_simp)
          simp only [List.getElem_toArray, List.getElem_cons_zero, Act.put, List.setIfInBounds_toArray, List.set_cons_zero, List.set_cons_succ]
          refine wpAnyH_take (i := 1) (v := .int .i64 (n : Int)) rfl (by kernel_rfl) (by kernel_rfl) (by kernel_rfl) (fun _ _ _ h => h) (Or.inl ⟨by rfl, ?_⟩) (by assumption) ?_
          · (intro w1 hSw; (try dsimp only at hSw); go_simp)
          simp only [List.getElem_toArray, List.getElem_cons_succ, List.getElem_cons_zero, Act.put, List.setIfInBounds_toArray, List.set_cons_zero, List.set_cons_succ]
          refine wpAnyH_take (i := 2) (v := .int .i64 (4 + (n : Int))) rfl (by kernel_rfl) (by kernel_rfl) (by kernel_rfl) (fun _ _ _ h => h) (Or.inl ⟨by rfl, ?_⟩) (by assumption) ?_
          · (intro w1 hSw; (try dsimp only at hSw); go_simp)
          simp only [List.getElem_toArray, List.getElem_cons_succ, List.getElem_cons_zero, Act.put, List.setIfInBounds_toArray, List.set_cons_zero, List.set_cons_succ]
          refine wpAnyH_take (i := 3) (v := .slice (some ⟨b, off, none⟩) (4 + n) cap) rfl (by kernel_rfl) (by kernel_rfl) (by kernel_rfl) (fun _ _ _ h => h) (Or.inl ⟨by rfl, ?_⟩) (by assumption) ?_
          · (intro w1 hSw; (try dsimp only at hSw); go_simp)
          simp only [List.getElem_toArray, List.getElem_cons_succ, List.getElem_cons_zero, Act.put, List.setIfInBounds_toArray, List.set_cons_zero, List.set_cons_succ]
          refine wpAnyH_take (i := 7) (v := .slice (some ⟨b, off, none⟩) l.length cap) rfl (by kernel_rfl) (by kernel_rfl) (by kernel_rfl) (fun _ _ _ h => h) (Or.inl ⟨by rfl, ?_⟩) (by assumption) ?_
          · (intro w1 hSw; (try dsimp only at hSw); go_simp)
          simp only [List.getElem_toArray, List.getElem_cons_succ, List.getElem_cons_zero, Act.put, List.setIfInBounds_toArray, List.set_cons_zero, List.set_cons_succ]
          refine wpAnyH_take (i := 8) (v := .int .i64 (n : Int)) rfl (by kernel_rfl) (by kernel_rfl) (by kernel_rfl) (fun _ _ _ h => h) (Or.inl ⟨by rfl, ?_⟩) (by assumption) ?_
          · (intro w1 hSw; (try dsimp only at hSw); go_simp)
          simp only [List.getElem_toArray, List.getElem_cons_succ, List.getElem_cons_zero, Act.put, List.setIfInBounds_toArray, List.set_cons_zero, List.set_cons_succ]
          refine wpAnyH_take (i := 9) (v := .int .i64 (4 + (n : Int))) rfl (by kernel_rfl) (by kernel_rfl) (by kernel_rfl) (fun _ _ _ h => h) (Or.inl ⟨by rfl, ?_⟩) (by assumption) ?_
          · (intro w1 hSw; (try dsimp only at hSw); go_simp)
          simp only [List.getElem_toArray, List.getElem_cons_succ, List.getElem_cons_zero, Act.put, List.setIfInBounds_toArray, List.set_cons_zero, List.set_cons_succ]
          refine wpAnyH_take (i := 10) (v := .int .i64 (n : Int)) rfl (by kernel_rfl) (by kernel_rfl) (by kernel_rfl) (fun _ _ _ h => h) (Or.inl ⟨by rfl, ?_⟩) (by assumption) ?_
          · (intro w1 hSw; (try dsimp only at hSw); go_simp)
          simp only [List.getElem_toArray, List.getElem_cons_succ, List.getElem_cons_zero, Act.put, List.setIfInBounds_toArray, List.set_cons_zero, List.set_cons_succ]
          refine wpAnyH_take (i := 11) (v := .int .i64 (8 + (n : Int))) rfl (by kernel_rfl) (by kernel_rfl) (by kernel_rfl) (fun _ _ _ h => h) (Or.inl ⟨by rfl, ?_⟩) (by assumption) ?_
          · (intro w1 hSw; (try dsimp only at hSw); go_simp)
          simp only [List.getElem_toArray, List.getElem_cons_succ, List.getElem_cons_zero, Act.put, List.setIfInBounds_toArray, List.set_cons_zero, List.set_cons_succ]
          refine wpAnyH_take (i := 12) (v := .slice (some ⟨b, off + (4 + n), none⟩) 4 (cap - (4 + n))) rfl (by kernel_rfl) (by kernel_rfl) (by kernel_rfl) (fun _ _ _ h => h) (Or.inl ⟨by rfl, ?_⟩) (by assumption) ?_
          · (intro w1 hSw; (try dsimp only at hSw); go_simp)
          simp only [List.getElem_toArray, List.getElem_cons_succ, List.getElem_cons_zero, Act.put, List.setIfInBounds_toArray, List.set_cons_zero, List.set_cons_succ]
          refine wpAnyH_take (i := 13) (v := .string ⟨S.toArray⟩) rfl (by kernel_rfl) (by kernel_rfl) (by kernel_rfl) (fun _ _ _ h => h) (Or.inl ⟨by rfl, ?_⟩) (by assumption) ?_
          · (intro w1 hSw; (try dsimp only at hSw); have hcv := reads_text (HSR.out _ hSw); go_simp)
          simp only [List.getElem_toArray, List.getElem_cons_succ, List.getElem_cons_zero, Act.put, List.setIfInBounds_toArray, List.set_cons_zero, List.set_cons_succ]
          refine wpAnyH_ready (rs := [4]) (by kernel_rfl) (by simp) ?_
          refine AllReadyH.cons (o := _) rfl (fun K hK => ?_) AllReadyH.nil
          go_simp
          refine (refSum_any _ A _ (HAR.out _ hHeld)).mono ?_
          rintro e w2 ⟨rfl, hw⟩
          subst w2
          go_wp2_with fail
          refine hK.out _ _ ?_ (fun hHeld => ?_)
          · exact hHeld
          clear hK K
          refine wpAnyH_ready (rs := [5]) (by kernel_rfl) (by simp) ?_
          refine AllReadyH.cons (o := _) rfl (fun K hK => ?_) AllReadyH.nil
          go_simp
          refine (refFour_any (mor 0 A) (mor_lt _ _) _).mono ?_
          rintro e w2 ⟨v2, rfl, HO2, hb2⟩
          go_wp2_with fail
          refine hK.out _ _ ?_ (fun hHeld => ?_)
          · exact hHeld.trans (hb2.mono hHeld.size)
          clear hK K
          refine wpAnyH_sub (S' := fun w' => (Below w.heap.size w w') ∧ (Reads w' v2 (four (mor 0 A)) ∧ w2.heap.size ≤ w'.heap.size)) (fun _ h => h.1) _ _ _ _ ?_
          have hHeld : (Below w.heap.size w w2) ∧ (Reads w2 v2 (four (mor 0 A)) ∧ w2.heap.size ≤ w2.heap.size) := ⟨hHeld, ⟨HO2.reads, Nat.le_refl _⟩⟩
          clear hb2 HO2
          refine wpAnyH_take (i := 6) (v := .string ⟨(four (mor 0 A)).toArray⟩) rfl (by kernel_rfl) (by kernel_rfl) (by kernel_rfl) (fun _ _ _ h => h) (Or.inl ⟨by rfl, ?_⟩) (by assumption) ?_
          · (intro w1 hSw; (try dsimp only at hSw); have hcv := reads_text hSw.2.1; go_simp)
          simp only [List.getElem_toArray, List.getElem_cons_succ, List.getElem_cons_zero, Act.put, List.setIfInBounds_toArray, List.set_cons_zero, List.set_cons_succ]
          rw [HE.out] at hHeld ⊢
          refine wpAnyH_take (i := 14) (v := .bool false) rfl (by kernel_rfl) (by kernel_rfl) (by kernel_rfl) (fun _ _ _ h => h) (Or.inl ⟨by rfl, ?_⟩) (by assumption) ?_
          · (intro w1 hSw; (try dsimp only at hSw); go_simp)
          simp only [List.getElem_toArray, List.getElem_cons_succ, List.getElem_cons_zero, Act.put, List.setIfInBounds_toArray, List.set_cons_zero, List.set_cons_succ]
          refine wpAnyH_done (by kernel_rfl) ?_ _
          refine NoPanic.normal ?_
          have HB9 : Hid (Below w.heap.size w _) := hHeld.1
          clear hHeld
          go_wp2_with fail
          refine (copy_any _ D (by rw [HDL.out]; omega) _ (HDR.out _ HB9.out)).mono ?_
          rintro e w3 ⟨v3, rfl, HO3, hb3⟩
          have HB3 : Hid (Below w.heap.size w w3) := HB9.out.trans (hb3.mono HB9.out.size)
          have HP3 : Hid (Own w3 w.heap.size v3 D) := HO3.mono HB9.out.size
          clear hb3 HO3 HB9
          go_wp2_with fail
          refine bodyPost_ret (results_tmp3 rfl _ _ _) rfl ?_
          exact ⟨v3, tup3 (by omega), HP3.out, HB3.out⟩
        · have e : nxF l = ([], 0, 20) := by
            rw [nxF, if_neg (by omega), ← HN.out, if_neg (by omega), if_neg (by omega), ← HS.out, ← HA.out, if_pos (by simpa using hsum)]
          have hne : (four (mor 0 A) == S) = false := by
            simp only [beq_eq_false_iff_ne]
            exact fun h => hsum (hiff.1 h)
          rw [e]
          clear e HN HS HA HD hiff hsum HR
          go_enter Try.func73, Try.ntmps73
          go_wp2_with fail
          refine Calls.mono HNU.out ?_
          rintro e w1 ⟨rfl, hb1⟩
          have HB1 : Hid (Below w.heap.size w w1) := hb1
          clear hb1
          go_wp2_with fail
          refine wp_region_noPanic ?_
          refine wp_region_held_drew (S := (fun w' => Below w.heap.size w w')) (by kernel_rfl) ?_ (fun hHeld => ?_)
          · exact HB1.out.drew
          refine wpAnyH_take (i := 0) (v := .slice (some ⟨b, off, none⟩) l.length cap) rfl (by kernel_rfl) (by kernel_rfl) (by kernel_rfl) (fun _ _ _ h => h) (Or.inl ⟨by rfl, ?_⟩) (by assumption) ?_
          · (intro w1 hSw; (try dsimp only at hSw); go_simp)
          simp only [List.getElem_toArray, List.getElem_cons_zero, Act.put, List.setIfInBounds_toArray, List.set_cons_zero, List.set_cons_succ]
          refine wpAnyH_take (i := 1) (v := .int .i64 (n : Int)) rfl (by kernel_rfl) (by kernel_rfl) (by kernel_rfl) (fun _ _ _ h => h) (Or.inl ⟨by rfl, ?_⟩) (by assumption) ?_
          · (intro w1 hSw; (try dsimp only at hSw); go_simp)
          simp only [List.getElem_toArray, List.getElem_cons_succ, List.getElem_cons_zero, Act.put, List.setIfInBounds_toArray, List.set_cons_zero, List.set_cons_succ]
          refine wpAnyH_take (i := 2) (v := .int .i64 (4 + (n : Int))) rfl (by kernel_rfl) (by kernel_rfl) (by kernel_rfl) (fun _ _ _ h => h) (Or.inl ⟨by rfl, ?_⟩) (by assumption) ?_
          · (intro w1 hSw; (try dsimp only at hSw); go_simp)
          simp only [List.getElem_toArray, List.getElem_cons_succ, List.getElem_cons_zero, Act.put, List.setIfInBounds_toArray, List.set_cons_zero, List.set_cons_succ]
          refine wpAnyH_take (i := 3) (v := .slice (some ⟨b, off, none⟩) (4 + n) cap) rfl (by kernel_rfl) (by kernel_rfl) (by kernel_rfl) (fun _ _ _ h => h) (Or.inl ⟨by rfl, ?_⟩) (by assumption) ?_
          · (intro w1 hSw; (try dsimp only at hSw); go_simp)
          simp only [List.getElem_toArray, List.getElem_cons_succ, List.getElem_cons_zero, Act.put, List.setIfInBounds_toArray, List.set_cons_zero, List.set_cons_succ]
          refine wpAnyH_take (i := 7) (v := .slice (some ⟨b, off, none⟩) l.length cap) rfl (by kernel_rfl) (by kernel_rfl) (by kernel_rfl) (fun _ _ _ h => h) (Or.inl ⟨by rfl, ?_⟩) (by assumption) ?_
          · (intro w1 hSw; (try dsimp only at hSw); go_simp)
          simp only [List.getElem_toArray, List.getElem_cons_succ, List.getElem_cons_zero, Act.put, List.setIfInBounds_toArray, List.set_cons_zero, List.set_cons_succ]
          refine wpAnyH_take (i := 8) (v := .int .i64 (n : Int)) rfl (by kernel_rfl) (by kernel_rfl) (by kernel_rfl) (fun _ _ _ h => h) (Or.inl ⟨by rfl, ?_⟩) (by assumption) ?_
          · (intro w1 hSw; (try dsimp only at hSw); go_simp)
          simp only [List.getElem_toArray, List.getElem_cons_succ, List.getElem_cons_zero, Act.put, List.setIfInBounds_toArray, List.set_cons_zero, List.set_cons_succ]
          refine wpAnyH_take (i := 9) (v := .int .i64 (4 + (n : Int))) rfl (by kernel_rfl) (by kernel_rfl) (by kernel_rfl) (fun _ _ _ h => h) (Or.inl ⟨by rfl, ?_⟩) (by assumption) ?_
          · (intro w1 hSw; (try dsimp only at hSw); go_simp)
          simp only [List.getElem_toArray, List.getElem_cons_succ, List.getElem_cons_zero, Act.put, List.setIfInBounds_toArray, List.set_cons_zero, List.set_cons_succ]
          refine wpAnyH_take (i := 10) (v := .int .i64 (n : Int)) rfl (by kernel_rfl) (by kernel_rfl) (by kernel_rfl) (fun _ _ _ h => h) (Or.inl ⟨by rfl, ?_⟩) (by assumption) ?_
          · (intro w1 hSw; (try dsimp only at hSw); go_simp)
          simp only [List.getElem_toArray, List.getElem_cons_succ, List.getElem_cons_zero, Act.put, List.setIfInBounds_toArray, List.set_cons_zero, List.set_cons_succ]
          refine wpAnyH_take (i := 11) (v := .int .i64 (8 + (n : Int))) rfl (by kernel_rfl) (by kernel_rfl) (by kernel_rfl) (fun _ _ _ h => h) (Or.inl ⟨by rfl, ?_⟩) (by assumption) ?_
          · (intro w1 hSw; (try dsimp only at hSw); go_simp)
          simp only [List.getElem_toArray, List.getElem_cons_succ, List.getElem_cons_zero, Act.put, List.setIfInBounds_toArray, List.set_cons_zero, List.set_cons_succ]
          refine wpAnyH_take (i := 12) (v := .slice (some ⟨b, off + (4 + n), none⟩) 4 (cap - (4 + n))) rfl (by kernel_rfl) (by kernel_rfl) (by kernel_rfl) (fun _ _ _ h => h) (Or.inl ⟨by rfl, ?_⟩) (by assumption) ?_
          · (intro w1 hSw; (try dsimp only at hSw); go_simp)
          simp only [List.getElem_toArray, List.getElem_cons_succ, List.getElem_cons_zero, Act.put, List.setIfInBounds_toArray, List.set_cons_zero, List.set_cons_succ]
          refine wpAnyH_take (i := 13) (v := .string ⟨S.toArray⟩) rfl (by kernel_rfl) (by kernel_rfl) (by kernel_rfl) (fun _ _ _ h => h) (Or.inl ⟨by rfl, ?_⟩) (by assumption) ?_
          · (intro w1 hSw; (try dsimp only at hSw); have hcv := reads_text (HSR.out _ hSw); go_simp)
          simp only [List.getElem_toArray, List.getElem_cons_succ, List.getElem_cons_zero, Act.put, List.setIfInBounds_toArray, List.set_cons_zero, List.set_cons_succ]
          refine wpAnyH_ready (rs := [4]) (by kernel_rfl) (by simp) ?_
          refine AllReadyH.cons (o := _) rfl (fun K hK => ?_) AllReadyH.nil
          go_simp
          refine (refSum_any _ A _ (HAR.out _ hHeld)).mono ?_
          rintro e w2 ⟨rfl, hw⟩
          subst w2
          go_wp2_with fail
          refine hK.out _ _ ?_ (fun hHeld => ?_)
          · exact hHeld
          clear hK K
          refine wpAnyH_ready (rs := [5]) (by kernel_rfl) (by simp) ?_
          refine AllReadyH.cons (o := _) rfl (fun K hK => ?_) AllReadyH.nil
          go_simp
          refine (refFour_any (mor 0 A) (mor_lt _ _) _).mono ?_
          rintro e w2 ⟨v2, rfl, HO2, hb2⟩
          go_wp2_with fail
          refine hK.out _ _ ?_ (fun hHeld => ?_)
          · exact hHeld.trans (hb2.mono hHeld.size)
          clear hK K
          refine wpAnyH_sub (S' := fun w' => (Below w.heap.size w w') ∧ (Reads w' v2 (four (mor 0 A)) ∧ w2.heap.size ≤ w'.heap.size)) (fun _ h => h.1) _ _ _ _ ?_
          have hHeld : (Below w.heap.size w w2) ∧ (Reads w2 v2 (four (mor 0 A)) ∧ w2.heap.size ≤ w2.heap.size) := ⟨hHeld, ⟨HO2.reads, Nat.le_refl _⟩⟩
          clear hb2 HO2
          refine wpAnyH_take (i := 6) (v := .string ⟨(four (mor 0 A)).toArray⟩) rfl (by kernel_rfl) (by kernel_rfl) (by kernel_rfl) (fun _ _ _ h => h) (Or.inl ⟨by rfl, ?_⟩) (by assumption) ?_
          · (intro w1 hSw; (try dsimp only at hSw); have hcv := reads_text hSw.2.1; go_simp)
          simp only [List.getElem_toArray, List.getElem_cons_succ, List.getElem_cons_zero, Act.put, List.setIfInBounds_toArray, List.set_cons_zero, List.set_cons_succ]
          refine wpAnyH_take (i := 14) (v := .bool true) rfl (by kernel_rfl) (by kernel_rfl) (by kernel_rfl) (fun _ _ _ h => h) (Or.inl ⟨by rfl, ?_⟩) (by assumption) ?_
          · (intro w1 hSw; (try dsimp only at hSw); go_simp)
          simp only [List.getElem_toArray, List.getElem_cons_succ, List.getElem_cons_zero, Act.put, List.setIfInBounds_toArray, List.set_cons_zero, List.set_cons_succ]
          refine wpAnyH_done (by kernel_rfl) ?_ _
          refine NoPanic.normal ?_
          have HB9 : Hid (Below w.heap.size w _) := hHeld.1
          clear hHeld
          go_wp2_with fail
          refine bodyPost_ret (results_tmp3 rfl _ _ _) rfl ?_
          exact ⟨_, rfl, Own.nil _ _, HB9.out⟩
end Go.Proofs.Ytlpjdfgknmfmnaa
