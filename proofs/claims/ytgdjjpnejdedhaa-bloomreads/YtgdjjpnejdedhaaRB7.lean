/- The contract of the reference's Read. -/
import Derived.Test.YtgdjjpnejdedhaaRB6
import Derived.Maps.AppendAt
namespace Go.Proofs.Ytgdjjpnejdedhaa
open Go.RowKit

/-- The filter that Read builds: its digits so far. -/
def RG (w : World) (base B : Nat) (h : Nat) (bs : List Bool) : Prop :=
  ∃ vD, w.heap[B]? = some (.cells #[vD, .int .i64 (h : Int)] 53) ∧ w.ownsRow base 4 1 vD bs.length (bs.map bcb) ∧ some B ≠ vD.ownBlock
theorem row_below {w w' : World} {base : Nat} {e : TypeId} {size : Nat} {v : Value} {k : Nat} {xs : List Value} (h : w.ownsRow base e size v k xs) (hb : Below w.heap.size w w') : w'.ownsRow base e size v k xs := by
  obtain ⟨q1, q2⟩ := h
  refine ⟨q1, ?_⟩
  rcases q2 with q2 | ⟨g2, cap2, cur, hv, hg, hw, r⟩
  · exact .inl q2
  · exact .inr ⟨g2, cap2, cur, hv, hg, (hb.block g2 (Array.getElem?_eq_some_iff.1 hw).1).trans hw, r⟩
theorem RG.below {w w' : World} {base B h : Nat} {bs : List Bool} (hg : RG w base B h bs) (hb : Below w.heap.size w w') : RG w' base B h bs := by
  obtain ⟨vD, h1, h2, h3⟩ := hg
  exact ⟨vD, (hb.block B (Array.getElem?_eq_some_iff.1 h1).1).trans h1, row_below h2 hb, h3⟩
/-- The filter's digits grow by one. -/
theorem RG.grow {w wr w1 : World} {base B h nt : Nat} {bs : List Bool} {vD v' : Value} {tmp : Obj} (b : Bool) (hb1 : wr.heap[B]? = some (.cells #[vD, .int .i64 (h : Int)] 53)) (hne : some B ≠ vD.ownBlock) (hB : Below base w wr) (hbase : base ≤ B)
    (hrow : wr.ownsRow base 4 1 vD bs.length (bs.map bcb)) (hnt : nt = bs.length) (hown : w1.ownsRow base 4 1 v' (nt + 1) (bs.map bcb ++ [.bool b])) (hgrow : (wr.alloc tmp).grownBy w1 vD.ownBlock) (hbw : base ≤ wr.heap.size) :
    (w1.cell? ⟨B, 0, none⟩ = some vD ∧ w1.frozen? ⟨B, 0, none⟩ = false) ∧ RG (w1.setCell ⟨B, 0, none⟩ v') base B h (bs ++ [b]) ∧ Below base w (w1.setCell ⟨B, 0, none⟩ v') := by
  have hlt := (Array.getElem?_eq_some_iff.1 hb1).1
  have h1 : w1.heap[B]? = some (.cells #[vD, .int .i64 (h : Int)] 53) := (hgrow.block B (by simp; omega) hne).trans ((((Below.refl wr.heap.size wr).alloc (Nat.le_refl _) tmp).block B hlt).trans hb1)
  have hbel : Below base w w1 := (hB.alloc hbw tmp).grown hgrow (by simp; omega) (own_block hrow)
  refine ⟨⟨by have := cell_of h1 0 (by simp); simpa using this, by simp [World.frozen?, h1]⟩, ⟨v', ?_, ?_, ?_⟩, hbel.setCell hbase _⟩
  · have := Go.heap_setCell_same w1 B 0 _ _ v' h1
    simpa using this
  · have e : (bs ++ [b]).length = nt + 1 := by rw [hnt]; simp
    have e2 : (bs ++ [b]).map bcb = bs.map bcb ++ [.bool b] := by simp [bcb]
    rw [e, e2]
    refine hown.kept (grown_set w1 B 0 v') ?_
    rcases hown.2 with ⟨rfl, h0⟩ | ⟨g, cp, cur, rfl, hg, hw, _⟩
    · omega
    · refine .inr fun e' => ?_
      have : g = B := by simpa [Value.ownBlock] using e'
      rw [this, h1] at hw
      simp at hw
  · rcases hown.2 with ⟨rfl, h0⟩ | ⟨g, cp, cur, rfl, hg, hw, _⟩
    · omega
    · intro e'
      have : B = g := by simpa [Value.ownBlock] using e'
      rw [← this, h1] at hw
      simp at hw
set_option maxRecDepth 100000 in
set_option maxHeartbeats 1000000 in
theorem refRead_ok (v : Value) (l : List UInt8) (w : World) (hR : Reads w v l) (hok : rdOk l) :
    Calls Try.prog 20 #[v] w fun e w' => ∃ v', e = .returned (.tuple #[v', .int .i64 0]) ∧ RF w' w.heap.size v' (l.getD 0 0).toNat (dgs (l.drop 1)) ∧ Below w.heap.size w w' := by
  obtain ⟨h1, h2, h3, h4⟩ := hok
  obtain ⟨h, Hh⟩ := hid_ex (l.getD 0 0).toNat
  rw [← Hh.out] at h3 h4 ⊢
  rcases hR with ⟨rfl, _⟩ | ⟨b, off, cap, rfl, r2, r3, r4, r5, r6⟩
  · simp at h1
  have c0 := r6 0 (by omega)
  have e0 : bc l[0] = .int .u8 (h : Int) := by
    rw [Hh.out]; simp [bc, List.getD, List.getElem?_eq_getElem (show 0 < l.length by omega)]
  rw [e0, Nat.add_zero] at c0
  unfold maxLen at r4
  have HC : Hid (∀ j (hj : j < l.length), w.cell? ⟨b, off + j, none⟩ = some (bc l[j])) := r6
  clear r6 e0
  have i1 : ¬ (l.length : Int) < 2 := by omega
  have i2 : ¬ (8193 : Int) < (l.length : Int) := by omega
  have i3 : ¬ (h : Int) = 0 := by omega
  have i4 : ¬ (8 : Int) < (h : Int) := by omega
  have hD : (l.drop 1).length = l.length - 1 := by simp
  obtain ⟨D, HD⟩ := hid_ex (l.drop 1)
  rw [← HD.out] at hD ⊢
  have HDJ : Hid (∀ j (hj : j + 1 < l.length), D[j]? = some l[j + 1]) := by
    intro j hj
    rw [HD.out, List.getElem?_drop, Nat.add_comm 1 j, List.getElem?_eq_getElem hj]
  have HDN : Hid (D.length = l.length - 1) := hD
  clear hD HD Hh
  obtain ⟨i0, hi, hz0, hz1, hz2⟩ := info_parts infoBl
  go_enter Try.func20, Try.ntmps20
  go_wp2_with fail
  have HG0 : Hid (RG (w.alloc (.cells #[.slice none 0 0, .int .i64 (h : Int)] 53)) w.heap.size w.heap.size h ((dgs D).take (8 * 0))) := ⟨_, World.alloc_heap_new _ _, World.ownsRow_nil _ _ _ _, by simp [Value.ownBlock]⟩
  go_loopw [5] (fun i wr => ∃ j : Nat, j ≤ D.length ∧ i = .int .i64 ((j : Int) + 1) ∧ Hid (RG wr w.heap.size w.heap.size h ((dgs D).take (8 * j))) ∧ Hid (Below w.heap.size w wr)) (fun i _ => l.length - (intOf i).toNat)
  case atStart => exact ⟨0, by omega, rfl, HG0, (Below.refl _ _).alloc (Nat.le_refl _) _⟩
  case round =>
    obtain ⟨j, hj, rfl, HG, HB⟩ := hrel
    clear HG0
    rw [HDN.out] at hj
    by_cases hlt : j + 1 < l.length
    · have i5 : (j : Int) + 1 < (l.length : Int) := by omega
      have hcj := (HB.out.cell (p := ⟨b, off + (j + 1), none⟩) r5).trans (HC.out (j + 1) hlt)
      obtain ⟨x, Hx⟩ := hid_ex (l[j + 1].toNat)
      unfold bc at hcj
      rw [← Hx.out] at hcj
      have hx : x < 256 := by rw [Hx.out]; exact UInt8.toNat_lt _
      have q1 : ((j : Int) + 1).toNat = j + 1 := by omega
      have HGB : Hid (∀ k, k < 8 → gb D (8 * j + k) = x.testBit k) := by
        intro k hk
        have hjD : j < D.length := by rw [HDN.out]; omega
        rw [gb_byte D j k hjD hk]
        have := HDJ.out j hlt
        rw [List.getElem?_eq_getElem hjD] at this
        simp at this
        rw [this, ← Hx.out]
      go_wp2_with fail
      rename World => wo
      go_loopw [6, 7] (fun n k wr => ∃ m : Nat, m ≤ 8 ∧ k = .int .i64 (m : Int) ∧ n = .int .i64 ((x / 2 ^ m : Nat) : Int) ∧ Hid (RG wr w.heap.size w.heap.size h ((dgs D).take (8 * j + m))) ∧ Hid (Below w.heap.size w wr)) (fun _ k _ => 8 - (intOf k).toNat)
      case atStart => exact ⟨0, by omega, rfl, by simp, HG, HB⟩
      case round =>
        clear HG HB hcj
        obtain ⟨m, hm, rfl, rfl, HG, HB⟩ := hrel
        by_cases hm8 : m < 8
        · obtain ⟨y, Hy⟩ := hid_ex (x / 2 ^ m)
          rw [← Hy.out]
          have hy : y < 256 := by rw [Hy.out]; exact Nat.lt_of_le_of_lt (Nat.div_le_self _ _) hx
          obtain ⟨vD, hb1, hrow, hne⟩ := id HG.out
          have c1 := cell_of hb1 0 (by simp)
          simp at c1
          obtain ⟨nt, Hnt⟩ := hid_ex ((dgs D).take (8 * j + m)).length
          have hnt : nt ≤ 65536 := by rw [Hnt.out, List.length_take, dgs_len, HDN.out]; omega
          have hrow' := hrow
          rw [← Hnt.out] at hrow
          rcases Nat.mod_two_eq_zero_or_one y with h2 | h2
          · have j2 : (y : Int) % 2 = 0 := by omega
            have j3 : (y : Int).tmod 2 = 0 := by rw [Int.tmod_eq_emod_of_nonneg (by omega)]; exact j2
            have j4 : (y : Int).tdiv 2 = ((y / 2 : Nat) : Int) := by rw [Int.tdiv_eq_ediv_of_nonneg (by omega)]; omega
            have HBT : Hid (gb D (8 * j + m) = false) := by
              unfold Hid
              rw [HGB.out m hm8, Nat.testBit_eq_decide_div_mod_eq, ← Hy.out, h2]; rfl
            have HTK : Hid ((dgs D).take (8 * j + (m + 1)) = (dgs D).take (8 * j + m) ++ [false]) := by
              unfold Hid
              have hl : 8 * j + m < (dgs D).length := by rw [dgs_len, HDN.out]; omega
              rw [← Nat.add_assoc, List.take_add_one, List.getElem?_eq_getElem hl, dgs_at, HBT.out]; rfl
            clear HBT
            go_wp2_with (at_builtin; refine wpList_append_own _ rfl _ _ 51 rfl w.heap.size 4 i0 (.bool false) 1 1 Try.underlying51 hi hz0 hz1 hz2 rfl (by decide) vD _ _ rfl (hrow.alloc _) ⟨wr.heap.size, 0, none⟩ 1 1 [.bool false] rfl rfl (cell_one_new _ _ _) (by simp [Value.oneCell']) (by unfold maxLen; omega) (by omega) (by have := HB.out.size; simp; omega) ?_)
            intro v' w1 hown hgrow _
            rw [← List.map_take] at hown
            obtain ⟨⟨hc2, hf2⟩, hg2, hb2⟩ := RG.grow _ hb1 hne HB.out (Nat.le_refl _) hrow' Hnt.out hown hgrow HB.out.size
            obtain ⟨g', cap', rfl⟩ := ownsRow_succ hown
            have HG2 : Hid (RG (w1.setCell ⟨w.heap.size, 0, none⟩ (.slice (some ⟨g', 0, none⟩) (nt + 1) cap')) w.heap.size w.heap.size h ((dgs D).take (8 * j + (m + 1)))) := by rw [HTK.out]; exact hg2
            have HB2 : Hid (Below w.heap.size w (w1.setCell ⟨w.heap.size, 0, none⟩ (.slice (some ⟨g', 0, none⟩) (nt + 1) cap'))) := hb2
            have HY2 : Hid (y / 2 = x / 2 ^ (m + 1)) := by unfold Hid; rw [Hy.out, Nat.pow_succ, Nat.div_div_eq_div_mul]
            clear hown hgrow hg2 hb2 hrow' hb1 hne hrow
            go_wp2_with fail
            exact ⟨⟨m + 1, by omega, by go_num, by rw [← HY2.out]; go_num, HG2, HB2⟩, by simp [intOf]; omega⟩
          · have j2 : (y : Int) % 2 = 1 := by omega
            have j3 : (y : Int).tmod 2 = 1 := by rw [Int.tmod_eq_emod_of_nonneg (by omega)]; exact j2
            have j4 : (y : Int).tdiv 2 = ((y / 2 : Nat) : Int) := by rw [Int.tdiv_eq_ediv_of_nonneg (by omega)]; omega
            have HBT : Hid (gb D (8 * j + m) = true) := by
              unfold Hid
              rw [HGB.out m hm8, Nat.testBit_eq_decide_div_mod_eq, ← Hy.out, h2]; rfl
            have HTK : Hid ((dgs D).take (8 * j + (m + 1)) = (dgs D).take (8 * j + m) ++ [true]) := by
              unfold Hid
              have hl : 8 * j + m < (dgs D).length := by rw [dgs_len, HDN.out]; omega
              rw [← Nat.add_assoc, List.take_add_one, List.getElem?_eq_getElem hl, dgs_at, HBT.out]; rfl
            clear HBT
            go_wp2_with (at_builtin; refine wpList_append_own _ rfl _ _ 51 rfl w.heap.size 4 i0 (.bool false) 1 1 Try.underlying51 hi hz0 hz1 hz2 rfl (by decide) vD _ _ rfl (hrow.alloc _) ⟨wr.heap.size, 0, none⟩ 1 1 [.bool true] rfl rfl (cell_one_new _ _ _) (by simp [Value.oneCell']) (by unfold maxLen; omega) (by omega) (by have := HB.out.size; simp; omega) ?_)
            intro v' w1 hown hgrow _
            rw [← List.map_take] at hown
            obtain ⟨⟨hc2, hf2⟩, hg2, hb2⟩ := RG.grow _ hb1 hne HB.out (Nat.le_refl _) hrow' Hnt.out hown hgrow HB.out.size
            obtain ⟨g', cap', rfl⟩ := ownsRow_succ hown
            have HG2 : Hid (RG (w1.setCell ⟨w.heap.size, 0, none⟩ (.slice (some ⟨g', 0, none⟩) (nt + 1) cap')) w.heap.size w.heap.size h ((dgs D).take (8 * j + (m + 1)))) := by rw [HTK.out]; exact hg2
            have HB2 : Hid (Below w.heap.size w (w1.setCell ⟨w.heap.size, 0, none⟩ (.slice (some ⟨g', 0, none⟩) (nt + 1) cap'))) := hb2
            have HY2 : Hid (y / 2 = x / 2 ^ (m + 1)) := by unfold Hid; rw [Hy.out, Nat.pow_succ, Nat.div_div_eq_div_mul]
            clear hown hgrow hg2 hb2 hrow' hb1 hne hrow
            go_wp2_with fail
            exact ⟨⟨m + 1, by omega, by go_num, by rw [← HY2.out]; go_num, HG2, HB2⟩, by simp [intOf]; omega⟩
        · have hm9 : m = 8 := by omega
          subst hm9
          go_wp2_with fail
          go_roundw
          case rel => exact ⟨j + 1, by rw [HDN.out]; omega, by go_num, HG, HB⟩
          case measure => simp [intOf]; omega
    · have i5 : ¬ (j : Int) + 1 < (l.length : Int) := by omega
      have hje : 8 * j = (dgs D).length := by rw [dgs_len, HDN.out]; omega
      rw [hje, List.take_length] at HG
      obtain ⟨vD, hb1, hrow, hne⟩ := HG.out
      have HF : Hid (RF wr w.heap.size (.pointer (some ⟨w.heap.size, 0, none⟩)) h (dgs D)) := by
        rcases hrow.2 with ⟨rfl, hz⟩ | ⟨g, cp, cur, rfl, r⟩
        · rw [dgs_len, HDN.out] at hz; omega
        · exact ⟨w.heap.size, g, cp, rfl, Nat.le_refl _, hb1, hrow, by simpa [Value.ownBlock] using hne, h3, h4, by rw [dgs_len, HDN.out]; omega, by rw [dgs_len, HDN.out]; omega⟩
      clear hb1 hrow hne hje HG
      go_wp2_with fail
      go_ret2
      exact ⟨_, rfl, HF.out, HB.out⟩
end Go.Proofs.Ytgdjjpnejdedhaa
