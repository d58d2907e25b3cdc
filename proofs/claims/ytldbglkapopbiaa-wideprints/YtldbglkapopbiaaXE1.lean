/- The reference's decimal. -/
import Derived.Test.YtldbglkapopbiaaXM
import Derived.Test.YtldbglkapopbiaaDP
import Derived.Test.YtldbglkapopbiaaC0
namespace Go.Proofs.Ytldbglkapopbiaa
open Go.RowKit

theorem hid_exd {α : Type} (a : α) : ∃ x, Hid (x = a) := ⟨a, rfl⟩
/-- Bytes of one's own. -/
def OwnB (w : World) (base : Nat) (v : Value) (l : List UInt8) : Prop := w.ownsRow base 5 1 v l.length (l.map bc)
theorem OwnB.nil (w : World) (base : Nat) : OwnB w base (.slice none 0 0) [] := World.ownsRow_nil _ _ _ _
theorem OwnB.below {w w' : World} {base : Nat} {v : Value} {l : List UInt8} (h : OwnB w base v l) (hb : Below w.heap.size w w') : OwnB w' base v l := by
  have hlt := World.ownsRow.lt h
  obtain ⟨h1, h2⟩ := h
  refine ⟨h1, ?_⟩
  rcases h2 with h2 | ⟨g, cap, cur, hv, hg, hw, r⟩
  · exact .inl h2
  · exact .inr ⟨g, cap, cur, hv, hg, (hb.block g (hlt g (by rw [hv]; rfl)).2).trans hw, r⟩
theorem OwnB.form {w : World} {base : Nat} {v : Value} {l : List UInt8} (h : OwnB w base v l) : ∃ a cap, v = .slice a l.length cap := by
  obtain ⟨a, cap, e, _⟩ := (reads_own h).form
  exact ⟨a, cap, e⟩
/-- A byte, just laid, behind them. -/
theorem wpList_app1b {w0 : World} {ops : Array Oper} {rest : List Oper} {o : Oper} {a : Act} {Q : Exit → Act → World → Prop} {u : Value} {t : TypeId} (hgd : o.guard = none) (s x : Operand)
    (ho : o.op = .call { callee := .builtin .append, args := #[s, x], argTypes := #[36, 36] })
    (base : Nat) (v : Value) (L : List UInt8) (y : UInt8) (M : List UInt8) (hM : M = L ++ [y]) (hu : u = bc y) (hs : a.eval s = v) (hx : a.eval x = .slice (some ⟨w0.heap.size, 0, none⟩) 1 1) (hown : OwnB w0 base v L)
    (hlen : L.length + 1 ≤ 1000) (hbase : base ≤ w0.heap.size)
    (h : ∀ v' w', OwnB w' base v' M → Hid (Below base w0 w') → wpList Try.prog ops Q rest (a.put o.dst v') w') : wpList Try.prog ops Q (o :: rest) a (w0.alloc (.cells #[u] t)) := by
  subst hu hM
  obtain ⟨i0, hi, hz0, hz1, hz2⟩ := info_parts info5
  refine wpList_append_own _ hgd s x 36 ho base 5 i0 (.int .u8 0) 1 1 Try.underlying36 hi hz0 hz1 hz2 rfl (by decide) v L.length (L.map bc) hs (World.ownsRow.alloc hown _) ⟨w0.heap.size, 0, none⟩ 1 1 [bc y] hx (by simp) ?_ (fun u hu => by simp at hu; subst hu; rfl) (by simp [maxLen]; omega) (by omega) (by simp; omega) ?_
  · intro j u hj
    match j, hj with
    | 0, hj => simp at hj; subst hj; simp [Addr.add]
  · intro v' w' hown' hgrow _
    refine h v' w' ?_ (((Below.refl _ _).alloc hbase _).trans ((Below.refl _ _).grown hgrow (by simp; omega) (fun k hk => (World.ownsRow.lt hown k hk).1)))
    unfold OwnB; rw [List.length_append, List.map_append]; exact hown'
theorem OwnB.at {w : World} {base g n cap : Nat} {l : List UInt8} (h : OwnB w base (.slice (some ⟨g, 0, none⟩) n cap) l) (j : Nat) (hj : j < l.length) : w.cell? ⟨g, j, none⟩ = some (bc l[j]) := by
  have hn : n = l.length := by
    obtain ⟨a, c, hv⟩ := h.form
    simp at hv; exact hv.2.1
  subst hn
  rw [World.ownsRow.cellAt h j (by simpa using hj)]
  simp [hj]
theorem DArr.bel2 {w w' : World} {n b : Nat} {f : Nat → Int} (h : DArr w b f) (hb : Below n w w') (hn : b < n) : DArr w' b f := by
  have := hb.size
  exact ⟨by have := h.1; omega, fun j hj => (hb.cell (p := ⟨b, j, none⟩) hn).trans (h.2.1 j hj), fun j => (hb.frozen (p := ⟨b, j, none⟩) hn).trans (h.2.2 j)⟩
/-- The digits, the last one first. -/
def bkU (n k : Nat) : List UInt8 := (List.range k).map fun i => UInt8.ofNat (48 + n / 10 ^ i % 10)
theorem bkU_len (n k : Nat) : (bkU n k).length = k := by simp [bkU]
theorem bkU_succ (n k : Nat) : bkU n (k + 1) = bkU n k ++ [UInt8.ofNat (48 + n / 10 ^ k % 10)] := by simp [bkU, List.range_succ]
theorem decs_bkU (n k m : Nat) (hm : m < k) : (decs n k).take (m + 1) = (decs n k).take m ++ [(bkU n k)[k - 1 - m]'(by rw [bkU_len]; omega)] := by
  rw [List.take_succ_eq_append_getElem (by rw [decs_len]; exact hm)]
  congr 2
  simp [decs, bkU]
theorem dgt_bc (q : Int) (h : 0 ≤ q) (d : Nat) (hd : q = (d : Int)) : Value.int .u8 (48 + q % 10) = bc (UInt8.ofNat (48 + d % 10)) := by
  unfold bc
  rw [dig_toNat _ (by omega)]
  subst hd
  congr 1
def lenV : Value → Nat
  | .slice _ n _ => n
  | _ => 0
/-- A place's digit, and what is left: one step of the division by ten. -/
theorem ten_step (q : Int) (m : Nat) (hm : m < 16) : (256 * (q / 256 ^ (m + 1) % 10) + dF q m) / 10 = dF (q / 10) m ∧ (256 * (q / 256 ^ (m + 1) % 10) + dF q m) % 10 = q / 256 ^ m % 10 ∧ 0 ≤ 256 * (q / 256 ^ (m + 1) % 10) + dF q m ∧ 256 * (q / 256 ^ (m + 1) % 10) + dF q m ≤ 2559 := by
  have e1 := dF_div q m hm
  have e2 := dF_div (q / 10) m hm
  have e3 : q / 10 / 256 ^ m = q / 256 ^ m / 10 := by
    rw [Int.ediv_ediv_of_nonneg (by omega), Int.mul_comm, ← Int.ediv_ediv_of_nonneg (Int.le_of_lt (Int.pow_pos (by omega)))]
  have e4 := pow256 q m
  rw [e1, e2, e3, e4]
  generalize q / 256 ^ m = A
  omega
theorem more_step (q : Int) (m : Nat) (hm : m < 16) (hq : 0 ≤ q) : decide (0 < q / 10 / 256 ^ m) = (decide (0 < q / 10 / 256 ^ (m + 1)) || decide (0 < dF (q / 10) m)) := by
  rw [dF_div _ m hm, pow256]
  have h0 : 0 ≤ q / 10 / 256 ^ m := Int.ediv_nonneg (by omega) (Int.le_of_lt (Int.pow_pos (by omega)))
  generalize q / 10 / 256 ^ m = A at *
  by_cases h1 : 0 < A / 256
  · simp [h1]; omega
  · have : A / 256 = 0 := by omega
    by_cases h2 : 0 < A
    · have h3 : 0 < A % 256 := by omega
      simp [h2, h3]
    · have h3 : ¬ 0 < A % 256 := by omega
      simp [h1, h2, h3]
theorem top16 (q : Int) (h0 : 0 ≤ q) (h1 : q < 340282366920938463463374607431768211456) : q / 256 ^ 16 % 10 = 0 ∧ decide (0 < q / 10 / 256 ^ 16) = false := by
  have e1 : q / 256 ^ 16 = 0 := by omega
  have e2 : q / 10 / 256 ^ 16 = 0 := by omega
  rw [e1, e2]; decide
set_option maxRecDepth 100000 in
set_option maxHeartbeats 4000000 in
theorem decimal_any (n : Nat) (hn : n < 340282366920938463463374607431768211456) (w : World) :
    Calls Try.prog 34 #[dv (n : Int)] w fun e w' => e = .returned (.string ⟨(decs n (dl n)).toArray⟩) ∧ Below w.heap.size w w' := by
  have ev : dv (n : Int) = .agg #[.int .i64 (dF n 0), .int .i64 (dF n 1), .int .i64 (dF n 2), .int .i64 (dF n 3), .int .i64 (dF n 4), .int .i64 (dF n 5), .int .i64 (dF n 6), .int .i64 (dF n 7), .int .i64 (dF n 8), .int .i64 (dF n 9), .int .i64 (dF n 10), .int .i64 (dF n 11), .int .i64 (dF n 12), .int .i64 (dF n 13), .int .i64 (dF n 14), .int .i64 (dF n 15)] := rfl
  rw [ev]
  clear ev
  have HD : Hid (∀ t, DArr (w.alloc (.cells #[.int .i64 (dF n 0), .int .i64 (dF n 1), .int .i64 (dF n 2), .int .i64 (dF n 3), .int .i64 (dF n 4), .int .i64 (dF n 5), .int .i64 (dF n 6), .int .i64 (dF n 7), .int .i64 (dF n 8), .int .i64 (dF n 9), .int .i64 (dF n 10), .int .i64 (dF n 11), .int .i64 (dF n 12), .int .i64 (dF n 13), .int .i64 (dF n 14), .int .i64 (dF n 15)] t)) w.heap.size (dF n)) := fun t => DArr.new w (dF n) t
  go_enter Try.func34, Try.ntmps34
  go_wp2_with fail
  go_loopw [3, 4] (fun v mo wr => ∃ k : Nat, k ≤ 39 ∧ (∃ c : Bool, mo = .bool c ∧ Hid (c = decide (k = 0 ∨ 0 < n / 10 ^ k))) ∧ Hid (0 < k → n / 10 ^ (k - 1) ≠ 0 ∨ k = 1) ∧ Hid (OwnB wr (w.heap.size + 1) v (bkU n k)) ∧ Hid (DArr wr w.heap.size (dF ((n / 10 ^ k : Nat) : Int))) ∧ Hid (Below w.heap.size w wr)) (fun v _ _ => 40 - lenV v)
  case atStart =>
    refine ⟨0, by omega, ⟨true, rfl, by unfold Hid; simp⟩, fun h => by omega, OwnB.nil _ _, ?_, (Below.refl _ _).alloc (Nat.le_refl _) _⟩
    have e : dF ((n / 10 ^ 0 : Nat) : Int) = dF n := by simp
    unfold Hid
    rw [e]
    exact HD.out _
  case round =>
    clear HD
    obtain ⟨k, hk, ⟨c, rfl, HC⟩, HK, HO, HA, HB⟩ := hrel
    obtain ⟨q, Hq⟩ := hid_exd ((n / 10 ^ k : Nat) : Int)
    rw [← Hq.out] at HA
    have hq0 : 0 ≤ q := by rw [Hq.out]; exact Int.natCast_nonneg _
    have hq1 : q < 340282366920938463463374607431768211456 := by rw [Hq.out]; have := Nat.div_le_self n (10 ^ k); omega
    have hzr := HA.out.1
    cases c with
    | true =>
      obtain ⟨av, cv, rfl⟩ := HO.out.form
      obtain ⟨ht1, ht2⟩ := top16 q hq0 hq1
      go_wp2_with fail
      go_loopw [4, 5, 6] (fun mo re i wy => ∃ m : Nat, m ≤ 16 ∧ i = .int .i64 ((m : Int) - 1) ∧ re = .int .i64 (q / 256 ^ m % 10) ∧ mo = .bool (decide (0 < q / 10 / 256 ^ m)) ∧ Hid (DArr wy w.heap.size (fun j => if j < m then dF q j else dF (q / 10) j)) ∧ Hid (OwnB wy (w.heap.size + 1) (.slice av (bkU n k).length cv) (bkU n k)) ∧ Hid (Below w.heap.size w wy)) (fun _ _ i _ => (intOf i + 1).toNat)
      case atStart => exact ⟨16, by omega, rfl, by rw [ht1], by rw [ht2], HA.out.congr (fun j hj => by rw [if_pos hj]), HO.out, HB.out⟩
      case round =>
        clear ht1 ht2 HA HO HB hzr
        obtain ⟨m, hm, rfl, rfl, rfl, HA, HO, HB⟩ := hrel
        by_cases hm0 : 0 < m
        · obtain ⟨p, rfl⟩ : ∃ p, m = p + 1 := ⟨m - 1, by omega⟩
          obtain ⟨s1, s2, s3, s4⟩ := ten_step q p (by omega)
          have hmo := more_step q p (by omega) hq0
          have c1 : wr.cell? ⟨w.heap.size, p, none⟩ = some (.int .i64 (dF q p)) := (HA.out.2.1 p (by omega)).trans (by show some (Value.int .i64 (if p < p + 1 then _ else _)) = _; rw [if_pos (by omega)])
          have f1 := HA.out.2.2 p
          have hzz := HA.out.1
          have hsz := HB.out.size
          have e1 : ((p + 1 : Nat) : Int) - 1 = (p : Int) := by omega
          rw [e1]
          have k0 : (0 : Int) ≤ (p : Int) := by omega
          have k16 : (p : Int) < 16 := by omega
          have bd := dF_bds q p
          have br : 0 ≤ q / 256 ^ (p + 1) % 10 ∧ q / 256 ^ (p + 1) % 10 ≤ 9 := by omega
          have HD2 : Hid (DArr (wr.setCell ⟨w.heap.size, p, none⟩ (.int .i64 ((256 * (q / 256 ^ (p + 1) % 10) + dF q p) / 10))) w.heap.size (fun j => if j < p then dF q j else dF (q / 10) j)) := (HA.out.set p (by omega) _).congr (fun j hj => by
            by_cases e : j = p
            · subst e; rw [if_pos rfl, if_neg (by omega), s1]
            · rw [if_neg e]
              by_cases e2 : j < p
              · rw [if_pos e2, if_pos (by omega)]
              · rw [if_neg e2, if_neg (by omega)])
          have HB2 : Hid (Below w.heap.size w (wr.setCell ⟨w.heap.size, p, none⟩ (.int .i64 ((256 * (q / 256 ^ (p + 1) % 10) + dF q p) / 10)))) := HB.out.setCell (p := ⟨w.heap.size, _, none⟩) (Nat.le_refl _) _
          have HO2 : Hid (OwnB (wr.setCell ⟨w.heap.size, p, none⟩ (.int .i64 ((256 * (q / 256 ^ (p + 1) % 10) + dF q p) / 10))) (w.heap.size + 1) (.slice av (bkU n k).length cv) (bkU n k)) := by
            have ho := HO.out
            obtain ⟨h1, h2⟩ := ho
            refine ⟨h1, ?_⟩
            rcases h2 with h2 | ⟨g, cap, cur, hv, hg, hw, r⟩
            · exact .inl h2
            · exact .inr ⟨g, cap, cur, hv, hg, (Below.heap_setCell _ _ _ _ (by simp; omega)).trans hw, r⟩
          obtain ⟨M1, hM1⟩ : ∃ M1, Hid (M1 = q / 256 ^ (p + 1) % 10) := ⟨_, rfl⟩
          obtain ⟨D0, hD0⟩ : ∃ D0, Hid (D0 = dF q p) := ⟨_, rfl⟩
          obtain ⟨B1, hB1⟩ : ∃ B1, Hid (B1 = decide (0 < q / 10 / 256 ^ (p + 1))) := ⟨_, rfl⟩
          rw [← hM1.out, ← hD0.out] at s1 s2 s3 s4 HD2 HB2 HO2
          rw [← hB1.out, ← s1] at hmo
          rw [← hD0.out] at c1 bd
          rw [← hM1.out] at br ⊢
          rw [← hB1.out]
          have HMO := (show Hid _ from hmo)
          have HS2 := (show Hid _ from s2)
          clear hmo hm hm0 hsz s1 s2
          cases B1 with
          | true =>
            go_wp2_with fail
            go_roundw
            case rel => exact ⟨p, by omega, rfl, congrArg (Value.int .i64) HS2.out, congrArg Value.bool (by rw [HMO.out]; simp), HD2.out, HO2.out, HB2.out⟩
            case measure => simp [intOf]
          | false =>
            go_wp2_with fail
            go_roundw
            case rel => exact ⟨p, by omega, rfl, congrArg (Value.int .i64) HS2.out, congrArg Value.bool (by rw [HMO.out]; simp), HD2.out, HO2.out, HB2.out⟩
            case measure => simp [intOf]
        · have hm1 : m = 0 := by omega
          subst hm1
          have HA0 : Hid (DArr wr w.heap.size (dF (q / 10))) := HA.out.congr (fun j hj => by rw [if_neg (by omega)])
          have e2 : ((0 : Nat) : Int) - 1 = -1 := by omega
          rw [e2]
          have e3 : q / 256 ^ 0 % 10 = q % 10 := by simp
          have e4 : q / 10 / 256 ^ 0 = q / 10 := by simp
          rw [e3, e4]
          have hr : 0 ≤ q % 10 ∧ q % 10 ≤ 9 := by omega
          have hr1 : IntKind.u8.wrap (48 + q % 10) = 48 + q % 10 := by rw [IntKind.wrap_u8]; omega
          have HL : Hid ((bkU n k).length + 1 ≤ 1000) := by unfold Hid; rw [bkU_len]; omega
          obtain ⟨L, HLe⟩ := hid_exd (bkU n k)
          rw [← HLe.out] at HO HL ⊢
          have HV : Hid (Value.int .u8 (48 + q % 10) = bc (UInt8.ofNat (48 + n / 10 ^ k % 10))) := dgt_bc q hq0 _ Hq.out
          obtain ⟨R, HRe⟩ := hid_exd (q % 10)
          rw [← HRe.out] at hr hr1 HV ⊢
          obtain ⟨C, HCe⟩ := hid_exd (decide (0 < q / 10))
          rw [← HCe.out]
          have hsz := HB.out.size
          have hzr := HA0.out.1
          clear e2 e3 e4 HA hm
          go_wp2_with (at_builtin; refine wpList_app1b rfl _ _ rfl (w.heap.size + 1) _ L _ (L ++ [UInt8.ofNat (48 + n / 10 ^ k % 10)]) rfl HV.out rfl rfl HO.out HL.out (by omega) ?_; intro v' w2 hown' hb')
          have hk1 : k ≤ 38 := by
            have h1 := of_decide_eq_true HC.out.symm
            rcases h1 with h1 | h1
            · omega
            · rcases Nat.lt_or_ge 38 k with h2 | h2
              · have h3 : 10 ^ 39 ≤ 10 ^ k := Nat.pow_le_pow_right (by omega) (by omega)
                have h4 : n / 10 ^ k = 0 := Nat.div_eq_of_lt (by omega)
                omega
              · exact h2
          have hkk : n / 10 ^ (k + 1) = n / 10 ^ k / 10 := by rw [Nat.pow_succ, Nat.div_div_eq_div_mul]
          have hq10 : q / 10 = ((n / 10 ^ (k + 1) : Nat) : Int) := by rw [hkk, Hq.out]; omega
          have hcc : C = decide (k + 1 = 0 ∨ 0 < n / 10 ^ (k + 1)) := by
            rw [HCe.out, hq10, decide_eq_decide]
            generalize n / 10 ^ (k + 1) = z
            omega
          have hkp : k = 0 ∨ n / 10 ^ k ≠ 0 := by
            have h1 := of_decide_eq_true HC.out.symm
            generalize n / 10 ^ k = z at *
            omega
          obtain ⟨a2, c2, e2⟩ := hown'.form
          have hl2 : (L ++ [UInt8.ofNat (48 + n / 10 ^ k % 10)]).length = k + 1 := by rw [List.length_append, HLe.out, bkU_len]; rfl
          have hll : (bkU n k).length = k := bkU_len n k
          go_roundw
          case rel =>
            refine ⟨k + 1, by omega, ⟨C, rfl, hcc⟩, fun _ => ?_, ?_, ?_, HB.out.trans (hb'.out.mono (by omega))⟩
            · rw [Nat.add_sub_cancel]
              rcases hkp with h | h
              · right; omega
              · left; exact h
            · unfold Hid; rw [bkU_succ, ← HLe.out]; exact hown'
            · unfold Hid; rw [← hq10]; exact DArr.bel2 HA0.out hb'.out (by omega)
          case measure =>
            rw [e2, hl2, hll]
            simp only [lenV]
            omega
    | false =>
      have hkp : k ≠ 0 ∧ n / 10 ^ k = 0 := by
        have h2 := of_decide_eq_false HC.out.symm
        generalize n / 10 ^ k = z at *
        omega
      have hlen : IsLen n k := ⟨by omega, hkp.2, by rcases HK.out (by omega) with h | h; exact .inr h; exact .inl h⟩
      have HE : Hid (dl n = k) := isLen_uni (dl_is n) hlen
      obtain ⟨av, cv, rfl⟩ := HO.out.form
      obtain ⟨g, hg, rfl⟩ : ∃ g, w.heap.size + 1 ≤ g ∧ av = some ⟨g, 0, none⟩ := by
        rcases HO.out.2 with ⟨h1, h2⟩ | ⟨g, cap, cur, hv, hg, _⟩
        · rw [bkU_len] at h2; omega
        · simp at hv; exact ⟨g, hg, hv.1⟩
      have HBk : Hid (∀ j (h : j < k), wr.cell? ⟨g, j, none⟩ = some (bc ((bkU n k)[j]'(by rw [bkU_len]; exact h)))) := fun j h => HO.out.at j (by rw [bkU_len]; exact h)
      have hgw : g < wr.heap.size := (World.ownsRow.lt HO.out g rfl).2
      have hll : (bkU n k).length = k := bkU_len n k
      rw [hll]
      have hk1 : 1 ≤ k := by omega
      have hb1 : ((k : Int) - 1) ≤ 38 := by omega
      clear hlen HK HO HA hq0 hq1 Hq hzr HC hkp hll
      obtain ⟨w3, rfl⟩ : ∃ w3, w3 = wr := ⟨_, rfl⟩
      go_wp2_with fail
      go_loopw [8, 9] (fun v i wy => ∃ m : Nat, m ≤ k ∧ i = .int .i64 ((k : Int) - 1 - (m : Int)) ∧ Hid (OwnB wy w3.heap.size v ((decs n k).take m)) ∧ Hid (Below w3.heap.size w3 wy)) (fun _ i _ => (intOf i + 1).toNat)
      case atStart => exact ⟨0, by omega, by simp, OwnB.nil _ _, Below.refl _ _⟩
      case round =>
        obtain ⟨m, hm, rfl, HO, HBy⟩ := hrel
        by_cases hlt : m < k
        · obtain ⟨j, hj⟩ : ∃ j : Nat, (k : Int) - 1 - (m : Int) = (j : Int) := ⟨k - 1 - m, by omega⟩
          have hjk : j < k := by omega
          have ejm : j = k - 1 - m := by omega
          obtain ⟨y, Hy⟩ := hid_exd ((bkU n k)[j]'(by rw [bkU_len]; exact hjk))
          have c1 : wr.cell? ⟨g, j, none⟩ = some (bc y) := by
            rw [Hy.out]; exact (HBy.out.cell (p := ⟨g, j, none⟩) hgw).trans (HBk.out j hjk)
          have HS : Hid ((decs n k).take (m + 1) = (decs n k).take m ++ [y]) := by
            unfold Hid
            rw [decs_bkU n k m hlt, Hy.out]
            subst ejm
            rfl
          have HLn : Hid (((decs n k).take m).length + 1 ≤ 1000) := by unfold Hid; rw [List.length_take, decs_len]; omega
          obtain ⟨T, HT⟩ := hid_exd ((decs n k).take m)
          rw [← HT.out] at HO HS HLn
          rw [hj]
          have hjb : (j : Int) ≤ 38 := by omega
          obtain ⟨a2, c2, rfl⟩ := HO.out.form
          have hzs := HBy.out.size
          have HJ := (show Hid _ from hj)
          unfold bc at c1
          clear hj ejm Hy
          go_wp2_with (at_builtin; refine wpList_app1b rfl _ _ rfl w3.heap.size _ T y (T ++ [y]) rfl rfl rfl rfl HO.out HLn.out (by omega) ?_; intro v' w2 hown' hb'; clear c1)
          go_roundw
          case rel =>
            have := HJ.out
            refine ⟨m + 1, by omega, congrArg (Value.int .i64) (by omega), ?_, HBy.out.trans hb'.out⟩
            unfold Hid
            rw [HS.out]; exact hown'
          case measure => simp [intOf]
        · have hme : m = k := by omega
          subst hme
          have e2 : (m : Int) - 1 - (m : Int) = -1 := by omega
          rw [e2]
          have HT : Hid ((decs n m).take m = decs n m) := List.take_of_length_le (by rw [decs_len]; omega)
          rw [HT.out] at HO
          have htx := reads_text (reads_own HO.out)
          obtain ⟨a2, c2, rfl⟩ := HO.out.form
          clear HBk hgw hg HT e2
          go_wp2_with fail
          go_ret
          exact ⟨by rw [HE.out]; rfl, HB.out.trans (HBy.out.mono HB.out.size)⟩
end Go.Proofs.Ytldbglkapopbiaa
