/- K3 K5 K7 K6 K8, joined. -/
import Derived.Test.YtoenijflijfogaaGreatRC12
import Derived.Test.YtoenijflijfogaaGreatRC14
import Derived.Deep.QuietTactic
import Derived.BigQuiet
import Derived.Laws.BitsAllLaws
/- The contract of key.Write. -/
namespace Go.Proofs.YtoenijflijfogaaGreat
open Go.RowKit

/-- A key's bytes. -/
def kb (L : List ByteArray) (f g : Int) : List UInt8 := (jn L ++ nb f) ++ [UInt8.ofNat g.toNat]
theorem kbox {w w' : World} {x y z : Value} {t : TypeId} (h : Below (w.heap.size + 1) (w.alloc (.cells #[x, y, z] t)) w') : w'.cell? ⟨w.heap.size, 0, none⟩ = some x ∧ w'.cell? ⟨w.heap.size, 1, none⟩ = some y ∧ w'.cell? ⟨w.heap.size, 2, none⟩ = some z := by
  refine ⟨(h.cell (p := ⟨w.heap.size, 0, none⟩) (by simp)).trans (by simp), (h.cell (p := ⟨w.heap.size, 1, none⟩) (by simp)).trans (by simp), (h.cell (p := ⟨w.heap.size, 2, none⟩) (by simp)).trans (by simp)⟩
theorem KLies.in {k : Ky} {w w' : World} {n : Nat} (h : KLies k w) (hn : w.heap.size ≤ n) (hb : Below n w w') : KLies k w' := h.below (hb.mono hn)
theorem box_below {w w' : World} {o : Obj} (h : Below (w.heap.size + 1) (w.alloc o) w') : Below w.heap.size w w' := ((Below.refl _ _).alloc (Nat.le_refl _) o).trans (h.mono (by omega))
set_option maxRecDepth 100000 in
set_option maxHeartbeats 1000000 in
theorem write_yes (k : Ky) (hn : rightBK k.L k.f k.g = true) (w : World) (h : KLies k w) :
    Calls Tryz.prog 82 #[k.val] w fun e w' => ∃ v, e = .returned (.tuple #[v, .int .i64 0]) ∧ Own w' w.heap.size v (kb k.L k.f k.g) ∧ Below w.heap.size w w' := by
  have HB0 : Hid (Below w.heap.size w (w.alloc (.cells #[k.v, .int .i64 k.f, .int .i64 k.g] 70))) := (Below.refl _ _).alloc (Nat.le_refl _) _
  have HK0 := h.below HB0.out
  obtain ⟨a, cap, hv, _⟩ := h.r.form
  obtain ⟨v, L, f, g⟩ := k
  simp only at hv
  subst hv
  unfold Ky.val
  obtain ⟨HR0, f1, f2, g1, g2⟩ := h
  simp only at HB0 HK0 hn HR0 f1 f2 g1 g2 ⊢
  have HRT : Hid (rightBK L f g = true) := hn
  have HM : Hid (mayB L = true) := by
    have := hn
    unfold rightBK at this
    exact (Bool.and_eq_true_iff.1 this).1
  have hfg : 0 ≤ f ∧ f ≤ 1099511627776 ∧ 0 ≤ g ∧ g ≤ 3 := by
    have := hn
    unfold rightBK at this
    exact of_decide_eq_true (Bool.and_eq_true_iff.1 this).2
  obtain ⟨q1, q2, q3, q4⟩ := hfg
  have HRW : Hid (SReads w (.slice a L.length cap) L) := HR0
  have hjl : (jn L).length ≤ 141 := by
    obtain ⟨m1, m2⟩ := mayB_iff.1 HM.out
    have := jb_len L m2
    unfold jn; simp; omega
  clear HR0
  go_enter Tryz.func82, Tryz.ntmps82
  go_wp2_with fail
  refine (right_anyK ⟨.slice a L.length cap, L, f, g⟩ _ HK0).mono ?_
  rw [hn]
  rintro e w1 ⟨rfl, hb1⟩
  have HX1 : Hid (Below (w.heap.size + 1) (w.alloc (.cells #[.slice a L.length cap, .int .i64 f, .int .i64 g] 70)) w1) := hb1.mono (by simp)
  clear hb1 HK0 hn HB0
  go_wp2_with fail
  refine wp_region_noPanic ?_
  refine wp_region_held_drew (S := (fun w' => Below (w.heap.size + 1) (w.alloc (.cells #[.slice a L.length cap, .int .i64 f, .int .i64 g] 70)) w')) (by kernel_rfl) ?_ (fun hHeld => ?_)
  · exact HX1.out.drew
  refine wpAnyH_take (i := 0) (v := .pointer (some ⟨w.heap.size, 0, none⟩)) rfl (by kernel_rfl) (by kernel_rfl) (by kernel_rfl) (fun _ _ _ h => h) (Or.inl ⟨by rfl, ?_⟩) (by assumption) ?_
  · (intro w1 hSw; (try dsimp only at hSw); go_simp)
  simp only [List.getElem_toArray, List.getElem_cons_zero, Act.put, List.setIfInBounds_toArray, List.set_cons_zero, List.set_cons_succ]
  refine wpAnyH_take (i := 1) (v := .slice a L.length cap) rfl (by kernel_rfl) (by kernel_rfl) (by kernel_rfl) (fun _ _ _ h => h) (Or.inl ⟨by rfl, ?_⟩) (by assumption) ?_
  · (intro w1 hSw; (try dsimp only at hSw); obtain ⟨c0, c1, c2⟩ := kbox hSw; go_simp)
  simp only [List.getElem_toArray, List.getElem_cons_succ, List.getElem_cons_zero, Act.put, List.setIfInBounds_toArray, List.set_cons_zero, List.set_cons_succ]
  refine wpAnyH_take (i := 3) (v := .pointer (some ⟨w.heap.size, 1, none⟩)) rfl (by kernel_rfl) (by kernel_rfl) (by kernel_rfl) (fun _ _ _ h => h) (Or.inl ⟨by rfl, ?_⟩) (by assumption) ?_
  · (intro w1 hSw; (try dsimp only at hSw); go_simp)
  simp only [List.getElem_toArray, List.getElem_cons_succ, List.getElem_cons_zero, Act.put, List.setIfInBounds_toArray, List.set_cons_zero, List.set_cons_succ]
  refine wpAnyH_take (i := 4) (v := .int .i64 f) rfl (by kernel_rfl) (by kernel_rfl) (by kernel_rfl) (fun _ _ _ h => h) (Or.inl ⟨by rfl, ?_⟩) (by assumption) ?_
  · (intro w1 hSw; (try dsimp only at hSw); obtain ⟨c0, c1, c2⟩ := kbox hSw; go_simp)
  simp only [List.getElem_toArray, List.getElem_cons_succ, List.getElem_cons_zero, Act.put, List.setIfInBounds_toArray, List.set_cons_zero, List.set_cons_succ]
  refine wpAnyH_ready (rs := [2]) (by kernel_rfl) (by simp) ?_
  refine AllReadyH.cons (o := _) rfl (fun K hK => ?_) AllReadyH.nil
  go_simp
  refine (joined_any _ L HM.out _ (HRW.out.below (box_below hHeld))).mono ?_
  rintro e w2 ⟨v2, rfl, HO2, b2⟩
  go_wp2_with fail
  refine hK.out _ _ ?_ (fun hHeld => ?_)
  · exact hHeld.trans (b2.mono (by have := hHeld.size; simp at this; exact this))
  clear hK K
  have HO2' : Own w2 (w.heap.size + 1) v2 (jn L) := HO2.mono (by have := HX1.out.size; simp at this ⊢; omega)
  clear HO2 b2
  refine wpAnyH_ready (rs := [5]) (by kernel_rfl) (by simp) ?_
  refine AllReadyH.cons (o := _) rfl (fun K hK => ?_) AllReadyH.nil
  go_simp
  refine (number_any f f1 f2 _).mono ?_
  rintro e w3 ⟨v3, rfl, o3, b3⟩
  go_wp2_with fail
  refine hK.out _ _ ?_ (fun hHeld => ?_)
  · exact hHeld.trans (b3.mono (by have := hHeld.size; simp at this; exact this))
  clear hK K
  have HO3 : Own w3 (w.heap.size + 1) v2 (jn L) := HO2'.below b3
  have HR3 : Reads w3 v3 (nb f) := reads_own o3
  clear o3 b3 HO2'
  obtain ⟨M1, HM1⟩ := hid_ex (jn L ++ nb f)
  have HS3 : Hid (w.heap.size + 1 ≤ w3.heap.size) := by have := hHeld.size; unfold Hid; simpa using this
  refine wpAnyH_ready (rs := [6]) (by kernel_rfl) (by simp) ?_
  refine AllReadyH.cons (o := _) rfl (fun K hK => ?_) AllReadyH.nil
  refine wp_app _ _ (by rfl) (w.heap.size + 1) v2 v3 (jn L) (nb f) M1 HM1.out (by rfl) (by rfl) HO3 HR3 (by rw [nb_len]; omega) HS3.out ?_
  intro v4 w4 HO4 HB4
  simp only [List.getElem_toArray, List.getElem_cons_succ, List.getElem_cons_zero, Act.put, List.setIfInBounds_toArray, List.set_cons_zero, List.set_cons_succ]
  refine hK.out _ _ ?_ (fun hHeld => ?_)
  · exact hHeld.trans HB4.out
  clear hK K
  clear HB4 HO3 HR3 HS3
  refine wpAnyH_take (i := 7) (v := v4) rfl (by kernel_rfl) (by kernel_rfl) (by kernel_rfl) (fun _ _ _ h => h) (Or.inl ⟨by rfl, ?_⟩) (by assumption) ?_
  · (intro w1 hSw; (try dsimp only at hSw); go_simp)
  simp only [List.getElem_toArray, List.getElem_cons_succ, List.getElem_cons_zero, Act.put, List.setIfInBounds_toArray, List.set_cons_zero, List.set_cons_succ]
  refine wpAnyH_done (by kernel_rfl) ?_ _
  refine NoPanic.normal ?_
  have HX4 : Hid (Below (w.heap.size + 1) (w.alloc (.cells #[.slice a L.length cap, .int .i64 f, .int .i64 g] 70)) w4) := hHeld
  obtain ⟨c0, c1, c2⟩ := kbox hHeld
  have hsz4 : w.heap.size + 1 ≤ w4.heap.size := by have := hHeld.size; simpa using this
  clear hHeld
  have HU : Hid (Value.int .u8 g = bc (UInt8.ofNat g.toNat)) := by
    unfold Hid bc
    rw [UInt8.toNat_ofNat', show ((g.toNat % 2 ^ 8 : Nat) : Int) = g by omega]
  obtain ⟨M2, HM2⟩ := hid_ex (M1 ++ [UInt8.ofNat g.toNat])
  have HE : Hid (M2 = kb L f g) := by rw [HM2.out, HM1.out]; rfl
  have hm1 : M1.length ≤ 149 := by rw [HM1.out, List.length_append, nb_len]; omega
  go_wp2_with (at_builtin; refine wpList_app1 rfl _ _ rfl (w.heap.size + 1) _ M1 (UInt8.ofNat g.toNat) M2 HM2.out HU.out rfl rfl HO4 (by omega) hsz4 ?_)
  intro v5 w5 HO5 hb5
  have HB5 : Hid (Below w.heap.size w w5) := box_below (HX4.out.trans hb5.out)
  clear hb5 HO4 c0 c1 c2 HX4 HU
  go_wp2_with fail
  go_ret2
  exact ⟨_, rfl, by rw [← HE.out]; exact HO5.mono (by omega), HB5.out⟩
end Go.Proofs.YtoenijflijfogaaGreat

/- The contract of key.Less. -/
namespace Go.Proofs.YtoenijflijfogaaGreat
open Go.RowKit

theorem box2_below {w w' : World} {o o' : Obj} (h : Below (w.heap.size + 2) ((w.alloc o).alloc o') w') : Below w.heap.size w w' := (((Below.refl _ _).alloc (Nat.le_refl _) o).alloc (by simp) o').trans (h.mono (by omega))
end Go.Proofs.YtoenijflijfogaaGreat

/- The contracts of the statements' own 'long', and of the reference's Order and Same. -/
namespace Go.Proofs.YtoenijflijfogaaGreat
open Go.RowKit

set_option maxRecDepth 100000 in
set_option maxHeartbeats 1000000 in
theorem order_anyK (va vb : Value) (A B : List ByteArray) (w : World) (ha : SReads w va A) (hb : SReads w vb B) :
    Calls Tryz.prog 18 #[va, vb] w fun e w' => e = .returned (.int .i64 (cmpL A B)) ∧ Below w.heap.size w w' := by
  obtain ⟨aa, ca, rfl, hma⟩ := ha.form
  obtain ⟨ab, cb, rfl, hmb⟩ := hb.form
  unfold maxLen at hma hmb
  have HA : Hid (SReads w (.slice aa A.length ca) A) := ha
  have HB : Hid (SReads w (.slice ab B.length cb) B) := hb
  clear ha hb
  go_enter Tryz.func18, Tryz.ntmps18
  go_wp2_with fail
  go_loopw [5] (fun i wr => ∃ k : Nat, k ≤ A.length ∧ k ≤ B.length ∧ i = .int .i64 k ∧ Hid (cmpL A B = cmpL (A.drop k) (B.drop k)) ∧ Hid (Below w.heap.size w wr)) (fun i _ => A.length - (intOf i).toNat)
  case atStart => exact ⟨0, Nat.zero_le _, Nat.zero_le _, rfl, rfl, Below.refl _ _⟩
  case round =>
    obtain ⟨k, hk1, hk2, rfl, HK, HBW⟩ := hrel
    by_cases hlt : k < A.length ∧ k < B.length
    · obtain ⟨hl1, hl2⟩ := hlt
      obtain ⟨ba, oa, rfl, _, c1⟩ := (HA.out.below HBW.out).at k hl1
      obtain ⟨bb, ob, rfl, _, c2⟩ := (HB.out.below HBW.out).at k hl2
      have HS : Hid (cmpL A B = if cmpS A[k] B[k] ≠ 0 then cmpS A[k] B[k] else cmpL (A.drop (k + 1)) (B.drop (k + 1))) := HK.out.trans (cmpL_drop hl1 hl2)
      generalize A[k] = s at *
      generalize B[k] = t at *
      have HC : Hid (cmpS s t = if Op.bytesLess s.toList t.toList = true then -1 else if s.toList = t.toList then 0 else 1) := rfl
      clear HK
      cases h1 : Op.bytesLess s.toList t.toList with
      | true =>
        have HS2 : Hid (cmpL A B = -1) := by
          have e : cmpS s t = -1 := by rw [HC.out, if_pos h1]
          rw [HS.out, e]; rfl
        clear HS HC
        go_wp2_with fail
        go_quiet (fail)
        have HB1 : Hid (Below w.heap.size w (wr.drewN nq)) := below_drewN HBW.out nq
        clear h1 c1 c2
        go_wp2_with fail
        go_ret
        exact ⟨by rw [HS2.out]; rfl, HB1.out⟩
      | false =>
        by_cases h2 : s.toList = t.toList
        · have HS2 : Hid (cmpL A B = cmpL (A.drop (k + 1)) (B.drop (k + 1))) := by
            have e : cmpS s t = 0 := by rw [HC.out, if_neg (by rw [h1]; decide), if_pos h2]
            rw [HS.out, e]; rfl
          have h3 : (s.toList == t.toList) = true := by simpa using h2
          clear HS HC h2
          go_wp2_with fail
          go_quiet (fail)
          have HB1 : Hid (Below w.heap.size w (wr.drewN nq)) := below_drewN HBW.out nq
          go_wp2_with fail
          go_quiet (fail)
          clear c1 c2 h1 h3 HB1
          go_wp2_with fail
          go_roundw
          case rel => exact ⟨k + 1, by omega, by omega, by go_num, HS2, below_drewN HBW.out _⟩
          case measure => simp [intOf]; omega
        · have HS2 : Hid (cmpL A B = 1) := by
            have e : cmpS s t = 1 := by rw [HC.out, if_neg (by rw [h1]; decide), if_neg h2]
            rw [HS.out, e]; rfl
          have h3 : (s.toList == t.toList) = false := by simpa using h2
          clear HS HC h2
          go_wp2_with fail
          go_quiet (fail)
          have HB1 : Hid (Below w.heap.size w (wr.drewN nq)) := below_drewN HBW.out nq
          go_wp2_with fail
          go_quiet (fail)
          have HB2 : Hid (Below w.heap.size w _) := below_drewN HB1.out nq
          clear c1 c2 h1 h3
          go_wp2_with fail
          go_ret
          exact ⟨by rw [HS2.out]; rfl, HB2.out⟩
    · have HS : Hid (cmpL A B = if A.length < B.length then -1 else if B.length < A.length then 1 else 0) := by
        rw [HK.out]
        unfold Hid
        by_cases h1 : k < A.length
        · rw [List.drop_eq_nil_of_le (show B.length ≤ k by omega), cmpL_nil_right (by simp; omega), if_neg (by omega), if_pos (by omega)]
        · rw [List.drop_eq_nil_of_le (show A.length ≤ k by omega), cmpL_nil_left, List.length_drop]
          by_cases h2 : A.length < B.length
          · rw [if_neg (by omega), if_pos h2]
          · rw [if_pos (by omega), if_neg h2, if_neg (by omega)]
      by_cases h1 : (k : Int) < (A.length : Int)
      · have h2 : ¬ (k : Int) < (B.length : Int) := by omega
        have h3 : ¬ (A.length : Int) < (B.length : Int) := by omega
        have h4 : (B.length : Int) < (A.length : Int) := by omega
        have HS2 : Hid (cmpL A B = 1) := by rw [HS.out, if_neg (by omega), if_pos (by omega)]; rfl
        clear HS hlt HK
        go_wp2_with fail
        go_ret
        exact ⟨by rw [HS2.out]; rfl, HBW.out⟩
      · by_cases h3 : (A.length : Int) < (B.length : Int)
        · have HS2 : Hid (cmpL A B = -1) := by rw [HS.out, if_pos (by omega)]; rfl
          clear HS hlt HK
          go_wp2_with fail
          go_ret
          exact ⟨by rw [HS2.out]; rfl, HBW.out⟩
        · have h4 : ¬ (B.length : Int) < (A.length : Int) := by omega
          have HS2 : Hid (cmpL A B = 0) := by rw [HS.out, if_neg (by omega), if_neg (by omega)]; rfl
          clear HS hlt HK
          go_wp2_with fail
          go_ret
          exact ⟨by rw [HS2.out]; rfl, HBW.out⟩
end Go.Proofs.YtoenijflijfogaaGreat

/- Texts of one's own; the contract of key.Part. -/
namespace Go.Proofs.YtoenijflijfogaaGreat
open Go.RowKit

theorem infoS : (Tryz.prog.info? 9).map (fun i => (i.zero, i.size, i.bytes)) = some (some (.string ByteArray.empty), 1, 16) := by kernel_rfl
/-- Texts of one's own: their slice's array was made since base. -/
def SOwn (w : World) (base : Nat) (v : Value) (L : List ByteArray) : Prop := w.ownsRow base 9 1 v L.length (L.map Value.string) ∧ ∀ s ∈ L, s.size ≤ maxLen
theorem SOwn.nil (w : World) (base : Nat) : SOwn w base (.slice none 0 0) [] := ⟨World.ownsRow_nil _ _ _ _, by intro s hs; simp at hs⟩
theorem SOwn.mono {w : World} {base base' : Nat} {v : Value} {l : List ByteArray} (h : SOwn w base v l) (hb : base' ≤ base) : SOwn w base' v l := ⟨own_mono h.1 hb, h.2⟩
theorem SOwn.below {w w' : World} {base : Nat} {v : Value} {l : List ByteArray} (h : SOwn w base v l) (hb : Below w.heap.size w w') : SOwn w' base v l := by
  have hlt := World.ownsRow.lt h.1
  obtain ⟨⟨h1, h2⟩, h3⟩ := h
  refine ⟨⟨h1, ?_⟩, h3⟩
  rcases h2 with h2 | ⟨g, cap, cur, hv, hg, hw, r⟩
  · exact .inl h2
  · exact .inr ⟨g, cap, cur, hv, hg, (hb.block g (hlt g (by rw [hv]; rfl)).2).trans hw, r⟩
theorem SOwn.reads {w : World} {base : Nat} {v : Value} {L : List ByteArray} (h : SOwn w base v L) : SReads w v L := by
  obtain ⟨h, hs⟩ := h
  obtain ⟨h1, h2⟩ := h
  simp at h1
  rcases h2 with ⟨rfl, h0⟩ | ⟨g, cap, cur, rfl, hg, hw, hn, hm, hs1, ht⟩
  · left
    exact ⟨List.length_eq_zero_iff.1 (by omega), none, 0, rfl, fun _ => rfl⟩
  · rcases Nat.eq_zero_or_pos L.length with h0 | h0
    · left; exact ⟨List.length_eq_zero_iff.1 h0, _, cap, by rw [h0], fun h => by cases h⟩
    · right
      have hown : w.ownsRow base 9 1 (.slice (some ⟨g, 0, none⟩) L.length cap) L.length (L.map Value.string) := ⟨by simp, .inr ⟨g, cap, cur, rfl, hg, hw, hn, hm, hs1, ht⟩⟩
      refine ⟨g, 0, cap, rfl, h0, by omega, hm, (hown.lt g rfl).2, fun j hj => ?_, hs⟩
      have := hown.cells (g := g) rfl j (.string L[j]) (by simp [hj])
      have ea : (⟨g, 0, none⟩ : Addr).add j = ⟨g, 0 + j, none⟩ := by simp [Addr.add]; omega
      rw [ea] at this
      exact this
theorem wpList_sapp1 {w0 : World} {ops : Array Oper} {rest : List Oper} {o : Oper} {a : Act} {Q : Exit → Act → World → Prop} {t : TypeId} {y : ByteArray} (hgd : o.guard = none) (s x : Operand)
    (ho : o.op = .call { callee := .builtin .append, args := #[s, x], argTypes := #[26, 26] })
    (base : Nat) (v : Value) (L M : List ByteArray) (hM : M = L ++ [y]) (hy : y.size ≤ maxLen) (hs : a.eval s = v) (hx : a.eval x = .slice (some ⟨w0.heap.size, 0, none⟩) 1 1) (hown : SOwn w0 base v L)
    (hlen : L.length + 1 ≤ 8796093022208) (hbase : base ≤ w0.heap.size)
    (h : ∀ v' w', SOwn w' base v' M → Hid (Below base w0 w') → wpList Tryz.prog ops Q rest (a.put o.dst v') w') : wpList Tryz.prog ops Q (o :: rest) a (w0.alloc (.cells #[.string y] t)) := by
  subst hM
  obtain ⟨i0, hi, hz0, hz1, hz2⟩ := info_parts infoS
  refine wpList_append_own (w0.alloc (.cells #[.string y] t)) hgd s x 26 ho base 9 i0 (.string ByteArray.empty) 1 16 Tryz.underlying26 hi hz0 hz1 hz2 rfl (by decide) v L.length (L.map Value.string) hs (hown.1.alloc _) ⟨w0.heap.size, 0, none⟩ 1 1 [.string y] hx rfl news1 (by intro u hu; simp at hu; subst hu; rfl) (by simp [maxLen]; omega) (by omega) (by simp; omega) ?_
  intro v' w' hown' hgrow _
  refine h v' w' ⟨?_, ?_⟩ (((Below.refl _ _).alloc hbase _).grown hgrow (by simp; omega) (own_block hown.1))
  · rw [List.length_append, List.map_append]; exact hown'
  · intro u hu
    rcases List.mem_append.1 hu with hu | hu
    · exact hown.2 u hu
    · simp at hu; subst hu; exact hy
/-- A part of dimensions. -/
def pt : List ByteArray → Nat → List ByteArray
  | [], _ => []
  | s :: L, m => (if m % 2 = 1 then [s] else []) ++ pt L (m / 2)
theorem pt_snoc (L : List ByteArray) (s : ByteArray) : ∀ m, pt (L ++ [s]) m = pt L m ++ (if m / 2 ^ L.length % 2 = 1 then [s] else []) := by
  induction L with
  | nil => intro m; simp [pt]
  | cons x L ih =>
    intro m
    simp only [List.cons_append, pt, ih, List.length_cons, List.append_assoc]
    have e : m / 2 / 2 ^ L.length = m / 2 ^ (L.length + 1) := by rw [Nat.div_div_eq_div_mul, Nat.pow_succ, Nat.mul_comm 2]
    simp only [e]
theorem pt_len (L : List ByteArray) : ∀ m, (pt L m).length ≤ L.length := by
  induction L with
  | nil => intro m; simp [pt]
  | cons x L ih => intro m; have := ih (m / 2); simp only [pt, List.length_append, List.length_cons]; split <;> simp <;> omega
theorem i64_and_one (a : Nat) (h : a < 9223372036854775808) : bits .and .i64 (a : Int) 1 = ((a % 2 : Nat) : Int) := by
  show IntKind.i64.wrap ((BitVec.ofInt 64 (a : Int) &&& BitVec.ofInt 64 ((1 : Nat) : Int)).toNat : Int) = _
  rw [BitVec.toNat_and, ofInt_u64 a (by omega), ofInt_u64 1 (by omega), Nat.and_one_is_mod]
  simp [IntKind.wrap, IntKind.bits, IntKind.signed]
  omega
theorem shr_min (m k : Nat) (h : m < 9223372036854775808) : m / 2 ^ min k 64 = m / 2 ^ k := by
  rcases Nat.le_total k 64 with h1 | h1
  · rw [Nat.min_eq_left h1]
  · rw [Nat.min_eq_right h1, Nat.div_eq_of_lt (by omega), Nat.div_eq_of_lt (Nat.lt_of_lt_of_le (by omega : m < 2 ^ 64) (Nat.pow_le_pow_right (by decide) h1))]
theorem shr_and (m k : Nat) (h : m < 9223372036854775808) : bits .and .i64 ((m : Int) / 2 ^ min k 64) 1 = ((m / 2 ^ k % 2 : Nat) : Int) := by
  have := i64_and_one (m / 2 ^ min k 64) (Nat.lt_of_le_of_lt (Nat.div_le_self _ _) h)
  rw [shr_min m k h] at this
  rw [← this, ← shr_min m k h]
  push_cast; rfl
set_option maxRecDepth 100000 in
set_option maxHeartbeats 1000000 in
theorem part_any (v : Value) (L : List ByteArray) (hL : L.length ≤ 1000) (m : Nat) (hm : m < 9223372036854775808) (w : World) (h : SReads w v L) :
    Calls Tryz.prog 36 #[v, .int .i64 (m : Int)] w fun e w' => ∃ v', e = .returned (.tuple #[v', .int .i64 0]) ∧ SOwn w' w.heap.size v' (pt L m) ∧ Below w.heap.size w w' := by
  obtain ⟨a, cap, rfl, _⟩ := h.form
  have HR : Hid (SReads w (.slice a L.length cap) L) := h
  clear h
  go_enter Tryz.func36, Tryz.ntmps36
  go_wp2_with fail
  go_loopw [6, 12] (fun x i wr => ∃ (k : Nat) (M : List ByteArray), k ≤ L.length ∧ i = .int .i64 (k : Int) ∧ Hid (M = pt (L.take k) m) ∧ SOwn wr w.heap.size x M ∧ Hid (Below w.heap.size w wr)) (fun _ i _ => L.length - (intOf i).toNat)
  case atStart => exact ⟨0, [], by omega, rfl, by rw [List.take_zero]; rfl, SOwn.nil _ _, Below.refl _ _⟩
  case round =>
    obtain ⟨k, M, hk, rfl, HM, HO, HB⟩ := hrel
    have hsz := HB.out.size
    by_cases hlt : k < L.length
    · have y0 := shr_and m k hm
      have HSN : Hid (pt (L.take (k + 1)) m = M ++ (if m / 2 ^ k % 2 = 1 then [L[k]] else [])) := by
        have e : (L.take k).length = k := by simp; omega
        rw [List.take_succ_eq_append_getElem hlt, pt_snoc, e, ← HM.out]; rfl
      rcases Nat.mod_two_eq_zero_or_one (m / 2 ^ k) with h2 | h2
      · have HE : Hid (M = pt (L.take (k + 1)) m) := by rw [HSN.out, if_neg (by omega), List.append_nil]; rfl
        rw [h2] at y0
        push_cast at y0
        clear h2 HSN HM
        go_wp2_with fail
        go_roundw
        case rel => exact ⟨k + 1, M, by omega, by go_num, HE, HO, HB⟩
        case measure => simp [intOf]; omega
      · obtain ⟨M1, HM1⟩ := hid_ex (M ++ [L[k]])
        have HE : Hid (M1 = pt (L.take (k + 1)) m) := by rw [HSN.out, if_pos h2, HM1.out]; rfl
        obtain ⟨b, off, rfl, hbw, hc⟩ := HR.out.at k hlt
        have hcell := (HB.out.cell (p := ⟨b, off + k, none⟩) hbw).trans hc
        have hys : L[k].size ≤ maxLen := HR.out.size _ (List.getElem_mem hlt)
        have hml : M.length ≤ 1000 := by
          have := pt_len (L.take k) m
          rw [← HM.out] at this
          simp at this; omega
        rw [h2] at y0
        push_cast at y0
        clear h2 HSN hc HM
        go_wp2_with (at_builtin; refine wpList_sapp1 rfl _ _ rfl w.heap.size _ M M1 HM1.out hys rfl rfl HO (by omega) hsz ?_)
        intro v' w1 HO1 hb1
        have HB1 : Hid (Below w.heap.size w w1) := HB.out.trans hb1.out
        clear hb1 HO hcell HB HM1
        go_wp2_with fail
        go_roundw
        case rel => exact ⟨k + 1, M1, by omega, by go_num, HE, HO1, HB1⟩
        case measure => simp [intOf]; omega
    · have HE : Hid (M = pt L m) := by rw [HM.out, List.take_of_length_le (by omega)]; rfl
      go_wp2_with fail
      go_ret2
      exact ⟨_, rfl, by rw [← HE.out]; exact HO, HB.out⟩
end Go.Proofs.YtoenijflijfogaaGreat

/- What the fixed calls of layer 6's 'alive' come to: true. -/
namespace Go.Proofs.YtoenijflijfogaaGreat
open Go.RowKit

end Go.Proofs.YtoenijflijfogaaGreat
