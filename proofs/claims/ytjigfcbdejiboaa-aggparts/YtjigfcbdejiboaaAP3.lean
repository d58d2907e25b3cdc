/- The walk of AggParts. -/
import Derived.Test.YtjigfcbdejiboaaAP2
import Derived.Test.YtjigfcbdejiboaaA4
namespace Go.Proofs.Ytjigfcbdejiboaa
open Go.RowKit

def irot (L : List Int) (t : Nat) : List Int := (List.range L.length).map fun j => L.getD ((j + t) % L.length) 0
theorem irot_len (L : List Int) (t : Nat) : (irot L t).length = L.length := by simp [irot]
theorem irot_step' {L : List Int} {t k : Nat} (hk : k < L.length) : (irot L t).take (k + 1) = (irot L t).take k ++ [L[(k + t) % L.length]'(Nat.mod_lt _ (by omega))] := by
  rw [List.take_add_one]
  congr 1
  have h1 : (k + t) % L.length < L.length := Nat.mod_lt _ (by omega)
  simp [irot, hk, List.getD, h1]
theorem irot_eq (L : List Int) (t : Nat) : irot L t = L.drop (t % L.length) ++ L.take (t % L.length) := by
  by_cases h0 : L.length = 0
  · have : L = [] := List.length_eq_zero_iff.1 h0
    subst this; simp [irot]
  · have hm : t % L.length < L.length := Nat.mod_lt _ (by omega)
    apply List.ext_getElem
    · simp [irot_len]; omega
    · intro j h1 h2
      rw [irot_len] at h1
      have hj : (j + t) % L.length < L.length := Nat.mod_lt _ (by omega)
      have e1 : (irot L t)[j]'(by rw [irot_len]; exact h1) = L[(j + t) % L.length] := by
        simp [irot, List.getD, hj]
      rw [e1]
      have e2 : (j + t) % L.length = (j + t % L.length) % L.length := by rw [Nat.add_mod_mod]
      by_cases hlt : j < (L.drop (t % L.length)).length
      · rw [List.getElem_append_left hlt, List.getElem_drop]
        have : (j + t) % L.length = t % L.length + j := by
          rw [List.length_drop] at hlt
          rw [e2, Nat.mod_eq_of_lt (by omega)]; omega
        simp only [this]
      · rw [List.getElem_append_right (by omega), List.getElem_take]
        have hl2 := hlt
        rw [List.length_drop] at hl2
        have : (j + t) % L.length = j - (L.drop (t % L.length)).length := by
          rw [List.length_drop, e2, show j + t % L.length = (j - (L.length - t % L.length)) + L.length by omega, Nat.add_mod_right, Nat.mod_eq_of_lt (by omega)]
        simp only [this]
theorem irot_perm (L : List Int) (t : Nat) : (irot L t).Perm L := by
  rw [irot_eq]
  have := List.perm_append_comm (l₁ := L.drop (t % L.length)) (l₂ := L.take (t % L.length))
  rwa [List.take_append_drop] at this
theorem i64_and1023 (n : Int) : bits .and .i64 n 1023 = n % 1024 := by
  have h127 : (BitVec.ofInt 64 1023).toNat = 2 ^ 10 - 1 := by decide
  have key : (BitVec.ofInt 64 n &&& BitVec.ofInt 64 1023).toNat = (n % ((2 ^ 64 : Nat) : Int)).toNat % 2 ^ 10 := by
    rw [BitVec.toNat_and, BitVec.toNat_ofInt, h127, Nat.and_two_pow_sub_one_eq_mod]
  show IntKind.i64.wrap ((BitVec.ofInt 64 n &&& BitVec.ofInt 64 1023).toNat : Nat) = n % 1024
  rw [key, IntKind.wrap_i64]
  omega
theorem below_dN {B : Nat} {a w : World} (h : Below B a w) (n : Nat) : Below B a (w.drewN n) := h.trans ⟨rfl, rfl, rfl, Nat.le_refl _, fun _ _ => rfl⟩
theorem infoI : (Try.prog.info? 2).map (fun i => (i.zero, i.size, i.bytes)) = some (some (.int .i64 0), 1, 8) := by kernel_rfl
theorem iown_below {A B : World} {base : Nat} {e : TypeId} {size : Nat} {v : Value} {k : Nat} {xs : List Value} (h : A.ownsRow base e size v k xs) (hb : Below A.heap.size A B) : B.ownsRow base e size v k xs := by
  obtain ⟨h1, h2⟩ := h
  refine ⟨h1, ?_⟩
  rcases h2 with h2 | ⟨g, cap, cur, hv, hg, hw, r⟩
  · exact .inl h2
  · exact .inr ⟨g, cap, cur, hv, hg, (hb.block _ (Array.getElem?_eq_some_iff.1 hw).1).trans hw, r⟩
theorem wp_app_run {w w' : World} {o : Oper} {a : Act} {K : Act → World → Prop} {Q : Exit → Act → World → Prop} (s x : Operand) (t ty : TypeId) (ho : o.op = .call { callee := .builtin .append, args := #[s, x], argTypes := #[t, t] }) (hty : o.type = ty) (v vx v' : Value) (hs : a.eval s = v) (hx : a.eval x = vx)
    (hrun : (Builtin.append_ #[t, t] ty #[v, vx]).run Try.prog w = .ok v' w') (h : K (a.put o.dst v') w') : o.wp Try.prog a w K Q := by
  subst hty
  unfold Oper.wp
  simp [execOp, ho, resolve, invoke, builtin, hs, hx, hrun, Result.andThen]
  exact h
theorem wpList_app_run {w w' : World} {ops : Array Oper} {rest : List Oper} {o : Oper} {a : Act} {Q : Exit → Act → World → Prop} (hgd : o.guard = none) (s x : Operand) (t ty : TypeId) (ho : o.op = .call { callee := .builtin .append, args := #[s, x], argTypes := #[t, t] }) (hty : o.type = ty) (v vx v' : Value) (hs : a.eval s = v) (hx : a.eval x = vx)
    (hrun : (Builtin.append_ #[t, t] ty #[v, vx]).run Try.prog w = .ok v' w') (h : wpList Try.prog ops Q rest (a.put o.dst v') w') : wpList Try.prog ops Q (o :: rest) a w :=
  wpList_plain hgd fun _ hK => wp_app_run s x t ty ho hty v vx v' hs hx hrun (hK _ _ h)
theorem iown_form {w : World} {base : Nat} {e : TypeId} {v : Value} {n : Nat} {xs : List Value} (h : w.ownsRow base e 1 v n xs) : ∃ a c, v = .slice a n c := by
  rcases h.2 with ⟨h1, h2⟩ | ⟨g, cap, cur, hv, _⟩
  · exact ⟨none, 0, by rw [h1, h2]⟩
  · exact ⟨_, cap, hv⟩
set_option maxRecDepth 100000 in
set_option maxHeartbeats 8000000 in
theorem parts_walk (v : Value) (l : List Int) (cut turn : Int) (w : World) (hR : IReads w v l) (hbd : ∀ z ∈ l, -9223372036854775808 ≤ z ∧ z ≤ 9223372036854775807) :
    Calls Try.prog 3 #[v, .int .i64 cut, .int .i64 turn] w fun e w' => e = .returned (.bool true) ∧ Below w.heap.size w w' := by
  have HR : Hid (IReads w v l) := hR
  obtain ⟨al, cl, rfl, hm⟩ := hR.form
  unfold maxLen at hm
  have HBD : Hid _ := hbd
  clear hR hbd
  go_enter Try.func3, Try.ntmps3
  by_cases g1 : (300 : Int) < (l.length : Int)
  · go_wp2_with fail
    refine (alive2_any _).mono ?_
    rintro e w9 ⟨rfl, hb9⟩
    have HB9 : Hid (Below w.heap.size w w9) := hb9
    clear hb9
    go_wp2_with fail
    go_ret
    exact ⟨rfl, HB9.out⟩
  by_cases g2 : cut < 0
  · go_wp2_with fail
    refine (alive2_any _).mono ?_
    rintro e w9 ⟨rfl, hb9⟩
    have HB9 : Hid (Below w.heap.size w w9) := hb9
    clear hb9
    go_wp2_with fail
    go_ret
    exact ⟨rfl, HB9.out⟩
  by_cases g3 : (l.length : Int) < cut
  · go_wp2_with fail
    refine (alive2_any _).mono ?_
    rintro e w9 ⟨rfl, hb9⟩
    have HB9 : Hid (Below w.heap.size w w9) := hb9
    clear hb9
    go_wp2_with fail
    go_ret
    exact ⟨rfl, HB9.out⟩
  obtain ⟨c, rfl⟩ : ∃ c : Nat, cut = (c : Int) := ⟨cut.toNat, by omega⟩
  have hc : c ≤ l.length := by omega
  obtain ⟨t, ht⟩ : ∃ t : Nat, bits .and .i64 turn 1023 = (t : Int) := ⟨(turn % 1024).toNat, by rw [i64_and1023]; omega⟩
  have ht2 : t ≤ 1023 := by rw [i64_and1023] at ht; omega
  go_wp2_with fail
  refine (many_any _ l (by omega) HBD.out _ HR.out).mono ?_
  rintro e w1 ⟨A, rfl, hKA, hb1⟩
  have HKA : Hid (Kn l A) := hKA
  obtain ⟨w2, HW2⟩ := hid_ex (w1.alloc (.cells #[.int .u64 A.c, .bool A.o, .int .i64 (hi A.s), .int .u64 (lo A.s), .int .i64 A.mn, .int .i64 A.mx] 28))
  have HB2 : Hid (Below w.heap.size w w2) := by rw [HW2.out]; exact hb1.alloc hb1.size _
  have HC2 : Hid (w2.heap[w1.heap.size]? = some (.cells #[.int .u64 A.c, .bool A.o, .int .i64 (hi A.s), .int .u64 (lo A.s), .int .i64 A.mn, .int .i64 A.mx] 28)) := by rw [HW2.out]; exact World.alloc_heap_new _ _
  have hw1 := hb1.size
  clear hb1 hKA
  obtain ⟨a3, f3, hs3, hr3⟩ := isl_upto HR.out hc
  obtain ⟨a4, f4, hs4, hr4⟩ := isl_from HR.out hc
  have HR3 : Hid (IReads w (.slice a3 c f3) (l.take c)) := hr3
  have HR4 : Hid (IReads w (.slice a4 (l.length - c) f4) (l.drop c)) := hr4
  clear hr3 hr4
  have hgt : ¬ (l.length < c) := by omega
  go_wp2_with fail
  rw [← HW2.out]
  clear HW2
  refine wp_region_noPanic ?_
  refine wp_region_held_drew (S := (fun w' => Below w2.heap.size w2 w')) (by kernel_rfl) ?_ (fun hHeld => ?_)
  · exact (Below.refl _ _).drew
  refine wpAnyH_take (i := 0) (v := .slice al l.length cl) rfl (by kernel_rfl) (by kernel_rfl) (by kernel_rfl) (fun _ _ _ h => h) (Or.inl ⟨by rfl, ?_⟩) (by assumption) ?_
  · (intro w1 hSw; (try dsimp only at hSw); go_simp)
  simp only [List.getElem_toArray, List.getElem_cons_zero, Act.put, List.setIfInBounds_toArray, List.set_cons_zero, List.set_cons_succ]
  refine wpAnyH_take (i := 1) (v := .int .i64 (c : Int)) rfl (by kernel_rfl) (by kernel_rfl) (by kernel_rfl) (fun _ _ _ h => h) (Or.inl ⟨by rfl, ?_⟩) (by assumption) ?_
  · (intro w1 hSw; (try dsimp only at hSw); go_simp)
  simp only [List.getElem_toArray, List.getElem_cons_succ, List.getElem_cons_zero, Act.put, List.setIfInBounds_toArray, List.set_cons_zero, List.set_cons_succ]
  refine wpAnyH_take (i := 2) (v := .slice a3 c f3) rfl (by kernel_rfl) (by kernel_rfl) (by kernel_rfl) (fun _ _ _ h => h) (Or.inl ⟨by rfl, ?_⟩) (by assumption) ?_
  · (intro w1 hSw; (try dsimp only at hSw); go_simp)
  simp only [List.getElem_toArray, List.getElem_cons_succ, List.getElem_cons_zero, Act.put, List.setIfInBounds_toArray, List.set_cons_zero, List.set_cons_succ]
  refine wpAnyH_take (i := 4) (v := .slice al l.length cl) rfl (by kernel_rfl) (by kernel_rfl) (by kernel_rfl) (fun _ _ _ h => h) (Or.inl ⟨by rfl, ?_⟩) (by assumption) ?_
  · (intro w1 hSw; (try dsimp only at hSw); go_simp)
  simp only [List.getElem_toArray, List.getElem_cons_succ, List.getElem_cons_zero, Act.put, List.setIfInBounds_toArray, List.set_cons_zero, List.set_cons_succ]
  refine wpAnyH_take (i := 5) (v := .int .i64 (c : Int)) rfl (by kernel_rfl) (by kernel_rfl) (by kernel_rfl) (fun _ _ _ h => h) (Or.inl ⟨by rfl, ?_⟩) (by assumption) ?_
  · (intro w1 hSw; (try dsimp only at hSw); go_simp)
  simp only [List.getElem_toArray, List.getElem_cons_succ, List.getElem_cons_zero, Act.put, List.setIfInBounds_toArray, List.set_cons_zero, List.set_cons_succ]
  refine wpAnyH_take (i := 6) (v := .slice a4 (l.length - c) f4) rfl (by kernel_rfl) (by kernel_rfl) (by kernel_rfl) (fun _ _ _ h => h) (Or.inl ⟨by rfl, ?_⟩) (by assumption) ?_
  · (intro w1 hSw; (try dsimp only at hSw); go_simp)
  simp only [List.getElem_toArray, List.getElem_cons_succ, List.getElem_cons_zero, Act.put, List.setIfInBounds_toArray, List.set_cons_zero, List.set_cons_succ]
  refine wpAnyH_take (i := 9) (v := .agg #[.int .u64 A.c, .bool A.o, .int .i64 (hi A.s), .int .u64 (lo A.s), .int .i64 A.mn, .int .i64 A.mx]) rfl (by kernel_rfl) (by kernel_rfl) (by kernel_rfl) (fun _ _ _ h => h) (Or.inl ⟨by rfl, ?_⟩) (by assumption) ?_
  · (intro w1 hSw; (try dsimp only at hSw); have hxx := (hSw.block _ (Array.getElem?_eq_some_iff.1 HC2.out).1).trans HC2.out; have h0 := c_rw hxx 0 (by simp); have h1 := c_rw hxx 1 (by simp); have h2 := c_rw hxx 2 (by simp); have h3 := c_rw hxx 3 (by simp); have h4 := c_rw hxx 4 (by simp); have h5 := c_rw hxx 5 (by simp); simp only [List.getElem_toArray, List.getElem_cons_succ, List.getElem_cons_zero] at h0 h1 h2 h3 h4 h5; go_simp)
  simp only [List.getElem_toArray, List.getElem_cons_succ, List.getElem_cons_zero, Act.put, List.setIfInBounds_toArray, List.set_cons_zero, List.set_cons_succ]
  refine wpAnyH_ready (rs := [3]) (by kernel_rfl) (by simp) ?_
  refine AllReadyH.cons (o := _) rfl (fun K hK => ?_) AllReadyH.nil
  go_simp
  refine (many_any _ (l.take c) (by rw [List.length_take]; omega) (fun z hz => HBD.out z (List.mem_of_mem_take hz)) _ (HR3.out.below HB2.out.drew)).mono ?_
  rintro e w3 ⟨P, rfl, hKP, hb3⟩
  have HW3 : Hid (Below w2.heap.size w2 w3) := (Below.refl w2.heap.size w2).drew.trans hb3
  have HB3 : Hid (Below w.heap.size w w3) := HB2.out.trans (HW3.out.mono HB2.out.size)
  have HKP : Hid (Kn (l.take c) P) := hKP
  clear hb3 hKP
  refine hK.out _ _ ?_ (fun hHeld => ?_)
  · exact HW3.out
  clear hK K
  refine wpAnyH_ready (rs := [7]) (by kernel_rfl) (by simp) ?_
  refine AllReadyH.cons (o := _) rfl (fun K hK => ?_) AllReadyH.nil
  go_simp
  refine (many_any _ (l.drop c) (by rw [List.length_drop]; omega) (fun z hz => HBD.out z (List.mem_of_mem_drop hz)) _ (HR4.out.below HB3.out)).mono ?_
  rintro e w4 ⟨Q, rfl, hKQ, hb4⟩
  have HW4 : Hid (Below w2.heap.size w2 w4) := HW3.out.trans (hb4.mono HW3.out.size)
  have HKQ : Hid (Kn (l.drop c) Q) := hKQ
  clear hb4 hKQ
  refine hK.out _ _ ?_ (fun hHeld => ?_)
  · exact HW4.out
  clear hK K
  have HMG : Hid (∀ w, Calls Try.prog 7 #[.agg #[.int .u64 P.c, .bool P.o, .int .i64 (hi P.s), .int .u64 (lo P.s), .int .i64 P.mn, .int .i64 P.mx], .agg #[.int .u64 Q.c, .bool Q.o, .int .i64 (hi Q.s), .int .u64 (lo Q.s), .int .i64 Q.mn, .int .i64 Q.mx]] w fun e w' => e = .returned (.agg #[.int .u64 A.c, .bool A.o, .int .i64 (hi A.s), .int .u64 (lo A.s), .int .i64 A.mn, .int .i64 A.mx]) ∧ Below w.heap.size w w') := by
    intro w
    have hk := HKP.out.app HKQ.out (by rw [List.length_take, List.length_drop]; omega)
    rw [List.take_append_drop] at hk
    rw [HKA.out.uniq hk]
    have h1 := HKP.out.c.1
    have h2 := HKQ.out.c.1
    rw [List.length_take] at h1
    rw [List.length_drop] at h2
    exact merge_any P Q (by omega) (by omega) (by omega) (by omega) w
  refine wpAnyH_ready (rs := [8]) (by kernel_rfl) (by simp) ?_
  refine AllReadyH.cons (o := _) rfl (fun K hK => ?_) AllReadyH.nil
  go_simp
  refine (HMG.out _).mono ?_
  rintro e w5 ⟨rfl, hb5⟩
  have HW5 : Hid (Below w2.heap.size w2 w5) := HW4.out.trans (hb5.mono HW4.out.size)
  clear hb5
  refine hK.out _ _ ?_ (fun hHeld => ?_)
  · exact HW5.out
  clear hK K
  refine wpAnyH_take (i := 10) (v := .bool false) rfl (by kernel_rfl) (by kernel_rfl) (by kernel_rfl) (fun _ _ _ h => h) (Or.inl ⟨by rfl, ?_⟩) (by assumption) ?_
  · (intro w1 hSw; (try dsimp only at hSw); go_simp)
  simp only [List.getElem_toArray, List.getElem_cons_succ, List.getElem_cons_zero, Act.put, List.setIfInBounds_toArray, List.set_cons_zero, List.set_cons_succ]
  clear hHeld
  refine wpAnyH_done (by kernel_rfl) ?_ _
  refine NoPanic.normal ?_
  have HB5 : Hid (Below w.heap.size w w5) := HB2.out.trans (HW5.out.mono HB2.out.size)
  have HC5 : Hid (w5.heap[w1.heap.size]? = some (.cells #[.int .u64 A.c, .bool A.o, .int .i64 (hi A.s), .int .u64 (lo A.s), .int .i64 A.mn, .int .i64 A.mx] 28)) := (HW5.out.block _ (Array.getElem?_eq_some_iff.1 HC2.out).1).trans HC2.out
  have hz5 : w1.heap.size < w5.heap.size := (Array.getElem?_eq_some_iff.1 HC5.out).1
  clear HB3 HW3 HW4 HKP HKQ HMG HR3 HR4 hs3 hs4 HB2 HC2
  obtain ⟨i0, hif, hz0, hz1, hz2⟩ := info_parts infoI
  go_wp2_with fail
  go_loopw [8, 9] (fun mv i wr => ∃ k : Nat, k ≤ l.length ∧ i = .int .i64 (k : Int) ∧ Hid (wr.ownsRow w5.heap.size 2 1 mv k (((irot l t).take k).map ic)) ∧ Hid (Below w5.heap.size w5 wr)) (fun _ i _ => l.length - (intOf i).toNat)
  case atStart => exact ⟨0, by omega, rfl, World.ownsRow_nil _ _ _ _, Below.refl _ _⟩
  case round =>
    rename World => wr
    obtain ⟨k, hk, rfl, HO, HW⟩ := hrel
    obtain ⟨am, cm, rfl⟩ := iown_form HO.out
    by_cases hlt : k < l.length
    · have hmod : (k + t) % l.length < l.length := Nat.mod_lt _ (by omega)
      obtain ⟨bA, oA, rfl, hbA, d1⟩ := HR.out.at _ hmod
      have HBr : Hid (Below w.heap.size w wr) := HB5.out.trans (HW.out.mono HB5.out.size)
      have c1 := (HBr.out.cell (p := ⟨bA, oA + (k + t) % l.length, none⟩) hbA).trans d1
      obtain ⟨x, HX⟩ := hid_ex l[(k + t) % l.length]
      rw [← HX.out] at c1
      unfold ic at c1
      have hm1 : (0 : Int) ≤ ((k : Int) + (t : Int)) % (l.length : Int) := Int.emod_nonneg _ (by omega)
      have hm2 : ((k : Int) + (t : Int)) % (l.length : Int) < (l.length : Int) := Int.emod_lt_of_pos _ (by omega)
      have HST : Hid (((irot l t).take (k + 1)).map ic = ((irot l t).take k).map ic ++ [.int .i64 x]) := by
        unfold Hid; rw [irot_step' hlt, List.map_append, ← HX.out]; rfl
      have hown := HO.out
      have hsz := HW.out.size
      clear d1 HX hmod
      obtain ⟨v6, w6, hrun, hown6, hgrow6, _⟩ := run_append_own (P := Try.prog) (wr.alloc (.cells #[.int .i64 x] 2)) w5.heap.size 22 22 2 i0 _ 1 8 Try.underlying22 hif hz0 hz1 hz2 rfl (by decide) (.slice am k cm) k (((irot l t).take k).map ic) (hown.alloc _) ⟨wr.heap.size, 0, none⟩ 1 1 [.int .i64 x] rfl news1 (by simp [Value.oneCell']) (by unfold maxLen; omega) (by omega) (al_ok hsz)
      have HO6 : Hid (w6.ownsRow w5.heap.size 2 1 v6 (k + 1) (((irot l t).take (k + 1)).map ic)) := by rw [HST.out]; exact hown6
      have HW6 : Hid (Below w5.heap.size w5 w6) := (HW.out.alloc hsz _).grown hgrow6 (al_ok hsz) (own_block hown)
      go_wp2_with (at_builtin; refine wpList_app_run rfl _ _ _ _ rfl rfl _ _ _ rfl rfl hrun ?_)
      clear hown hown6 hgrow6 c1 hm1 hm2 hrun
      (try go_wp2_with fail)
      go_roundw
      case rel => exact ⟨k + 1, by omega, by go_num, HO6, HW6⟩
      case measure => simp [intOf]; omega
    · obtain rfl : k = l.length := by omega
      have HMr0 : Hid (IReads wr (.slice am l.length cm) (irot l t)) := by
        have h := HO.out
        rw [List.take_of_length_le (by rw [irot_len]; omega)] at h
        exact ireads_own h
      have HBr0 : Hid (Below w.heap.size w wr) := HB5.out.trans (HW.out.mono HB5.out.size)
      have HCr0 : Hid (wr.heap[w1.heap.size]? = some (.cells #[.int .u64 A.c, .bool A.o, .int .i64 (hi A.s), .int .u64 (lo A.s), .int .i64 A.mn, .int .i64 A.mx] 28)) := (HW.out.block _ hz5).trans HC5.out
      clear HO HW HB5 HC5 hif hz0 hz1 hz2
      go_wp2_with fail
      obtain ⟨p0, hp0⟩ : ∃ p0 : Bool, p0 = ((l.length : Int) == 0) := ⟨_, rfl⟩
      rw [← hp0]
      have HP0 : Hid ((p0 = true) ↔ l = []) := by
        rw [hp0]; unfold Hid
        rw [beq_iff_eq]
        constructor
        · intro h; exact List.length_eq_zero_iff.1 (by omega)
        · intro h; rw [h]; rfl
      clear hp0
      go_loopw [10, 11, 12] (fun lv hv i wr => ∃ (k : Nat) (p q : Bool), k ≤ l.length ∧ lv = .bool p ∧ hv = .bool q ∧ i = .int .i64 (k : Int) ∧ Hid ((p = true) ↔ (l = [] ∨ A.mn ∈ l.take k)) ∧ Hid ((q = true) ↔ (l = [] ∨ A.mx ∈ l.take k)) ∧ Hid (IReads wr (.slice am l.length cm) (irot l t)) ∧ Hid (wr.heap[w1.heap.size]? = some (.cells #[.int .u64 A.c, .bool A.o, .int .i64 (hi A.s), .int .u64 (lo A.s), .int .i64 A.mn, .int .i64 A.mx] 28)) ∧ Hid (Below w.heap.size w wr)) (fun _ _ i _ => l.length - (intOf i).toNat)
      case atStart =>
        exact ⟨0, p0, p0, by omega, rfl, rfl, rfl, by rw [List.take_zero]; simpa [Hid] using HP0.out, by rw [List.take_zero]; simpa [Hid] using HP0.out, HMr0, HCr0, HBr0⟩
      case round =>
        rename World => wq
        obtain ⟨k2, p, q, hk2, rfl, rfl, rfl, HLp, HHp, HMr, HCr, HBr⟩ := hrel
        by_cases hlt2 : k2 < l.length
        · obtain ⟨bA, oA, rfl, hbA, d1⟩ := HR.out.at k2 hlt2
          have hne : l ≠ [] := fun e => by rw [e] at hlt2; simp at hlt2
          obtain ⟨-, -, -, -, hmn, hmx⟩ : l ≠ [] ∧ A.c = (l.length : Int) ∧ A.o = false ∧ A.s = l.sum ∧ IsMn l A.mn ∧ IsMx l A.mx := HKA.out.resolve_left (fun h => hne h.1)
          have hx1 : ¬ l[k2] < A.mn := by have := hmn.2 _ (List.getElem_mem hlt2); omega
          have hx2 : ¬ A.mx < l[k2] := by have := hmx.2 _ (List.getElem_mem hlt2); omega
          have HLN : Hid ((∀ p : Bool, ((p = true) ↔ (l = [] ∨ A.mn ∈ l.take k2)) → (((p || (l[k2] == A.mn)) = true) ↔ (l = [] ∨ A.mn ∈ l.take (k2 + 1)))) ∧ (∀ p : Bool, ((p = true) ↔ (l = [] ∨ A.mx ∈ l.take k2)) → (((p || (l[k2] == A.mx)) = true) ↔ (l = [] ∨ A.mx ∈ l.take (k2 + 1))))) := by
            have e : l.take (k2 + 1) = l.take k2 ++ [l[k2]] := by rw [List.take_add_one, List.getElem?_eq_getElem hlt2]; rfl
            rw [e]
            constructor
            · intro p hp
              rw [Bool.or_eq_true, hp, beq_iff_eq, List.mem_append, List.mem_singleton, or_assoc, eq_comm (a := l[k2])]
            · intro p hp
              rw [Bool.or_eq_true, hp, beq_iff_eq, List.mem_append, List.mem_singleton, or_assoc, eq_comm (a := l[k2])]
          obtain ⟨x, HX⟩ := hid_ex l[k2]
          rw [← HX.out] at d1 hx1 hx2 HLN
          unfold ic at d1
          have c1 := (HBr.out.cell (p := ⟨bA, oA + k2, none⟩) hbA).trans d1
          have z3 := c_rw HCr.out 4 (by simp)
          have z4 := c_rw HCr.out 5 (by simp)
          simp only [List.getElem_toArray, List.getElem_cons_succ, List.getElem_cons_zero] at z3 z4
          clear HX hmn hmx hne
          cases p with
          | false =>
            cases q with
            | false =>
              go_wp2_with fail
              go_quiet (fail)
              obtain ⟨wd, HWD⟩ := hid_ex (wq.drewN nq)
              rw [← HWD.out]
              have HB5 : Hid (Below w.heap.size w wd) := by rw [HWD.out]; exact below_dN HBr.out _
              have HC5 : Hid (wd.heap[w1.heap.size]? = some (.cells #[.int .u64 A.c, .bool A.o, .int .i64 (hi A.s), .int .u64 (lo A.s), .int .i64 A.mn, .int .i64 A.mx] 28)) := by rw [HWD.out]; exact HCr.out
              have HM5 : Hid (IReads wd (.slice am l.length cm) (irot l t)) := by rw [HWD.out]; exact HMr.out.below (below_dN (Below.refl _ _) _)
              clear HWD c1 z3 z4
              have c1 := (HB5.out.cell (p := ⟨bA, oA + k2, none⟩) hbA).trans d1
              have z3 := c_rw HC5.out 4 (by simp)
              have z4 := c_rw HC5.out 5 (by simp)
              simp only [List.getElem_toArray, List.getElem_cons_succ, List.getElem_cons_zero] at z3 z4
              go_wp2_with fail
              go_quiet (fail)
              have HB6 : Hid (Below w.heap.size w (wd.drewN nq)) := below_dN HB5.out _
              have HC6 : Hid ((wd.drewN nq).heap[w1.heap.size]? = some (.cells #[.int .u64 A.c, .bool A.o, .int .i64 (hi A.s), .int .u64 (lo A.s), .int .i64 A.mn, .int .i64 A.mx] 28)) := HC5.out
              have HM6 : Hid (IReads (wd.drewN nq) (.slice am l.length cm) (irot l t)) := HM5.out.below (below_dN (Below.refl _ _) _)
              go_wp2_with fail
              go_roundw
              case rel => exact ⟨k2 + 1, (x == A.mn), (x == A.mx), by omega, rfl, rfl, by go_num, HLN.out.1 false (by simpa using HLp.out), HLN.out.2 false (by simpa using HHp.out), HM6, HC6, HB6⟩
              case measure => simp [intOf]; omega
            | true =>
              go_wp2_with fail
              go_quiet (fail)
              obtain ⟨wd, HWD⟩ := hid_ex (wq.drewN nq)
              rw [← HWD.out]
              have HB5 : Hid (Below w.heap.size w wd) := by rw [HWD.out]; exact below_dN HBr.out _
              have HC5 : Hid (wd.heap[w1.heap.size]? = some (.cells #[.int .u64 A.c, .bool A.o, .int .i64 (hi A.s), .int .u64 (lo A.s), .int .i64 A.mn, .int .i64 A.mx] 28)) := by rw [HWD.out]; exact HCr.out
              have HM5 : Hid (IReads wd (.slice am l.length cm) (irot l t)) := by rw [HWD.out]; exact HMr.out.below (below_dN (Below.refl _ _) _)
              clear HWD c1 z3 z4
              have c1 := (HB5.out.cell (p := ⟨bA, oA + k2, none⟩) hbA).trans d1
              have z3 := c_rw HC5.out 4 (by simp)
              have z4 := c_rw HC5.out 5 (by simp)
              simp only [List.getElem_toArray, List.getElem_cons_succ, List.getElem_cons_zero] at z3 z4
              go_wp2_with fail
              go_quiet (fail)
              have HB6 : Hid (Below w.heap.size w (wd.drewN nq)) := below_dN HB5.out _
              have HC6 : Hid ((wd.drewN nq).heap[w1.heap.size]? = some (.cells #[.int .u64 A.c, .bool A.o, .int .i64 (hi A.s), .int .u64 (lo A.s), .int .i64 A.mn, .int .i64 A.mx] 28)) := HC5.out
              have HM6 : Hid (IReads (wd.drewN nq) (.slice am l.length cm) (irot l t)) := HM5.out.below (below_dN (Below.refl _ _) _)
              go_wp2_with fail
              go_roundw
              case rel => exact ⟨k2 + 1, (x == A.mn), true, by omega, rfl, rfl, by go_num, HLN.out.1 false (by simpa using HLp.out), HLN.out.2 true (by simpa using HHp.out), HM6, HC6, HB6⟩
              case measure => simp [intOf]; omega
          | true =>
            cases q with
            | false =>
              go_wp2_with fail
              go_quiet (fail)
              obtain ⟨wd, HWD⟩ := hid_ex (wq.drewN nq)
              rw [← HWD.out]
              have HB5 : Hid (Below w.heap.size w wd) := by rw [HWD.out]; exact below_dN HBr.out _
              have HC5 : Hid (wd.heap[w1.heap.size]? = some (.cells #[.int .u64 A.c, .bool A.o, .int .i64 (hi A.s), .int .u64 (lo A.s), .int .i64 A.mn, .int .i64 A.mx] 28)) := by rw [HWD.out]; exact HCr.out
              have HM5 : Hid (IReads wd (.slice am l.length cm) (irot l t)) := by rw [HWD.out]; exact HMr.out.below (below_dN (Below.refl _ _) _)
              clear HWD c1 z3 z4
              have c1 := (HB5.out.cell (p := ⟨bA, oA + k2, none⟩) hbA).trans d1
              have z3 := c_rw HC5.out 4 (by simp)
              have z4 := c_rw HC5.out 5 (by simp)
              simp only [List.getElem_toArray, List.getElem_cons_succ, List.getElem_cons_zero] at z3 z4
              go_wp2_with fail
              go_quiet (fail)
              have HB6 : Hid (Below w.heap.size w (wd.drewN nq)) := below_dN HB5.out _
              have HC6 : Hid ((wd.drewN nq).heap[w1.heap.size]? = some (.cells #[.int .u64 A.c, .bool A.o, .int .i64 (hi A.s), .int .u64 (lo A.s), .int .i64 A.mn, .int .i64 A.mx] 28)) := HC5.out
              have HM6 : Hid (IReads (wd.drewN nq) (.slice am l.length cm) (irot l t)) := HM5.out.below (below_dN (Below.refl _ _) _)
              go_wp2_with fail
              go_roundw
              case rel => exact ⟨k2 + 1, true, (x == A.mx), by omega, rfl, rfl, by go_num, HLN.out.1 true (by simpa using HLp.out), HLN.out.2 false (by simpa using HHp.out), HM6, HC6, HB6⟩
              case measure => simp [intOf]; omega
            | true =>
              go_wp2_with fail
              go_quiet (fail)
              obtain ⟨wd, HWD⟩ := hid_ex (wq.drewN nq)
              rw [← HWD.out]
              have HB5 : Hid (Below w.heap.size w wd) := by rw [HWD.out]; exact below_dN HBr.out _
              have HC5 : Hid (wd.heap[w1.heap.size]? = some (.cells #[.int .u64 A.c, .bool A.o, .int .i64 (hi A.s), .int .u64 (lo A.s), .int .i64 A.mn, .int .i64 A.mx] 28)) := by rw [HWD.out]; exact HCr.out
              have HM5 : Hid (IReads wd (.slice am l.length cm) (irot l t)) := by rw [HWD.out]; exact HMr.out.below (below_dN (Below.refl _ _) _)
              clear HWD c1 z3 z4
              have c1 := (HB5.out.cell (p := ⟨bA, oA + k2, none⟩) hbA).trans d1
              have z3 := c_rw HC5.out 4 (by simp)
              have z4 := c_rw HC5.out 5 (by simp)
              simp only [List.getElem_toArray, List.getElem_cons_succ, List.getElem_cons_zero] at z3 z4
              go_wp2_with fail
              go_quiet (fail)
              have HB6 : Hid (Below w.heap.size w (wd.drewN nq)) := below_dN HB5.out _
              have HC6 : Hid ((wd.drewN nq).heap[w1.heap.size]? = some (.cells #[.int .u64 A.c, .bool A.o, .int .i64 (hi A.s), .int .u64 (lo A.s), .int .i64 A.mn, .int .i64 A.mx] 28)) := HC5.out
              have HM6 : Hid (IReads (wd.drewN nq) (.slice am l.length cm) (irot l t)) := HM5.out.below (below_dN (Below.refl _ _) _)
              go_wp2_with fail
              go_roundw
              case rel => exact ⟨k2 + 1, true, true, by omega, rfl, rfl, by go_num, HLN.out.1 true (by simpa using HLp.out), HLN.out.2 true (by simpa using HHp.out), HM6, HC6, HB6⟩
              case measure => simp [intOf]; omega
        · have hkl2 : k2 = l.length := by omega
          rw [hkl2, List.take_length] at HLp HHp
          have hall : (l = [] ∨ A.mn ∈ l) ∧ (l = [] ∨ A.mx ∈ l) := by
            rcases HKA.out with ⟨h1, _⟩ | ⟨_, _, _, _, h5, h6⟩
            · exact ⟨.inl h1, .inl h1⟩
            · exact ⟨.inr h5.1, .inr h6.1⟩
          have hp1 := HLp.out.2 hall.1
          have hq1 := HHp.out.2 hall.2
          subst hp1 hq1
          have hAc := HKA.out.c
          clear hall HLp HHp HMr0 HBr0 HCr0
          have HC6 : Hid (wq.heap[w1.heap.size]? = some (.cells #[.int .u64 A.c, .bool A.o, .int .i64 (hi A.s), .int .u64 (lo A.s), .int .i64 A.mn, .int .i64 A.mx] 28)) := HCr
          have hw64 : IntKind.u64.wrap (l.length : Int) = A.c := by rw [IntKind.wrap_u64, hAc.1]; omega
          have HAO : Hid (A.o = false) := hAc.2
          have HW64 : Hid _ := hw64
          clear hAc hw64
          go_wp2_with fail
          refine wp_region_noPanic ?_
          refine wp_region_held_drew (S := (fun w' => Below wq.heap.size wq w')) (by kernel_rfl) ?_ (fun hHeld => ?_)
          · exact (Below.refl _ _).drew
          refine wpAnyH_ready (rs := [0]) (by kernel_rfl) (by simp) ?_
          refine AllReadyH.cons (o := _) rfl (fun K hK => ?_) AllReadyH.nil
          go_simp
          refine (alive2_any _).mono ?_
          rintro e w7 ⟨rfl, hb7⟩
          have HW7 : Hid (Below wq.heap.size wq w7) := (Below.refl wq.heap.size wq).drew.trans hb7
          clear hb7
          refine hK.out _ _ ?_ (fun hHeld => ?_)
          · exact HW7.out
          clear hK K
          refine wpAnyH_take (i := 1) (v := .bool true) rfl (by kernel_rfl) (by kernel_rfl) (by kernel_rfl) (fun _ _ _ h => h) (Or.inl ⟨by rfl, ?_⟩) (by assumption) ?_
          · (intro w1 hSw; (try dsimp only at hSw); go_simp)
          simp only [List.getElem_toArray, List.getElem_cons_succ, List.getElem_cons_zero, Act.put, List.setIfInBounds_toArray, List.set_cons_zero, List.set_cons_succ]
          refine wpAnyH_take (i := 2) (v := .slice am l.length cm) rfl (by kernel_rfl) (by kernel_rfl) (by kernel_rfl) (fun _ _ _ h => h) (Or.inl ⟨by rfl, ?_⟩) (by assumption) ?_
          · (intro w1 hSw; (try dsimp only at hSw); go_simp)
          simp only [List.getElem_toArray, List.getElem_cons_succ, List.getElem_cons_zero, Act.put, List.setIfInBounds_toArray, List.set_cons_zero, List.set_cons_succ]
          refine wpAnyH_take (i := 4) (v := .agg #[.int .u64 A.c, .bool A.o, .int .i64 (hi A.s), .int .u64 (lo A.s), .int .i64 A.mn, .int .i64 A.mx]) rfl (by kernel_rfl) (by kernel_rfl) (by kernel_rfl) (fun _ _ _ h => h) (Or.inl ⟨by rfl, ?_⟩) (by assumption) ?_
          · (intro w1 hSw; (try dsimp only at hSw); have hxx := (hSw.block _ (Array.getElem?_eq_some_iff.1 HC6.out).1).trans HC6.out; have h0 := c_rw hxx 0 (by simp); have h1 := c_rw hxx 1 (by simp); have h2 := c_rw hxx 2 (by simp); have h3 := c_rw hxx 3 (by simp); have h4 := c_rw hxx 4 (by simp); have h5 := c_rw hxx 5 (by simp); simp only [List.getElem_toArray, List.getElem_cons_succ, List.getElem_cons_zero] at h0 h1 h2 h3 h4 h5; go_simp)
          simp only [List.getElem_toArray, List.getElem_cons_succ, List.getElem_cons_zero, Act.put, List.setIfInBounds_toArray, List.set_cons_zero, List.set_cons_succ]
          refine wpAnyH_ready (rs := [3]) (by kernel_rfl) (by simp) ?_
          refine AllReadyH.cons (o := _) rfl (fun K hK => ?_) AllReadyH.nil
          go_simp
          refine (many_any _ (irot l t) (by rw [irot_len]; omega) (fun z hz => HBD.out z ((irot_perm l t).mem_iff.1 hz)) _ (HMr.out.below HW7.out)).mono ?_
          rintro e w8 ⟨A8, rfl, hK8, hb8⟩
          have hAA : A = A8 := HKA.out.uniq (hK8.perm (irot_perm l t))
          subst hAA
          have HW8 : Hid (Below wq.heap.size wq w8) := HW7.out.trans (hb8.mono HW7.out.size)
          clear hb8 hK8
          refine hK.out _ _ ?_ (fun hHeld => ?_)
          · exact HW8.out
          clear hK K
          refine wpAnyH_take (i := 5) (v := .bool true) rfl (by kernel_rfl) (by kernel_rfl) (by kernel_rfl) (fun _ _ _ h => h) (Or.inl ⟨by rfl, ?_⟩) (by assumption) ?_
          · (intro w1 hSw; (try dsimp only at hSw); go_simp)
          simp only [List.getElem_toArray, List.getElem_cons_succ, List.getElem_cons_zero, Act.put, List.setIfInBounds_toArray, List.set_cons_zero, List.set_cons_succ]
          refine wpAnyH_take (i := 6) (v := .bool true) rfl (by kernel_rfl) (by kernel_rfl) (by kernel_rfl) (fun _ _ _ h => h) (Or.inl ⟨by rfl, ?_⟩) (by assumption) ?_
          · (intro w1 hSw; (try dsimp only at hSw); go_simp)
          simp only [List.getElem_toArray, List.getElem_cons_succ, List.getElem_cons_zero, Act.put, List.setIfInBounds_toArray, List.set_cons_zero, List.set_cons_succ]
          refine wpAnyH_take (i := 7) (v := .bool true) rfl (by kernel_rfl) (by kernel_rfl) (by kernel_rfl) (fun _ _ _ h => h) (Or.inl ⟨by rfl, ?_⟩) (by assumption) ?_
          · (intro w1 hSw; (try dsimp only at hSw); go_simp)
          simp only [List.getElem_toArray, List.getElem_cons_succ, List.getElem_cons_zero, Act.put, List.setIfInBounds_toArray, List.set_cons_zero, List.set_cons_succ]
          refine wpAnyH_take (i := 8) (v := .bool true) rfl (by kernel_rfl) (by kernel_rfl) (by kernel_rfl) (fun _ _ _ h => h) (Or.inl ⟨by rfl, ?_⟩) (by assumption) ?_
          · (intro w1 hSw; (try dsimp only at hSw); go_simp)
          simp only [List.getElem_toArray, List.getElem_cons_succ, List.getElem_cons_zero, Act.put, List.setIfInBounds_toArray, List.set_cons_zero, List.set_cons_succ]
          refine wpAnyH_take (i := 9) (v := .bool true) rfl (by kernel_rfl) (by kernel_rfl) (by kernel_rfl) (fun _ _ _ h => h) (Or.inl ⟨by rfl, ?_⟩) (by assumption) ?_
          · (intro w1 hSw; (try dsimp only at hSw); go_simp)
          simp only [List.getElem_toArray, List.getElem_cons_succ, List.getElem_cons_zero, Act.put, List.setIfInBounds_toArray, List.set_cons_zero, List.set_cons_succ]
          refine wpAnyH_take (i := 10) (v := .bool true) rfl (by kernel_rfl) (by kernel_rfl) (by kernel_rfl) (fun _ _ _ h => h) (Or.inl ⟨by rfl, ?_⟩) (by assumption) ?_
          · (intro w1 hSw; (try dsimp only at hSw); go_simp)
          simp only [List.getElem_toArray, List.getElem_cons_succ, List.getElem_cons_zero, Act.put, List.setIfInBounds_toArray, List.set_cons_zero, List.set_cons_succ]
          refine wpAnyH_take (i := 11) (v := .bool true) rfl (by kernel_rfl) (by kernel_rfl) (by kernel_rfl) (fun _ _ _ h => h) (Or.inl ⟨by rfl, ?_⟩) (by assumption) ?_
          · (intro w1 hSw; (try dsimp only at hSw); go_simp)
          simp only [List.getElem_toArray, List.getElem_cons_succ, List.getElem_cons_zero, Act.put, List.setIfInBounds_toArray, List.set_cons_zero, List.set_cons_succ]
          refine wpAnyH_take (i := 12) (v := .bool true) rfl (by kernel_rfl) (by kernel_rfl) (by kernel_rfl) (fun _ _ _ h => h) (Or.inl ⟨by rfl, ?_⟩) (by assumption) ?_
          · (intro w1 hSw; (try dsimp only at hSw); go_simp)
          simp only [List.getElem_toArray, List.getElem_cons_succ, List.getElem_cons_zero, Act.put, List.setIfInBounds_toArray, List.set_cons_zero, List.set_cons_succ]
          refine wpAnyH_take (i := 13) (v := .bool true) rfl (by kernel_rfl) (by kernel_rfl) (by kernel_rfl) (fun _ _ _ h => h) (Or.inl ⟨by rfl, ?_⟩) (by assumption) ?_
          · (intro w1 hSw; (try dsimp only at hSw); go_simp)
          simp only [List.getElem_toArray, List.getElem_cons_succ, List.getElem_cons_zero, Act.put, List.setIfInBounds_toArray, List.set_cons_zero, List.set_cons_succ]
          refine wpAnyH_take (i := 14) (v := .pointer (some ⟨w1.heap.size, 0, none⟩)) rfl (by kernel_rfl) (by kernel_rfl) (by kernel_rfl) (fun _ _ _ h => h) (Or.inl ⟨by rfl, ?_⟩) (by assumption) ?_
          · (intro w1 hSw; (try dsimp only at hSw); go_simp)
          simp only [List.getElem_toArray, List.getElem_cons_succ, List.getElem_cons_zero, Act.put, List.setIfInBounds_toArray, List.set_cons_zero, List.set_cons_succ]
          refine wpAnyH_take (i := 15) (v := .int .u64 A.c) rfl (by kernel_rfl) (by kernel_rfl) (by kernel_rfl) (fun _ _ _ h => h) (Or.inl ⟨by rfl, ?_⟩) (by assumption) ?_
          · (intro w1 hSw; (try dsimp only at hSw); have hxx := (hSw.block _ (Array.getElem?_eq_some_iff.1 HC6.out).1).trans HC6.out; have h0 := c_rw hxx 0 (by simp); have h1 := c_rw hxx 1 (by simp); have h2 := c_rw hxx 2 (by simp); have h3 := c_rw hxx 3 (by simp); have h4 := c_rw hxx 4 (by simp); have h5 := c_rw hxx 5 (by simp); simp only [List.getElem_toArray, List.getElem_cons_succ, List.getElem_cons_zero] at h0 h1 h2 h3 h4 h5; go_simp)
          simp only [List.getElem_toArray, List.getElem_cons_succ, List.getElem_cons_zero, Act.put, List.setIfInBounds_toArray, List.set_cons_zero, List.set_cons_succ]
          refine wpAnyH_take (i := 16) (v := .slice al l.length cl) rfl (by kernel_rfl) (by kernel_rfl) (by kernel_rfl) (fun _ _ _ h => h) (Or.inl ⟨by rfl, ?_⟩) (by assumption) ?_
          · (intro w1 hSw; (try dsimp only at hSw); go_simp)
          simp only [List.getElem_toArray, List.getElem_cons_succ, List.getElem_cons_zero, Act.put, List.setIfInBounds_toArray, List.set_cons_zero, List.set_cons_succ]
          refine wpAnyH_take (i := 17) (v := .int .i64 (l.length : Int)) rfl (by kernel_rfl) (by kernel_rfl) (by kernel_rfl) (fun _ _ _ h => h) (Or.inl ⟨by rfl, ?_⟩) (by assumption) ?_
          · (intro w1 hSw; (try dsimp only at hSw); go_simp)
          simp only [List.getElem_toArray, List.getElem_cons_succ, List.getElem_cons_zero, Act.put, List.setIfInBounds_toArray, List.set_cons_zero, List.set_cons_succ]
          refine wpAnyH_take (i := 18) (v := .int .u64 A.c) rfl (by kernel_rfl) (by kernel_rfl) (by kernel_rfl) (fun _ _ _ h => h) (Or.inl ⟨by rfl, ?_⟩) (by assumption) ?_
          · (intro w1 hSw; (try dsimp only at hSw); go_simp; exact HW64.out)
          simp only [List.getElem_toArray, List.getElem_cons_succ, List.getElem_cons_zero, Act.put, List.setIfInBounds_toArray, List.set_cons_zero, List.set_cons_succ]
          refine wpAnyH_take (i := 19) (v := .bool true) rfl (by kernel_rfl) (by kernel_rfl) (by kernel_rfl) (fun _ _ _ h => h) (Or.inl ⟨by rfl, ?_⟩) (by assumption) ?_
          · (intro w1 hSw; (try dsimp only at hSw); go_simp)
          simp only [List.getElem_toArray, List.getElem_cons_succ, List.getElem_cons_zero, Act.put, List.setIfInBounds_toArray, List.set_cons_zero, List.set_cons_succ]
          refine wpAnyH_take (i := 20) (v := .bool true) rfl (by kernel_rfl) (by kernel_rfl) (by kernel_rfl) (fun _ _ _ h => h) (Or.inl ⟨by rfl, ?_⟩) (by assumption) ?_
          · (intro w1 hSw; (try dsimp only at hSw); go_simp)
          simp only [List.getElem_toArray, List.getElem_cons_succ, List.getElem_cons_zero, Act.put, List.setIfInBounds_toArray, List.set_cons_zero, List.set_cons_succ]
          refine wpAnyH_take (i := 21) (v := .bool true) rfl (by kernel_rfl) (by kernel_rfl) (by kernel_rfl) (fun _ _ _ h => h) (Or.inl ⟨by rfl, ?_⟩) (by assumption) ?_
          · (intro w1 hSw; (try dsimp only at hSw); go_simp)
          simp only [List.getElem_toArray, List.getElem_cons_succ, List.getElem_cons_zero, Act.put, List.setIfInBounds_toArray, List.set_cons_zero, List.set_cons_succ]
          refine wpAnyH_take (i := 22) (v := .pointer (some ⟨w1.heap.size, 1, none⟩)) rfl (by kernel_rfl) (by kernel_rfl) (by kernel_rfl) (fun _ _ _ h => h) (Or.inl ⟨by rfl, ?_⟩) (by assumption) ?_
          · (intro w1 hSw; (try dsimp only at hSw); go_simp)
          simp only [List.getElem_toArray, List.getElem_cons_succ, List.getElem_cons_zero, Act.put, List.setIfInBounds_toArray, List.set_cons_zero, List.set_cons_succ]
          refine wpAnyH_take (i := 23) (v := .bool false) rfl (by kernel_rfl) (by kernel_rfl) (by kernel_rfl) (fun _ _ _ h => h) (Or.inl ⟨by rfl, ?_⟩) (by assumption) ?_
          · (intro w1 hSw; (try dsimp only at hSw); have hxx := (hSw.block _ (Array.getElem?_eq_some_iff.1 HC6.out).1).trans HC6.out; have h0 := c_rw hxx 0 (by simp); have h1 := c_rw hxx 1 (by simp); have h2 := c_rw hxx 2 (by simp); have h3 := c_rw hxx 3 (by simp); have h4 := c_rw hxx 4 (by simp); have h5 := c_rw hxx 5 (by simp); simp only [List.getElem_toArray, List.getElem_cons_succ, List.getElem_cons_zero] at h0 h1 h2 h3 h4 h5; rw [HAO.out] at h1; go_simp)
          simp only [List.getElem_toArray, List.getElem_cons_succ, List.getElem_cons_zero, Act.put, List.setIfInBounds_toArray, List.set_cons_zero, List.set_cons_succ]
          refine wpAnyH_take (i := 24) (v := .bool true) rfl (by kernel_rfl) (by kernel_rfl) (by kernel_rfl) (fun _ _ _ h => h) (Or.inl ⟨by rfl, ?_⟩) (by assumption) ?_
          · (intro w1 hSw; (try dsimp only at hSw); go_simp)
          simp only [List.getElem_toArray, List.getElem_cons_succ, List.getElem_cons_zero, Act.put, List.setIfInBounds_toArray, List.set_cons_zero, List.set_cons_succ]
          refine wpAnyH_take (i := 25) (v := .bool true) rfl (by kernel_rfl) (by kernel_rfl) (by kernel_rfl) (fun _ _ _ h => h) (Or.inl ⟨by rfl, ?_⟩) (by assumption) ?_
          · (intro w1 hSw; (try dsimp only at hSw); go_simp)
          simp only [List.getElem_toArray, List.getElem_cons_succ, List.getElem_cons_zero, Act.put, List.setIfInBounds_toArray, List.set_cons_zero, List.set_cons_succ]
          refine wpAnyH_ready (rs := [26]) (by kernel_rfl) (by simp) ?_
          refine AllReadyH.cons (o := _) rfl (fun K hK => ?_) AllReadyH.nil
          go_simp
          refine hK.out _ _ ?_ (fun hHeld => ?_)
          · exact HW8.out
          clear hK K
          clear hHeld
          refine wpAnyH_done (by kernel_rfl) ?_ _
          refine NoPanic.normal ?_
          go_wp2_with fail
          go_ret
          exact ⟨rfl, HBr.out.trans (HW8.out.mono HBr.out.size)⟩
end Go.Proofs.Ytjigfcbdejiboaa
