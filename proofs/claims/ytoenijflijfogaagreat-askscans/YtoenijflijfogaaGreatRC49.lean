/- BR3, joined. -/
import Derived.Test.YtoenijflijfogaaGreatRC28
import Derived.Test.YtoenijflijfogaaGreatRC48
/- Layer 17: the reference's put (written by mkbr3.py). -/
namespace Go.Proofs.YtoenijflijfogaaGreat
open Go.RowKit

/-- Rows in memory, and no capacity where there is no memory. -/
def TRz (w : World) (v : Value) (xs : List It) : Prop := TReads w v xs ∧ ∀ n c, v = .slice none n c → c = 0
theorem TRz.below {w w' : World} {v : Value} {xs : List It} (h : TRz w v xs) (hb : Below w.heap.size w w') : TRz w' v xs := ⟨h.1.below hb, h.2⟩
theorem TRz.nil (w : World) : TRz w (.slice none 0 0) [] := ⟨⟨none, 0, rfl, Nat.le_refl _, Nat.zero_le _, .inl rfl⟩, fun n c e => by simp at e; exact e.2.symm⟩
theorem TG.readz {T : TypeId} {V W : World} {v : Value} {ys : List It} (h : TG T V.heap.size V W v ys) : TRz W v ys := by
  refine ⟨h.reads, fun n c e => ?_⟩
  obtain ⟨a, cap, rfl, h1, h2, h3, h4⟩ := GOwn.form h.o
  simp only [Value.slice.injEq] at e
  rw [← e.2.2]; exact (h4 e.1).2
theorem TG.apps {T U : TypeId} (hu : Tryz.prog.underlying U = some (.slice T)) (hinf : (Tryz.prog.info? T).map (fun i => (i.zero, i.size, i.bytes)) = some (some (.agg #[.slice none 0 0, .int .i64 0, .int .i64 0, .int .u64 0, .bool false, .int .i64 0, .int .u64 0, .int .i64 0, .int .i64 0]), 9, 88))
    {base : Nat} {V W : World} {v : Value} {ys : List It} (h : TG T base V W v ys) (hs : base ≤ W.heap.size) {av : Value} {zs : List It} (ha : TRz W av zs) (hz : ∀ z ∈ zs, SReads V z.v z.D) (hl : ys.length ≤ 200000) (hl2 : zs.length ≤ 200000) :
    ∃ v' w', (Builtin.append_ #[U, U] U #[v, av]).run Tryz.prog W = .ok v' w' ∧ TG T base V w' v' (ys ++ zs) ∧ base ≤ w'.heap.size ∧ (∀ k, v'.ownBlock = some k → v.ownBlock = some k ∨ W.heap.size ≤ k) ∧ ∀ c, c < W.heap.size → v.ownBlock ≠ some c → w'.heap[c]? = W.heap[c]? := by
  obtain ⟨i0, hi, hz0, hz1, hz2⟩ := info_parts hinf
  obtain ⟨aa, ac, hav, q1, q2, q3⟩ := ha.1
  have hsr : GSrc W 9 av zs.length (zs.flatMap c9) := by
    refine ⟨by rw [flat9_len], ?_⟩
    cases aa with
    | none =>
      left
      have hc := ha.2 _ _ hav
      rw [hc] at hav q1
      exact ⟨by rw [hav, show zs.length = 0 by omega], by omega⟩
    | some ad =>
      right
      refine ⟨ad, ac, hav, fun j u hj => ?_⟩
      rcases q3 with rfl | ⟨b, off, e, hb, hc⟩
      · simp at hj
      · simp only [Option.some.injEq] at e
        subst e
        have hjl : j < 9 * zs.length := by
          have := (List.getElem?_eq_some_iff.1 hj).1
          rw [flat9_len] at this; omega
        have h9 := flat9 zs (j / 9) (j % 9) (by omega) (by omega)
        rw [show 9 * (j / 9) + j % 9 = j by omega, hj] at h9
        have hcc := (hc (j / 9) (by omega)).1 (j % 9) (by omega)
        rw [List.getElem?_eq_getElem (show j % 9 < (c9 zs[j / 9]).length by rw [c9_len]; omega)] at h9
        replace hcc := hcc.trans h9.symm
        have ea : (⟨b, off, none⟩ : Addr).add j = ⟨b, off + j / 9 * 9 + j % 9, none⟩ := by
          unfold Addr.add
          by_cases hz : j = 0
          · rw [if_pos hz]; exact congrArg (fun x => (⟨b, x, none⟩ : Addr)) (show off = off + j / 9 * 9 + j % 9 by omega)
          · rw [if_neg hz]; exact congrArg (fun x => (⟨b, x, none⟩ : Addr)) (show off + j = off + j / 9 * 9 + j % 9 by omega)
        rw [ea]; exact hcc
  have h1 : ∀ u ∈ zs.flatMap c9, u.oneCell' = true := fun u hu => by
    obtain ⟨z, hz', hu2⟩ := List.mem_flatMap.1 hu
    obtain ⟨a, c, hv, _⟩ := (hz z hz').form
    exact one9 (x := z) (by rw [hv]; rfl) u hu2
  obtain ⟨v', W', g1, g2, g3, g4⟩ := run_gapp (P := Tryz.prog) U U T i0 _ 9 88 hu hi hz0 hz1 hz2 rfl v ys.length _ h.o av zs.length _ hsr h1 (by unfold maxLen; omega) (by omega)
  have hsz := g3.size
  refine ⟨v', W', g1, ⟨?_, fun k q => ?_, h.b.grown g3 hs (fun k q => (h.k k q).1), fun z hz' => ?_⟩, by omega, fun k q => (g4 k q).imp id (fun z => z.1), fun c hc hne => g3.block c hc (fun e => hne e.symm)⟩
  · rw [List.length_append, List.flatMap_append]; exact g2
  · rcases g4 k q with z | z
    · have := h.k k z; omega
    · omega
  · rcases List.mem_append.1 hz' with hz' | hz'
    · exact h.s z hz'
    · exact hz z hz'
theorem TG.store {T : TypeId} {base : Nat} {V W W' : World} {v : Value} {ys : List It} (h : TG T base V W v ys) {g : Nat} (hg : v.ownBlock ≠ some g) (ho : ∀ c, c ≠ g → W'.heap[c]? = W.heap[c]?) (hB : Below base W W') : TG T base V W' v ys :=
  ⟨GOwn.keep h.o fun k q => ho k fun e => hg (e ▸ q), fun k q => ⟨(h.k k q).1, Nat.lt_of_lt_of_le (h.k k q).2 hB.size⟩, h.b.trans hB, h.s⟩
theorem sizeF17 (w : World) : (sizeOf 42).run Tryz.prog w = .ok 9 w := by
  simp [sizeOf]
  rfl
theorem elemF17 : Tryz.prog.elem 46 = 42 := by kernel_rfl
theorem undF17 : Tryz.prog.underlying 46 = some (.slice (Tryz.prog.elem 46)) := by rw [elemF17]; exact Tryz.underlying46
theorem TRz.part {w : World} {a : Option Addr} {n cap : Nat} {xs : List It} (h : TRz w (.slice a n cap) xs) (hn : xs.length = n) {c d : Nat} (hcd : c ≤ d) (hd : d ≤ n) : ∃ a' cap', Go.sliced a c d cap 9 = .slice a' (d - c) cap' ∧ TRz w (.slice a' (d - c) cap') ((xs.drop c).take (d - c)) := by
  obtain ⟨⟨aa, ac, hav, q1, q2, q3⟩, hz⟩ := h
  simp only [Value.slice.injEq] at hav
  obtain ⟨rfl, hnn, rfl⟩ := hav
  have hl : ((xs.drop c).take (d - c)).length = d - c := by rw [List.length_take, List.length_drop]; omega
  refine ⟨(if cap = c then a else a.map (·.add (c * 9))), cap - c, rfl, ⟨⟨_, cap - c, by rw [hl], by omega, by omega, ?_⟩, fun n' c' e => ?_⟩⟩
  · rcases Nat.eq_zero_or_pos (d - c) with h0 | h0
    · exact .inl (List.length_eq_zero_iff.1 (by rw [hl]; exact h0))
    · rcases q3 with rfl | ⟨b, off, rfl, hb, hc⟩
      · simp at hn; omega
      · rw [if_neg (by omega)]
        have ea : Option.map (fun x : Addr => x.add (c * 9)) (some (⟨b, off, none⟩ : Addr)) = some ⟨b, off + c * 9, none⟩ := by
          show some ((⟨b, off, none⟩ : Addr).add (c * 9)) = _
          unfold Addr.add
          by_cases hz : c * 9 = 0
          · rw [if_pos hz]; exact congrArg (fun x => some (⟨b, x, none⟩ : Addr)) (show off = off + c * 9 by omega)
          · rw [if_neg hz]
        rw [ea]
        refine .inr ⟨b, off + c * 9, rfl, hb, fun j hj => ?_⟩
        rw [hl] at hj
        have e1 : ((xs.drop c).take (d - c))[j]'(by rw [hl]; exact hj) = xs[c + j]'(by omega) := by simp
        rw [e1]
        obtain ⟨g1, g2⟩ := hc (c + j) (by omega)
        refine ⟨fun i hi => ?_, g2⟩
        rw [show off + c * 9 + j * 9 + i = off + (c + j) * 9 + i by omega]
        exact g1 i hi
  · simp only [Value.slice.injEq] at e
    obtain ⟨e1, _, e3⟩ := e
    cases a with
    | none => have := hz _ _ rfl; omega
    | some x => split at e1 <;> simp at e1
theorem tsf_upto {w : World} {a : Option Addr} {n cap : Nat} {xs : List It} (h : TRz w (.slice a n cap) xs) (hn : xs.length = n) {d : Nat} (hd : d ≤ n) :
    ∃ a' cap', (∀ w', (Instr.slice 46 (.slice a n cap) none (some (.int .i64 (d : Int))) none).run Tryz.prog w' = .ok (.slice a' d cap') w') ∧ TRz w (.slice a' d cap') (xs.take d) := by
  obtain ⟨a', cap', e, hr⟩ := h.part hn (Nat.zero_le d) hd
  rw [Nat.sub_zero, List.drop_zero] at hr
  obtain ⟨_, _, hv, q1, q2, _⟩ := h.1
  simp only [Value.slice.injEq] at hv
  refine ⟨a', cap', fun w' => ?_, hr⟩
  rw [run_slice_h _ _ _ _ _ undF17 _ _ (by omega) (by omega), elemF17, sizeF17]
  show Result.ok (Go.sliced a 0 (d : Int).toNat cap 9) w' = _
  rw [Int.toNat_natCast, e, Nat.sub_zero]
theorem tsf_from {w : World} {a : Option Addr} {n cap : Nat} {xs : List It} (h : TRz w (.slice a n cap) xs) (hn : xs.length = n) {c : Nat} (hc : c ≤ n) :
    ∃ a' cap', (∀ w', (Instr.slice 46 (.slice a n cap) (some (.int .i64 (c : Int))) none none).run Tryz.prog w' = .ok (.slice a' (n - c) cap') w') ∧ TRz w (.slice a' (n - c) cap') (xs.drop c) := by
  obtain ⟨a', cap', e, hr⟩ := h.part hn hc (Nat.le_refl n)
  rw [List.take_of_length_le (by rw [List.length_drop]; omega)] at hr
  obtain ⟨_, _, hv, q1, q2, _⟩ := h.1
  simp only [Value.slice.injEq] at hv
  refine ⟨a', cap', fun w' => ?_, hr⟩
  rw [run_slice_l _ _ _ _ _ undF17 _ _ (by omega) (by omega), elemF17, sizeF17]
  show Result.ok (Go.sliced a (c : Int).toNat n cap 9) w' = _
  rw [Int.toNat_natCast, e]
/-- Where a row comes among others. -/
theorem insI_at {x : It} : ∀ {xs : List It} {k : Nat}, k ≤ xs.length → (∀ j (hj : j < xs.length), j < k → lj xs[j].D x.D) → (∀ hk : k < xs.length, ¬ lj xs[k].D x.D) →
    insI x xs = xs.take k ++ (match xs[k]? with | some y => if x.D = y.D then { x with a := mrg y.a x.a } :: xs.drop (k + 1) else x :: xs.drop k | none => x :: xs.drop k)
  | [], k, hk, _, _ => by
    have : k = 0 := by simpa using hk
    subst this; rfl
  | y :: L, 0, _, _, h2 => by
    have hn : ¬ lj y.D x.D := h2 (by simp)
    show insI x (y :: L) = if x.D = y.D then _ else _
    unfold insI
    by_cases h : lj x.D y.D
    · rw [if_pos h, if_neg (fun e => by rw [e] at h; exact lj_irr _ h)]; rfl
    · rcases lj_tri x.D y.D with q | q | q
      · exact absurd q h
      · rw [if_neg h, if_pos q, if_pos q]; rfl
      · exact absurd q hn
  | y :: L, k + 1, hk, h1, h2 => by
    have hy : lj y.D x.D := h1 0 (by simp) (by omega)
    have ih := insI_at (x := x) (xs := L) (k := k) (by simpa using hk) (fun j hj hjk => by have := h1 (j + 1) (by simp; omega) (by omega); simpa using this) (fun hk' => by have := h2 (by simp; omega); simpa using this)
    unfold insI
    rw [if_neg (fun h => lj_irr _ (lj_tr h hy)), if_neg (fun e => by rw [e] at hy; exact lj_irr _ hy), ih]
    simp
theorem less_cm {A B : List ByteArray} {cm : Int} (h : cm = cmpL A B) : (lj A B ↔ cm < 0) ∧ (A = B ↔ cm = 0) := by
  subst h
  exact ⟨Iff.rfl, (cmpL_zero _ _).symm⟩
set_option maxRecDepth 100000 in
set_option maxHeartbeats 16000000 in
theorem refPut17_any (v xv : Value) (xs : List It) (xD : List ByteArray) (xf : Int) (xz : Nat) (xg : Ag) (w : World) (hT : TRz w v xs) (hS : ∀ z ∈ xs, SReads w z.v z.D) (hX : SReads w xv xD) (hgx : Gd xg) (hga : ∀ z ∈ xs, Gd z.a) (hl : xs.length ≤ 100000) :
    Calls Tryz.prog 40 #[v, .agg #[xv, .int .i64 xf, .int .i64 (xz : Int), .int .u64 xg.c, .bool xg.o, .int .i64 (hi xg.s), .int .u64 (lo xg.s), .int .i64 xg.mn, .int .i64 xg.mx]] w fun e w' => ∃ v', e = .returned v' ∧ TRz w' v' (insI ⟨xv, xD, xf, xz, xg⟩ xs) ∧ Below w.heap.size w w' := by
  obtain ⟨la, lc, rfl, hm1, hm2⟩ := hT.1.form17
  obtain ⟨va, vc, rfl, hxl0⟩ := hX.form
  obtain ⟨n, HN⟩ := hid_ex xs.length
  rw [← HN.out] at hl hm1
  have HTZ : Hid (TRz w (.slice la n lc) xs) := by rw [HN.out]; exact hT
  obtain ⟨xn, Hxn⟩ := hid_ex xD.length
  have HSX0 : Hid (SReads w (.slice va xn vc) xD) := by rw [Hxn.out]; exact hX
  have HSZ : Hid (∀ z ∈ xs, SReads w z.v z.D) := hS
  have HGX : Hid (Gd xg) := hgx
  have HGA : Hid (∀ z ∈ xs, Gd z.a) := hga
  rw [← HN.out, ← Hxn.out]
  obtain ⟨w1, HW1⟩ := hid_ex (w.alloc (.cells #[.slice va xn vc, .int .i64 xf, .int .i64 (xz : Int), .int .u64 xg.c, .bool xg.o, .int .i64 (hi xg.s), .int .u64 (lo xg.s), .int .i64 xg.mn, .int .i64 xg.mx] 42))
  have HB1 : Hid (Below w.heap.size w w1) := by rw [HW1.out]; exact new_below _ _
  have HX1 : Hid (w1.heap[w.heap.size]? = some (.cells #[.slice va xn vc, .int .i64 xf, .int .i64 (xz : Int), .int .u64 xg.c, .bool xg.o, .int .i64 (hi xg.s), .int .u64 (lo xg.s), .int .i64 xg.mn, .int .i64 xg.mx] 42)) := by rw [HW1.out]; exact heap_alloc_new _ _
  unfold maxLen at hm2
  clear hT hS hX hgx hga hxl0 Hxn
  go_enter Tryz.func40, Tryz.ntmps40
  go_wp2_with fail
  rw [← HW1.out]
  clear HW1
  go_loopw [5] (fun i wr => ∃ k : Nat, i = .int .i64 (k : Int) ∧ k ≤ n ∧ Hid (∀ j (hj : j < xs.length), j < k → lj xs[j].D xD) ∧ Hid (Below w1.heap.size w1 wr)) (fun i _ => n - (intOf i).toNat)
  case atStart => exact ⟨0, rfl, by omega, (fun j _ h => by omega), Below.refl _ _⟩
  case round =>
    obtain ⟨k, rfl, hk, HLT, HW⟩ := hrel
    have HXr : Hid (wr.heap[w.heap.size]? = some (.cells #[.slice va xn vc, .int .i64 xf, .int .i64 (xz : Int), .int .u64 xg.c, .bool xg.o, .int .i64 (hi xg.s), .int .u64 (lo xg.s), .int .i64 xg.mn, .int .i64 xg.mx] 42)) := (HW.out.block _ (Array.getElem?_eq_some_iff.1 HX1.out).1).trans HX1.out
    have hxl : w.heap.size < wr.heap.size := (Array.getElem?_eq_some_iff.1 HXr.out).1
    have HBr : Hid (Below w.heap.size w wr) := HB1.out.trans (HW.out.mono HB1.out.size)
    by_cases hlt : k < n
    · have hlt' : (k : Int) < (n : Int) := by omega
      have hkx : k < xs.length := by rw [← HN.out]; exact hlt
      have hgy := HGA.out xs[k] (List.getElem_mem hkx)
      obtain ⟨y, Hy⟩ := hid_ex xs[k]
      rw [← Hy.out] at hgy
      obtain ⟨yv, yD, yf, yz, yg⟩ := y
      obtain ⟨b, o, hla, hn9, hsr⟩ := HTZ.out.1.nine hkx Hy.out.symm
      obtain ⟨ya, yc, hv, -⟩ := hsr.form
      obtain ⟨yn, Hyn⟩ := hid_ex yD.length
      rw [← Hyn.out] at hv
      subst hv hla
      have HGY : Hid (Gd yg) := hgy
      have HN0 : Hid (N9 w b (o + k * 9) (.slice ya yn yc) yf yz yg.c (hi yg.s) (lo yg.s) yg.mn yg.mx yg.o) := hn9
      have HN1 : Hid (N9 wr b (o + k * 9) (.slice ya yn yc) yf yz yg.c (hi yg.s) (lo yg.s) yg.mn yg.mx yg.o) := hn9.below HBr.out
      obtain ⟨cm, Hcm⟩ := hid_ex (cmpL yD xD)
      obtain ⟨hcl, hce⟩ := less_cm Hcm.out
      have HSY : Hid (SReads w (.slice ya yn yc) yD) := hsr
      have HORA : Hid (∀ W, Below w.heap.size w W → Calls Tryz.prog 18 #[.slice ya yn yc, .slice va xn vc] W fun e w' => e = .returned (.int .i64 cm) ∧ Below W.heap.size W w') := fun W hW => by
        rw [Hcm.out]
        exact order_anyK _ _ yD xD W (HSY.out.below hW) (HSX0.out.below hW)
      have HOR : Hid (∀ W, Below wr.heap.size wr W → Calls Tryz.prog 18 #[.slice ya yn yc, .slice va xn vc] W fun e w' => e = .returned (.int .i64 cm) ∧ Below W.heap.size W w') := fun W hW => HORA.out W (HBr.out.trans (hW.mono HBr.out.size))
      clear hgy hn9 hsr Hyn Hcm
      go_wp2_with fail
      by_cases hcm : cm < 0
      · have HL2 : Hid (∀ j (hj : j < xs.length), j < k + 1 → lj xs[j].D xD) := fun j hj hjk => by
          by_cases e : j = k
          · subst e
            have := hcl.2 hcm
            rw [← Hy.out]; exact this
          · exact HLT.out j hj (by omega)
        clear hcl hce Hy
        refine wp_region_noPanic ?_
        refine wp_region_held_drew (S := (fun w' => Below wr.heap.size wr w')) (by kernel_rfl) ?_ (fun hHeld => ?_)
        · exact (Below.refl _ _).drew
        refine wpAnyH_take (i := 0) (v := .int .i64 (k : Int)) rfl (by kernel_rfl) (by kernel_rfl) (by kernel_rfl) (fun _ _ _ h => h) (Or.inl ⟨by rfl, ?_⟩) (by assumption) ?_
        · (intro w1 hSw; (try dsimp only at hSw); go_simp)
        simp only [List.getElem_toArray, List.getElem_cons_zero, Act.put, List.setIfInBounds_toArray, List.set_cons_zero, List.set_cons_succ]
        refine wpAnyH_take (i := 1) (v := .slice (some ⟨b, o, none⟩) n lc) rfl (by kernel_rfl) (by kernel_rfl) (by kernel_rfl) (fun _ _ _ h => h) (Or.inl ⟨by rfl, ?_⟩) (by assumption) ?_
        · (intro w1 hSw; (try dsimp only at hSw); go_simp)
        simp only [List.getElem_toArray, List.getElem_cons_succ, List.getElem_cons_zero, Act.put, List.setIfInBounds_toArray, List.set_cons_zero, List.set_cons_succ]
        refine wpAnyH_take (i := 2) (v := .int .i64 (n : Int)) rfl (by kernel_rfl) (by kernel_rfl) (by kernel_rfl) (fun _ _ _ h => h) (Or.inl ⟨by rfl, ?_⟩) (by assumption) ?_
        · (intro w1 hSw; (try dsimp only at hSw); go_simp)
        simp only [List.getElem_toArray, List.getElem_cons_succ, List.getElem_cons_zero, Act.put, List.setIfInBounds_toArray, List.set_cons_zero, List.set_cons_succ]
        refine wpAnyH_take (i := 3) (v := .bool true) rfl (by kernel_rfl) (by kernel_rfl) (by kernel_rfl) (fun _ _ _ h => h) (Or.inl ⟨by rfl, ?_⟩) (by assumption) ?_
        · (intro w1 hSw; (try dsimp only at hSw); go_simp)
        simp only [List.getElem_toArray, List.getElem_cons_succ, List.getElem_cons_zero, Act.put, List.setIfInBounds_toArray, List.set_cons_zero, List.set_cons_succ]
        refine wpAnyH_take (i := 4) (v := .bool true) rfl (by kernel_rfl) (by kernel_rfl) (by kernel_rfl) (fun _ _ _ h => h) (Or.inl ⟨by rfl, ?_⟩) (by assumption) ?_
        · (intro w1 hSw; (try dsimp only at hSw); go_simp)
        simp only [List.getElem_toArray, List.getElem_cons_succ, List.getElem_cons_zero, Act.put, List.setIfInBounds_toArray, List.set_cons_zero, List.set_cons_succ]
        refine wpAnyH_take (i := 5) (v := .slice (some ⟨b, o, none⟩) n lc) rfl (by kernel_rfl) (by kernel_rfl) (by kernel_rfl) (fun _ _ _ h => h) (Or.inl ⟨by rfl, ?_⟩) (by assumption) ?_
        · (intro w1 hSw; (try dsimp only at hSw); go_simp)
        simp only [List.getElem_toArray, List.getElem_cons_succ, List.getElem_cons_zero, Act.put, List.setIfInBounds_toArray, List.set_cons_zero, List.set_cons_succ]
        refine wpAnyH_take (i := 6) (v := .int .i64 (k : Int)) rfl (by kernel_rfl) (by kernel_rfl) (by kernel_rfl) (fun _ _ _ h => h) (Or.inl ⟨by rfl, ?_⟩) (by assumption) ?_
        · (intro w1 hSw; (try dsimp only at hSw); go_simp)
        simp only [List.getElem_toArray, List.getElem_cons_succ, List.getElem_cons_zero, Act.put, List.setIfInBounds_toArray, List.set_cons_zero, List.set_cons_succ]
        refine wpAnyH_take (i := 7) (v := .pointer (some ⟨b, o + k * 9, none⟩)) rfl (by kernel_rfl) (by kernel_rfl) (by kernel_rfl) (fun _ _ _ h => h) (Or.inl ⟨by rfl, ?_⟩) (by assumption) ?_
        · (intro w1 hSw; (try dsimp only at hSw); go_simp)
        simp only [List.getElem_toArray, List.getElem_cons_succ, List.getElem_cons_zero, Act.put, List.setIfInBounds_toArray, List.set_cons_zero, List.set_cons_succ]
        refine wpAnyH_take (i := 8) (v := .pointer (some ⟨b, o + k * 9, none⟩)) rfl (by kernel_rfl) (by kernel_rfl) (by kernel_rfl) (fun _ _ _ h => h) (Or.inl ⟨by rfl, ?_⟩) (by assumption) ?_
        · (intro w1 hSw; (try dsimp only at hSw); go_simp)
        simp only [List.getElem_toArray, List.getElem_cons_succ, List.getElem_cons_zero, Act.put, List.setIfInBounds_toArray, List.set_cons_zero, List.set_cons_succ]
        refine wpAnyH_take (i := 9) (v := .slice ya yn yc) rfl (by kernel_rfl) (by kernel_rfl) (by kernel_rfl) (fun _ _ _ h => h) (Or.inl ⟨by rfl, ?_⟩) (by assumption) ?_
        · (intro w1 hSw; (try dsimp only at hSw); have g0 := (HN1.out.below hSw).c0; go_simp)
        simp only [List.getElem_toArray, List.getElem_cons_succ, List.getElem_cons_zero, Act.put, List.setIfInBounds_toArray, List.set_cons_zero, List.set_cons_succ]
        refine wpAnyH_take (i := 10) (v := .pointer (some ⟨w.heap.size, 0, none⟩)) rfl (by kernel_rfl) (by kernel_rfl) (by kernel_rfl) (fun _ _ _ h => h) (Or.inl ⟨by rfl, ?_⟩) (by assumption) ?_
        · (intro w1 hSw; (try dsimp only at hSw); go_simp)
        simp only [List.getElem_toArray, List.getElem_cons_succ, List.getElem_cons_zero, Act.put, List.setIfInBounds_toArray, List.set_cons_zero, List.set_cons_succ]
        refine wpAnyH_take (i := 11) (v := .slice va xn vc) rfl (by kernel_rfl) (by kernel_rfl) (by kernel_rfl) (fun _ _ _ h => h) (Or.inl ⟨by rfl, ?_⟩) (by assumption) ?_
        · (intro w1 hSw; (try dsimp only at hSw); have gx := (hSw.block _ hxl).trans HXr.out; have g0 := (cell_row gx 0 (by simp)).1; simp only [List.getElem_toArray, List.getElem_cons_zero] at g0; go_simp)
        simp only [List.getElem_toArray, List.getElem_cons_succ, List.getElem_cons_zero, Act.put, List.setIfInBounds_toArray, List.set_cons_zero, List.set_cons_succ]
        refine wpAnyH_ready (rs := [12]) (by kernel_rfl) (by simp) ?_
        refine AllReadyH.cons (o := _) rfl (fun K hK => ?_) AllReadyH.nil
        go_simp
        refine (HOR.out _ (Below.refl _ _).drew).mono ?_
        rintro e w3 ⟨rfl, hb3⟩
        have HW3 : Hid (Below wr.heap.size wr w3) := (Below.refl wr.heap.size wr).drew.trans hb3
        clear hb3
        refine hK.out _ _ ?_ (fun hHeld => ?_)
        · exact HW3.out
        clear hK K
        refine wpAnyH_take (i := 13) (v := .bool true) rfl (by kernel_rfl) (by kernel_rfl) (by kernel_rfl) (fun _ _ _ h => h) (Or.inl ⟨by rfl, ?_⟩) (by assumption) ?_
        · (intro w1 hSw; (try dsimp only at hSw); go_simp)
        simp only [List.getElem_toArray, List.getElem_cons_succ, List.getElem_cons_zero, Act.put, List.setIfInBounds_toArray, List.set_cons_zero, List.set_cons_succ]
        refine wpAnyH_take (i := 14) (v := .bool true) rfl (by kernel_rfl) (by kernel_rfl) (by kernel_rfl) (fun _ _ _ h => h) (Or.inl ⟨by rfl, ?_⟩) (by assumption) ?_
        · (intro w1 hSw; (try dsimp only at hSw); go_simp)
        simp only [List.getElem_toArray, List.getElem_cons_succ, List.getElem_cons_zero, Act.put, List.setIfInBounds_toArray, List.set_cons_zero, List.set_cons_succ]
        clear hHeld
        refine wpAnyH_done (by kernel_rfl) ?_ _
        refine NoPanic.normal ?_
        have HB3 : Hid (Below w1.heap.size w1 w3) := HW.out.trans (HW3.out.mono HW.out.size)
        clear HW3 HW HLT HOR HORA
        go_wp2_with fail
        go_roundw
        case rel => exact ⟨k + 1, by go_num, by omega, HL2, HB3⟩
        case measure => simp [intOf]; omega
      · have HNL : Hid (¬ lj xs[k].D xD) := fun h => hcm (hcl.1 (by rw [← Hy.out] at h; exact h))
        have HDE : Hid (yD = xD ↔ cm = 0) := hce
        have HYE : Hid (xs[k] = ⟨.slice ya yn yc, yD, yf, yz, yg⟩) := Hy.out.symm
        clear hcl hce Hy
        refine wp_region_noPanic ?_
        refine wp_region_held_drew (S := (fun w' => Below wr.heap.size wr w')) (by kernel_rfl) ?_ (fun hHeld => ?_)
        · exact (Below.refl _ _).drew
        refine wpAnyH_take (i := 0) (v := .int .i64 (k : Int)) rfl (by kernel_rfl) (by kernel_rfl) (by kernel_rfl) (fun _ _ _ h => h) (Or.inl ⟨by rfl, ?_⟩) (by assumption) ?_
        · (intro w1 hSw; (try dsimp only at hSw); go_simp)
        simp only [List.getElem_toArray, List.getElem_cons_zero, Act.put, List.setIfInBounds_toArray, List.set_cons_zero, List.set_cons_succ]
        refine wpAnyH_take (i := 1) (v := .slice (some ⟨b, o, none⟩) n lc) rfl (by kernel_rfl) (by kernel_rfl) (by kernel_rfl) (fun _ _ _ h => h) (Or.inl ⟨by rfl, ?_⟩) (by assumption) ?_
        · (intro w1 hSw; (try dsimp only at hSw); go_simp)
        simp only [List.getElem_toArray, List.getElem_cons_succ, List.getElem_cons_zero, Act.put, List.setIfInBounds_toArray, List.set_cons_zero, List.set_cons_succ]
        refine wpAnyH_take (i := 2) (v := .int .i64 (n : Int)) rfl (by kernel_rfl) (by kernel_rfl) (by kernel_rfl) (fun _ _ _ h => h) (Or.inl ⟨by rfl, ?_⟩) (by assumption) ?_
        · (intro w1 hSw; (try dsimp only at hSw); go_simp)
        simp only [List.getElem_toArray, List.getElem_cons_succ, List.getElem_cons_zero, Act.put, List.setIfInBounds_toArray, List.set_cons_zero, List.set_cons_succ]
        refine wpAnyH_take (i := 3) (v := .bool true) rfl (by kernel_rfl) (by kernel_rfl) (by kernel_rfl) (fun _ _ _ h => h) (Or.inl ⟨by rfl, ?_⟩) (by assumption) ?_
        · (intro w1 hSw; (try dsimp only at hSw); go_simp)
        simp only [List.getElem_toArray, List.getElem_cons_succ, List.getElem_cons_zero, Act.put, List.setIfInBounds_toArray, List.set_cons_zero, List.set_cons_succ]
        refine wpAnyH_take (i := 4) (v := .bool true) rfl (by kernel_rfl) (by kernel_rfl) (by kernel_rfl) (fun _ _ _ h => h) (Or.inl ⟨by rfl, ?_⟩) (by assumption) ?_
        · (intro w1 hSw; (try dsimp only at hSw); go_simp)
        simp only [List.getElem_toArray, List.getElem_cons_succ, List.getElem_cons_zero, Act.put, List.setIfInBounds_toArray, List.set_cons_zero, List.set_cons_succ]
        refine wpAnyH_take (i := 5) (v := .slice (some ⟨b, o, none⟩) n lc) rfl (by kernel_rfl) (by kernel_rfl) (by kernel_rfl) (fun _ _ _ h => h) (Or.inl ⟨by rfl, ?_⟩) (by assumption) ?_
        · (intro w1 hSw; (try dsimp only at hSw); go_simp)
        simp only [List.getElem_toArray, List.getElem_cons_succ, List.getElem_cons_zero, Act.put, List.setIfInBounds_toArray, List.set_cons_zero, List.set_cons_succ]
        refine wpAnyH_take (i := 6) (v := .int .i64 (k : Int)) rfl (by kernel_rfl) (by kernel_rfl) (by kernel_rfl) (fun _ _ _ h => h) (Or.inl ⟨by rfl, ?_⟩) (by assumption) ?_
        · (intro w1 hSw; (try dsimp only at hSw); go_simp)
        simp only [List.getElem_toArray, List.getElem_cons_succ, List.getElem_cons_zero, Act.put, List.setIfInBounds_toArray, List.set_cons_zero, List.set_cons_succ]
        refine wpAnyH_take (i := 7) (v := .pointer (some ⟨b, o + k * 9, none⟩)) rfl (by kernel_rfl) (by kernel_rfl) (by kernel_rfl) (fun _ _ _ h => h) (Or.inl ⟨by rfl, ?_⟩) (by assumption) ?_
        · (intro w1 hSw; (try dsimp only at hSw); go_simp)
        simp only [List.getElem_toArray, List.getElem_cons_succ, List.getElem_cons_zero, Act.put, List.setIfInBounds_toArray, List.set_cons_zero, List.set_cons_succ]
        refine wpAnyH_take (i := 8) (v := .pointer (some ⟨b, o + k * 9, none⟩)) rfl (by kernel_rfl) (by kernel_rfl) (by kernel_rfl) (fun _ _ _ h => h) (Or.inl ⟨by rfl, ?_⟩) (by assumption) ?_
        · (intro w1 hSw; (try dsimp only at hSw); go_simp)
        simp only [List.getElem_toArray, List.getElem_cons_succ, List.getElem_cons_zero, Act.put, List.setIfInBounds_toArray, List.set_cons_zero, List.set_cons_succ]
        refine wpAnyH_take (i := 9) (v := .slice ya yn yc) rfl (by kernel_rfl) (by kernel_rfl) (by kernel_rfl) (fun _ _ _ h => h) (Or.inl ⟨by rfl, ?_⟩) (by assumption) ?_
        · (intro w1 hSw; (try dsimp only at hSw); have g0 := (HN1.out.below hSw).c0; go_simp)
        simp only [List.getElem_toArray, List.getElem_cons_succ, List.getElem_cons_zero, Act.put, List.setIfInBounds_toArray, List.set_cons_zero, List.set_cons_succ]
        refine wpAnyH_take (i := 10) (v := .pointer (some ⟨w.heap.size, 0, none⟩)) rfl (by kernel_rfl) (by kernel_rfl) (by kernel_rfl) (fun _ _ _ h => h) (Or.inl ⟨by rfl, ?_⟩) (by assumption) ?_
        · (intro w1 hSw; (try dsimp only at hSw); go_simp)
        simp only [List.getElem_toArray, List.getElem_cons_succ, List.getElem_cons_zero, Act.put, List.setIfInBounds_toArray, List.set_cons_zero, List.set_cons_succ]
        refine wpAnyH_take (i := 11) (v := .slice va xn vc) rfl (by kernel_rfl) (by kernel_rfl) (by kernel_rfl) (fun _ _ _ h => h) (Or.inl ⟨by rfl, ?_⟩) (by assumption) ?_
        · (intro w1 hSw; (try dsimp only at hSw); have gx := (hSw.block _ hxl).trans HXr.out; have g0 := (cell_row gx 0 (by simp)).1; simp only [List.getElem_toArray, List.getElem_cons_zero] at g0; go_simp)
        simp only [List.getElem_toArray, List.getElem_cons_succ, List.getElem_cons_zero, Act.put, List.setIfInBounds_toArray, List.set_cons_zero, List.set_cons_succ]
        refine wpAnyH_ready (rs := [12]) (by kernel_rfl) (by simp) ?_
        refine AllReadyH.cons (o := _) rfl (fun K hK => ?_) AllReadyH.nil
        go_simp
        refine (HOR.out _ (Below.refl _ _).drew).mono ?_
        rintro e w3 ⟨rfl, hb3⟩
        have HW3 : Hid (Below wr.heap.size wr w3) := (Below.refl wr.heap.size wr).drew.trans hb3
        clear hb3
        refine hK.out _ _ ?_ (fun hHeld => ?_)
        · exact HW3.out
        clear hK K
        refine wpAnyH_take (i := 13) (v := .bool false) rfl (by kernel_rfl) (by kernel_rfl) (by kernel_rfl) (fun _ _ _ h => h) (Or.inl ⟨by rfl, ?_⟩) (by assumption) ?_
        · (intro w1 hSw; (try dsimp only at hSw); go_simp)
        simp only [List.getElem_toArray, List.getElem_cons_succ, List.getElem_cons_zero, Act.put, List.setIfInBounds_toArray, List.set_cons_zero, List.set_cons_succ]
        refine wpAnyH_take (i := 14) (v := .bool false) rfl (by kernel_rfl) (by kernel_rfl) (by kernel_rfl) (fun _ _ _ h => h) (Or.inl ⟨by rfl, ?_⟩) (by assumption) ?_
        · (intro w1 hSw; (try dsimp only at hSw); go_simp)
        simp only [List.getElem_toArray, List.getElem_cons_succ, List.getElem_cons_zero, Act.put, List.setIfInBounds_toArray, List.set_cons_zero, List.set_cons_succ]
        clear hHeld
        refine wpAnyH_done (by kernel_rfl) ?_ _
        refine NoPanic.normal ?_
        have HB3 : Hid (Below w.heap.size w w3) := HBr.out.trans (HW3.out.mono HBr.out.size)
        have HX3 : Hid (w3.heap[w.heap.size]? = some (.cells #[.slice va xn vc, .int .i64 xf, .int .i64 (xz : Int), .int .u64 xg.c, .bool xg.o, .int .i64 (hi xg.s), .int .u64 (lo xg.s), .int .i64 xg.mn, .int .i64 xg.mx] 42)) := (HW3.out.block _ hxl).trans HXr.out
        have HINS := insI_at (x := ⟨.slice va xn vc, xD, xf, xz, xg⟩) (xs := xs) (k := k) (by rw [← HN.out]; exact hk) (fun j hj hjk => HLT.out j hj hjk) (fun _ => HNL.out)
        rw [List.getElem?_eq_getElem hkx, HYE.out] at HINS
        simp only at HINS
        clear HOR HW3 HW HXr HN1 hxl HYE HNL HLT HBr HX1 HB1
        obtain ⟨a4, c4, hsl4, htr4⟩ := tsf_upto (HTZ.out.below HB3.out) HN.out.symm (d := k) (by omega)
        obtain ⟨v4, w4, hrun4, hu4, hs4, hown4, hkp4'⟩ := (TG.nil (T := 42) HB3.out).apps Tryz.underlying46 infoRf HB3.out.size htr4 (fun z hz => HSZ.out z (List.mem_of_mem_take hz)) (by simp) (by rw [List.length_take]; omega)
        rw [List.nil_append] at hu4
        have HU4 : Hid (TG 42 w.heap.size w w4 v4 (xs.take k)) := hu4
        have HS4 : Hid (w.heap.size ≤ w4.heap.size) := hs4
        have hwl3 : w.heap.size < w3.heap.size := (Array.getElem?_eq_some_iff.1 HX3.out).1
        have hkp4 : ∀ c, c < w3.heap.size → w4.heap[c]? = w3.heap[c]? := fun c hc => hkp4' c hc (by simp [Value.ownBlock])
        have HOWN : Hid (v4.ownBlock ≠ some w.heap.size) := fun e => by
          rcases hown4 _ e with q | q
          · simp [Value.ownBlock] at q
          · omega
        obtain ⟨o4, p4, e4, -⟩ := GOwn.form HU4.out.o
        have hl4 : (xs.take k).length = k := by rw [List.length_take, ← HN.out]; omega
        rw [hl4] at e4
        subst e4
        have HX4 : Hid (w4.heap[w.heap.size]? = some (.cells #[.slice va xn vc, .int .i64 xf, .int .i64 (xz : Int), .int .u64 xg.c, .bool xg.o, .int .i64 (hi xg.s), .int .u64 (lo xg.s), .int .i64 xg.mn, .int .i64 xg.mx] 42)) := (hkp4 _ hwl3).trans HX3.out
        clear hu4 hs4 htr4 hl4 hown4 hkp4 hkp4'
        go_wp2_with (at_builtin; refine wpList_app_runG rfl _ _ 46 46 rfl rfl _ _ _ rfl rfl hrun4 ?_; clear hrun4 hsl4)
        have HN1 : Hid (N9 w4 b (o + k * 9) (.slice ya yn yc) yf yz yg.c (hi yg.s) (lo yg.s) yg.mn yg.mx yg.o) := HN0.out.below HU4.out.b
        have HXr : Hid (w4.heap[w.heap.size]? = some (.cells #[.slice va xn vc, .int .i64 xf, .int .i64 (xz : Int), .int .u64 xg.c, .bool xg.o, .int .i64 (hi xg.s), .int .u64 (lo xg.s), .int .i64 xg.mn, .int .i64 xg.mx] 42)) := HX4.out
        have hxl : w.heap.size < w4.heap.size := (Array.getElem?_eq_some_iff.1 HXr.out).1
        have HB4 : Hid (Below w.heap.size w w4) := HU4.out.b
        have HOR : Hid (∀ W, Below w4.heap.size w4 W → Calls Tryz.prog 18 #[.slice ya yn yc, .slice va xn vc] W fun e w' => e = .returned (.int .i64 cm) ∧ Below W.heap.size W w') := fun W hW => HORA.out W (HB4.out.trans (hW.mono HB4.out.size))
        by_cases hc0 : cm = 0
        · have hcb : (cm == 0) = true := by simp [hc0]
          have hDe := HDE.out.2 hc0
          rw [if_pos hDe.symm] at HINS
          have HIN : Hid (insI ⟨.slice va xn vc, xD, xf, xz, xg⟩ xs = xs.take k ++ ([⟨.slice va xn vc, xD, xf, xz, mrg yg xg⟩] ++ xs.drop (k + 1))) := HINS
          clear HINS hDe HDE
          refine wp_region_noPanic ?_
          refine wp_region_held_drew (S := (fun w' => Below w4.heap.size w4 w')) (by kernel_rfl) ?_ (fun hHeld => ?_)
          · exact (Below.refl _ _).drew
          refine wpAnyH_take (i := 0) (v := .int .i64 (k : Int)) rfl (by kernel_rfl) (by kernel_rfl) (by kernel_rfl) (fun _ _ _ h => h) (Or.inl ⟨by rfl, ?_⟩) (by assumption) ?_
          · (intro w1 hSw; (try dsimp only at hSw); go_simp)
          simp only [List.getElem_toArray, List.getElem_cons_zero, Act.put, List.setIfInBounds_toArray, List.set_cons_zero, List.set_cons_succ]
          refine wpAnyH_take (i := 1) (v := .slice (some ⟨b, o, none⟩) n lc) rfl (by kernel_rfl) (by kernel_rfl) (by kernel_rfl) (fun _ _ _ h => h) (Or.inl ⟨by rfl, ?_⟩) (by assumption) ?_
          · (intro w1 hSw; (try dsimp only at hSw); go_simp)
          simp only [List.getElem_toArray, List.getElem_cons_succ, List.getElem_cons_zero, Act.put, List.setIfInBounds_toArray, List.set_cons_zero, List.set_cons_succ]
          refine wpAnyH_take (i := 2) (v := .int .i64 (n : Int)) rfl (by kernel_rfl) (by kernel_rfl) (by kernel_rfl) (fun _ _ _ h => h) (Or.inl ⟨by rfl, ?_⟩) (by assumption) ?_
          · (intro w1 hSw; (try dsimp only at hSw); go_simp)
          simp only [List.getElem_toArray, List.getElem_cons_succ, List.getElem_cons_zero, Act.put, List.setIfInBounds_toArray, List.set_cons_zero, List.set_cons_succ]
          refine wpAnyH_take (i := 3) (v := .bool true) rfl (by kernel_rfl) (by kernel_rfl) (by kernel_rfl) (fun _ _ _ h => h) (Or.inl ⟨by rfl, ?_⟩) (by assumption) ?_
          · (intro w1 hSw; (try dsimp only at hSw); go_simp)
          simp only [List.getElem_toArray, List.getElem_cons_succ, List.getElem_cons_zero, Act.put, List.setIfInBounds_toArray, List.set_cons_zero, List.set_cons_succ]
          refine wpAnyH_take (i := 4) (v := .bool true) rfl (by kernel_rfl) (by kernel_rfl) (by kernel_rfl) (fun _ _ _ h => h) (Or.inl ⟨by rfl, ?_⟩) (by assumption) ?_
          · (intro w1 hSw; (try dsimp only at hSw); go_simp)
          simp only [List.getElem_toArray, List.getElem_cons_succ, List.getElem_cons_zero, Act.put, List.setIfInBounds_toArray, List.set_cons_zero, List.set_cons_succ]
          refine wpAnyH_take (i := 5) (v := .slice (some ⟨b, o, none⟩) n lc) rfl (by kernel_rfl) (by kernel_rfl) (by kernel_rfl) (fun _ _ _ h => h) (Or.inl ⟨by rfl, ?_⟩) (by assumption) ?_
          · (intro w1 hSw; (try dsimp only at hSw); go_simp)
          simp only [List.getElem_toArray, List.getElem_cons_succ, List.getElem_cons_zero, Act.put, List.setIfInBounds_toArray, List.set_cons_zero, List.set_cons_succ]
          refine wpAnyH_take (i := 6) (v := .int .i64 (k : Int)) rfl (by kernel_rfl) (by kernel_rfl) (by kernel_rfl) (fun _ _ _ h => h) (Or.inl ⟨by rfl, ?_⟩) (by assumption) ?_
          · (intro w1 hSw; (try dsimp only at hSw); go_simp)
          simp only [List.getElem_toArray, List.getElem_cons_succ, List.getElem_cons_zero, Act.put, List.setIfInBounds_toArray, List.set_cons_zero, List.set_cons_succ]
          refine wpAnyH_take (i := 7) (v := .pointer (some ⟨b, o + k * 9, none⟩)) rfl (by kernel_rfl) (by kernel_rfl) (by kernel_rfl) (fun _ _ _ h => h) (Or.inl ⟨by rfl, ?_⟩) (by assumption) ?_
          · (intro w1 hSw; (try dsimp only at hSw); go_simp)
          simp only [List.getElem_toArray, List.getElem_cons_succ, List.getElem_cons_zero, Act.put, List.setIfInBounds_toArray, List.set_cons_zero, List.set_cons_succ]
          refine wpAnyH_take (i := 8) (v := .pointer (some ⟨b, o + k * 9, none⟩)) rfl (by kernel_rfl) (by kernel_rfl) (by kernel_rfl) (fun _ _ _ h => h) (Or.inl ⟨by rfl, ?_⟩) (by assumption) ?_
          · (intro w1 hSw; (try dsimp only at hSw); go_simp)
          simp only [List.getElem_toArray, List.getElem_cons_succ, List.getElem_cons_zero, Act.put, List.setIfInBounds_toArray, List.set_cons_zero, List.set_cons_succ]
          refine wpAnyH_take (i := 9) (v := .slice ya yn yc) rfl (by kernel_rfl) (by kernel_rfl) (by kernel_rfl) (fun _ _ _ h => h) (Or.inl ⟨by rfl, ?_⟩) (by assumption) ?_
          · (intro w1 hSw; (try dsimp only at hSw); have g0 := (HN1.out.below hSw).c0; go_simp)
          simp only [List.getElem_toArray, List.getElem_cons_succ, List.getElem_cons_zero, Act.put, List.setIfInBounds_toArray, List.set_cons_zero, List.set_cons_succ]
          refine wpAnyH_take (i := 10) (v := .pointer (some ⟨w.heap.size, 0, none⟩)) rfl (by kernel_rfl) (by kernel_rfl) (by kernel_rfl) (fun _ _ _ h => h) (Or.inl ⟨by rfl, ?_⟩) (by assumption) ?_
          · (intro w1 hSw; (try dsimp only at hSw); go_simp)
          simp only [List.getElem_toArray, List.getElem_cons_succ, List.getElem_cons_zero, Act.put, List.setIfInBounds_toArray, List.set_cons_zero, List.set_cons_succ]
          refine wpAnyH_take (i := 11) (v := .slice va xn vc) rfl (by kernel_rfl) (by kernel_rfl) (by kernel_rfl) (fun _ _ _ h => h) (Or.inl ⟨by rfl, ?_⟩) (by assumption) ?_
          · (intro w1 hSw; (try dsimp only at hSw); have gx := (hSw.block _ hxl).trans HXr.out; have g0 := (cell_row gx 0 (by simp)).1; simp only [List.getElem_toArray, List.getElem_cons_zero] at g0; go_simp)
          simp only [List.getElem_toArray, List.getElem_cons_succ, List.getElem_cons_zero, Act.put, List.setIfInBounds_toArray, List.set_cons_zero, List.set_cons_succ]
          refine wpAnyH_ready (rs := [12]) (by kernel_rfl) (by simp) ?_
          refine AllReadyH.cons (o := _) rfl (fun K hK => ?_) AllReadyH.nil
          go_simp
          refine (HOR.out _ (Below.refl _ _).drew).mono ?_
          rintro e w5 ⟨rfl, hb5⟩
          have HW5 : Hid (Below w4.heap.size w4 w5) := (Below.refl w4.heap.size w4).drew.trans hb5
          clear hb5
          refine hK.out _ _ ?_ (fun hHeld => ?_)
          · exact HW5.out
          clear hK K
          refine wpAnyH_take (i := 13) (v := .bool true) rfl (by kernel_rfl) (by kernel_rfl) (by kernel_rfl) (fun _ _ _ h => h) (Or.inl ⟨by rfl, ?_⟩) (by assumption) ?_
          · (intro w1 hSw; (try dsimp only at hSw); go_simp)
          simp only [List.getElem_toArray, List.getElem_cons_succ, List.getElem_cons_zero, Act.put, List.setIfInBounds_toArray, List.set_cons_zero, List.set_cons_succ]
          refine wpAnyH_take (i := 14) (v := .bool true) rfl (by kernel_rfl) (by kernel_rfl) (by kernel_rfl) (fun _ _ _ h => h) (Or.inl ⟨by rfl, ?_⟩) (by assumption) ?_
          · (intro w1 hSw; (try dsimp only at hSw); go_simp)
          simp only [List.getElem_toArray, List.getElem_cons_succ, List.getElem_cons_zero, Act.put, List.setIfInBounds_toArray, List.set_cons_zero, List.set_cons_succ]
          clear hHeld
          refine wpAnyH_done (by kernel_rfl) ?_ _
          refine NoPanic.normal ?_
          have HX5 : Hid (w5.heap[w.heap.size]? = some (.cells #[.slice va xn vc, .int .i64 xf, .int .i64 (xz : Int), .int .u64 xg.c, .bool xg.o, .int .i64 (hi xg.s), .int .u64 (lo xg.s), .int .i64 xg.mn, .int .i64 xg.mx] 42)) := (HW5.out.block _ hxl).trans HX4.out
          have HU5 : Hid (TG 42 w.heap.size w w5 (.slice o4 k p4) (xs.take k)) := HU4.out.below HW5.out HS4.out
          have HS5 : Hid (w.heap.size ≤ w5.heap.size) := Nat.le_trans HS4.out HW5.out.size
          have HN5 : Hid (N9 w5 b (o + k * 9) (.slice ya yn yc) yf yz yg.c (hi yg.s) (lo yg.s) yg.mn yg.mx yg.o) := HN1.out.below HW5.out
          have HMC : Hid (∀ W, Calls Tryz.prog 29 #[.agg #[.int .u64 yg.c, .bool yg.o, .int .i64 (hi yg.s), .int .u64 (lo yg.s), .int .i64 yg.mn, .int .i64 yg.mx], .agg #[.int .u64 xg.c, .bool xg.o, .int .i64 (hi xg.s), .int .u64 (lo xg.s), .int .i64 xg.mn, .int .i64 xg.mx]] W fun e w' => e = .returned (.agg #[.int .u64 (mrg yg xg).c, .bool (mrg yg xg).o, .int .i64 (hi (mrg yg xg).s), .int .u64 (lo (mrg yg xg).s), .int .i64 (mrg yg xg).mn, .int .i64 (mrg yg xg).mx]) ∧ Below W.heap.size W w') := fun W =>
            refMerge_any yg xg HGY.out.c.1 HGY.out.c.2 HGX.out.c.1 HGX.out.c.2 (gd_over HGY.out) (gd_over HGX.out) W
          obtain ⟨mg, Hmg⟩ := hid_ex (mrg yg xg)
          rw [← Hmg.out] at HMC HIN
          clear HU4 HS4 HW5 HN1 HX4 HXr HOR HORA
          go_wp2_with fail
          have hX5d : w5.drew.heap[w.heap.size]? = some (.cells #[.slice va xn vc, .int .i64 xf, .int .i64 (xz : Int), .int .u64 xg.c, .bool xg.o, .int .i64 (hi xg.s), .int .u64 (lo xg.s), .int .i64 xg.mn, .int .i64 xg.mx] 42) := HX5.out
          have x3 := (cell_row hX5d 3 (by simp)).1
          have x4 := (cell_row hX5d 4 (by simp)).1
          have x5 := (cell_row hX5d 5 (by simp)).1
          have x6 := (cell_row hX5d 6 (by simp)).1
          have x7 := (cell_row hX5d 7 (by simp)).1
          have x8 := (cell_row hX5d 8 (by simp)).1
          simp only [List.getElem_toArray, List.getElem_cons_zero, List.getElem_cons_succ] at x3 x4 x5 x6 x7 x8
          refine wp_region_noPanic ?_
          refine wp_region_held_drew (S := (fun w' => N9 w' b (o + k * 9) (.slice ya yn yc) yf yz yg.c (hi yg.s) (lo yg.s) yg.mn yg.mx yg.o)) (by kernel_rfl) ?_ (fun hHeld => ?_)
          · exact HN5.out.below (Below.refl _ _).drew
          refine wpAnyH_take (i := 0) (v := .slice (some ⟨b, o, none⟩) n lc) rfl (by kernel_rfl) (by kernel_rfl) (by kernel_rfl) (fun _ _ _ h => h) (Or.inl ⟨by rfl, ?_⟩) (by assumption) ?_
          · (intro w1 hSw; (try dsimp only at hSw); go_simp)
          simp only [List.getElem_toArray, List.getElem_cons_zero, Act.put, List.setIfInBounds_toArray, List.set_cons_zero, List.set_cons_succ]
          refine wpAnyH_take (i := 1) (v := .int .i64 (k : Int)) rfl (by kernel_rfl) (by kernel_rfl) (by kernel_rfl) (fun _ _ _ h => h) (Or.inl ⟨by rfl, ?_⟩) (by assumption) ?_
          · (intro w1 hSw; (try dsimp only at hSw); go_simp)
          simp only [List.getElem_toArray, List.getElem_cons_succ, List.getElem_cons_zero, Act.put, List.setIfInBounds_toArray, List.set_cons_zero, List.set_cons_succ]
          refine wpAnyH_take (i := 2) (v := .pointer (some ⟨b, o + k * 9, none⟩)) rfl (by kernel_rfl) (by kernel_rfl) (by kernel_rfl) (fun _ _ _ h => h) (Or.inl ⟨by rfl, ?_⟩) (by assumption) ?_
          · (intro w1 hSw; (try dsimp only at hSw); go_simp)
          simp only [List.getElem_toArray, List.getElem_cons_succ, List.getElem_cons_zero, Act.put, List.setIfInBounds_toArray, List.set_cons_zero, List.set_cons_succ]
          refine wpAnyH_take (i := 3) (v := .pointer (some ⟨b, o + k * 9 + 3, none⟩)) rfl (by kernel_rfl) (by kernel_rfl) (by kernel_rfl) (fun _ _ _ h => h) (Or.inl ⟨by rfl, ?_⟩) (by assumption) ?_
          · (intro w1 hSw; (try dsimp only at hSw); go_simp)
          simp only [List.getElem_toArray, List.getElem_cons_succ, List.getElem_cons_zero, Act.put, List.setIfInBounds_toArray, List.set_cons_zero, List.set_cons_succ]
          refine wpAnyH_take (i := 4) (v := .agg #[.int .u64 yg.c, .bool yg.o, .int .i64 (hi yg.s), .int .u64 (lo yg.s), .int .i64 yg.mn, .int .i64 yg.mx]) rfl (by kernel_rfl) (by kernel_rfl) (by kernel_rfl) (fun _ _ _ h => h) (Or.inl ⟨by rfl, ?_⟩) (by assumption) ?_
          · (intro w1 hSw; (try dsimp only at hSw); have g3 := hSw.c3; have g4 := hSw.c4; have g5 := hSw.c5; have g6 := hSw.c6; have g7 := hSw.c7; have g8 := hSw.c8; go_simp)
          simp only [List.getElem_toArray, List.getElem_cons_succ, List.getElem_cons_zero, Act.put, List.setIfInBounds_toArray, List.set_cons_zero, List.set_cons_succ]
          refine wpAnyH_take (i := 5) (v := .pointer (some ⟨w.heap.size, 3, none⟩)) rfl (by kernel_rfl) (by kernel_rfl) (by kernel_rfl) (fun _ _ _ h => h) (Or.inl ⟨by rfl, ?_⟩) (by assumption) ?_
          · (intro w1 hSw; (try dsimp only at hSw); go_simp)
          simp only [List.getElem_toArray, List.getElem_cons_succ, List.getElem_cons_zero, Act.put, List.setIfInBounds_toArray, List.set_cons_zero, List.set_cons_succ]
          refine wpAnyH_ready (rs := [6]) (by kernel_rfl) (by simp) ?_
          refine AllReadyH.cons (o := _) rfl (fun K hK => ?_) AllReadyH.nil
          go_simp
          refine hK.out _ _ ?_ (fun hHeld => ?_)
          · exact HN5.out.below (Below.refl _ _).drew
          clear hK K
          clear x3 x4 x5 x6 x7 x8
          refine wpAnyH_ready (rs := [7]) (by kernel_rfl) (by simp) ?_
          refine AllReadyH.cons (o := _) rfl (fun K hK => ?_) AllReadyH.nil
          go_simp
          refine (HMC.out _).mono ?_
          rintro e w6' ⟨rfl, hb6⟩
          have HW6 : Hid (Below w5.heap.size w5 w6') := (Below.refl w5.heap.size w5).drew.trans hb6
          clear hb6
          refine hK.out _ _ ?_ (fun hHeld => ?_)
          · exact HN5.out.below HW6.out
          clear hK K
          refine wpAnyH_take (i := 8) (v := .pointer (some ⟨w.heap.size, 3, none⟩)) rfl (by kernel_rfl) (by kernel_rfl) (by kernel_rfl) (fun _ _ _ h => h) (Or.inl ⟨by rfl, ?_⟩) (by assumption) ?_
          · (intro w1 hSw; (try dsimp only at hSw); go_simp)
          simp only [List.getElem_toArray, List.getElem_cons_succ, List.getElem_cons_zero, Act.put, List.setIfInBounds_toArray, List.set_cons_zero, List.set_cons_succ]
          refine wpAnyH_ready (rs := [9]) (by kernel_rfl) (by simp) ?_
          refine AllReadyH.cons (o := _) rfl (fun K hK => ?_) AllReadyH.nil
          have HX6 : Hid (w6'.heap[w.heap.size]? = some (.cells #[.slice va xn vc, .int .i64 xf, .int .i64 (xz : Int), .int .u64 xg.c, .bool xg.o, .int .i64 (hi xg.s), .int .u64 (lo xg.s), .int .i64 xg.mn, .int .i64 xg.mx] 42)) := (HW6.out.block _ (Array.getElem?_eq_some_iff.1 HX5.out).1).trans HX5.out
          refine wp_storeN _ _ _ rfl w.heap.size 3 (ag6 mg) rfl rfl _ _ HX6.out (by simp [ag6]) (by kernel_rfl) (by kernel_rfl) (fun w8 hW8 => ?_)
          have HX8 : Hid (w8.heap[w.heap.size]? = some (.cells #[.slice va xn vc, .int .i64 xf, .int .i64 (xz : Int), .int .u64 mg.c, .bool mg.o, .int .i64 (hi mg.s), .int .u64 (lo mg.s), .int .i64 mg.mn, .int .i64 mg.mx] 42)) := box_agg (v := .slice va xn vc) (D := xD) (f := xf) (z := xz) (a := xg) hW8
          have HO8 : Hid (∀ c, c ≠ w.heap.size → w8.heap[c]? = w6'.heap[c]?) := hW8.o
          have HBS : Hid (Below w.heap.size w5 w8) := (HW6.out.mono HS5.out).trans (hW8.b _ (Nat.le_refl _))
          have HOS : Hid (∀ c, c < w5.heap.size → c ≠ w.heap.size → w8.heap[c]? = w5.heap[c]?) := fun c hc hne => (HO8.out c hne).trans (HW6.out.block c hc)
          have HN8 : Hid (N9 w8 b (o + k * 9) (.slice ya yn yc) yf yz yg.c (hi yg.s) (lo yg.s) yg.mn yg.mx yg.o) := HN0.out.below (HU5.out.b.trans HBS.out)
          have HU8 : Hid (TG 42 w.heap.size w w8 (.slice o4 k p4) (xs.take k)) := ⟨GOwn.keep HU5.out.o (fun c q => HOS.out c (HU5.out.k c q).2 (fun e => HOWN.out (e ▸ q))), fun c q => ⟨(HU5.out.k c q).1, Nat.lt_of_lt_of_le (HU5.out.k c q).2 HBS.out.size⟩, HU5.out.b.trans HBS.out, HU5.out.s⟩
          clear hW8 HO8 HX6 HW6 HN5 HX5
          refine hK.out _ _ ?_ (fun hHeld => ?_)
          · exact HN8.out
          clear hK K
          refine wpAnyH_done (by kernel_rfl) ?_ _
          refine NoPanic.normal ?_
          have HS8 : Hid (w.heap.size ≤ w8.heap.size) := Nat.le_trans HS5.out HBS.out.size
          clear HU5 HS5 HBS HOS
          have x0 := (cell_row HX8.out 0 (by simp)).1
          have x1 := (cell_row HX8.out 1 (by simp)).1
          have x2 := (cell_row HX8.out 2 (by simp)).1
          have x3 := (cell_row HX8.out 3 (by simp)).1
          have x4 := (cell_row HX8.out 4 (by simp)).1
          have x5 := (cell_row HX8.out 5 (by simp)).1
          have x6 := (cell_row HX8.out 6 (by simp)).1
          have x7 := (cell_row HX8.out 7 (by simp)).1
          have x8 := (cell_row HX8.out 8 (by simp)).1
          simp only [List.getElem_toArray, List.getElem_cons_zero, List.getElem_cons_succ] at x0 x1 x2 x3 x4 x5 x6 x7 x8
          obtain ⟨v6, w6, hrun6, hu6, hs6⟩ := HU8.out.app Tryz.underlying46 infoRf HS8.out ⟨.slice va xn vc, xD, xf, xz, mg⟩ HSX0.out (by rw [List.length_take]; omega)
          simp only [c9] at hrun6
          have HU6 : Hid (TG 42 w.heap.size w w6 v6 (xs.take k ++ [⟨.slice va xn vc, xD, xf, xz, mg⟩])) := hu6
          obtain ⟨d7, HD7⟩ : ∃ d, Hid (n - (k + 1) = d) := ⟨_, rfl⟩
          obtain ⟨a7, c7, hsl7, htr7⟩ := tsf_from (HTZ.out.below HU6.out.b) HN.out.symm (c := k + 1) (by omega)
          rw [HD7.out] at hsl7 htr7
          rw [show ((k + 1 : Nat) : Int) = (k : Int) + 1 by omega] at hsl7
          obtain ⟨v7, w7, hrun7, hu7, hs7, -, -⟩ := HU6.out.apps Tryz.underlying46 infoRf hs6 htr7 (fun z hz => HSZ.out z (List.mem_of_mem_drop hz)) (by rw [List.length_append, List.length_take]; simp; omega) (by rw [List.length_drop, ← HN.out]; omega)
          have HU7 : Hid (TG 42 w.heap.size w w7 v7 (insI ⟨.slice va xn vc, xD, xf, xz, xg⟩ xs)) := by
            show TG _ _ _ _ _ _
            rw [HIN.out]
            have := hu7
            rw [List.append_assoc] at this
            exact this
          obtain ⟨o6, c6, e6, -⟩ := GOwn.form HU6.out.o
          obtain ⟨M6, HM6⟩ : ∃ m, Hid ((xs.take k ++ [(⟨.slice va xn vc, xD, xf, xz, mg⟩ : It)]).length = m) := ⟨_, rfl⟩
          rw [HM6.out] at e6
          subst e6
          clear hu6 hu7 HU6 HU8
          go_wp2_with (at_builtin; first | (refine wpList_app_runG rfl _ _ 46 46 rfl rfl _ _ _ rfl rfl hrun6 ?_; clear hrun6) | (refine wpList_app_runG rfl _ _ 46 46 rfl rfl _ _ _ rfl rfl hrun7 ?_; clear hrun7 hsl7))
          have HFIN : Hid (∃ v', Ending.returned v7 = .returned v' ∧ TRz w7 v' (insI ⟨.slice va xn vc, xD, xf, xz, xg⟩ xs) ∧ Below w.heap.size w w7) := ⟨v7, rfl, HU7.out.readz, HU7.out.b⟩
          go_ret
          exact HFIN.out
        · have hcb : (cm == 0) = false := by simp [hc0]
          rw [if_neg (fun e => hc0 (HDE.out.1 e.symm))] at HINS
          have HIN : Hid (insI ⟨.slice va xn vc, xD, xf, xz, xg⟩ xs = xs.take k ++ ([⟨.slice va xn vc, xD, xf, xz, xg⟩] ++ xs.drop k)) := HINS
          clear HINS HDE
          refine wp_region_noPanic ?_
          refine wp_region_held_drew (S := (fun w' => Below w4.heap.size w4 w')) (by kernel_rfl) ?_ (fun hHeld => ?_)
          · exact (Below.refl _ _).drew
          refine wpAnyH_take (i := 0) (v := .int .i64 (k : Int)) rfl (by kernel_rfl) (by kernel_rfl) (by kernel_rfl) (fun _ _ _ h => h) (Or.inl ⟨by rfl, ?_⟩) (by assumption) ?_
          · (intro w1 hSw; (try dsimp only at hSw); go_simp)
          simp only [List.getElem_toArray, List.getElem_cons_zero, Act.put, List.setIfInBounds_toArray, List.set_cons_zero, List.set_cons_succ]
          refine wpAnyH_take (i := 1) (v := .slice (some ⟨b, o, none⟩) n lc) rfl (by kernel_rfl) (by kernel_rfl) (by kernel_rfl) (fun _ _ _ h => h) (Or.inl ⟨by rfl, ?_⟩) (by assumption) ?_
          · (intro w1 hSw; (try dsimp only at hSw); go_simp)
          simp only [List.getElem_toArray, List.getElem_cons_succ, List.getElem_cons_zero, Act.put, List.setIfInBounds_toArray, List.set_cons_zero, List.set_cons_succ]
          refine wpAnyH_take (i := 2) (v := .int .i64 (n : Int)) rfl (by kernel_rfl) (by kernel_rfl) (by kernel_rfl) (fun _ _ _ h => h) (Or.inl ⟨by rfl, ?_⟩) (by assumption) ?_
          · (intro w1 hSw; (try dsimp only at hSw); go_simp)
          simp only [List.getElem_toArray, List.getElem_cons_succ, List.getElem_cons_zero, Act.put, List.setIfInBounds_toArray, List.set_cons_zero, List.set_cons_succ]
          refine wpAnyH_take (i := 3) (v := .bool true) rfl (by kernel_rfl) (by kernel_rfl) (by kernel_rfl) (fun _ _ _ h => h) (Or.inl ⟨by rfl, ?_⟩) (by assumption) ?_
          · (intro w1 hSw; (try dsimp only at hSw); go_simp)
          simp only [List.getElem_toArray, List.getElem_cons_succ, List.getElem_cons_zero, Act.put, List.setIfInBounds_toArray, List.set_cons_zero, List.set_cons_succ]
          refine wpAnyH_take (i := 4) (v := .bool true) rfl (by kernel_rfl) (by kernel_rfl) (by kernel_rfl) (fun _ _ _ h => h) (Or.inl ⟨by rfl, ?_⟩) (by assumption) ?_
          · (intro w1 hSw; (try dsimp only at hSw); go_simp)
          simp only [List.getElem_toArray, List.getElem_cons_succ, List.getElem_cons_zero, Act.put, List.setIfInBounds_toArray, List.set_cons_zero, List.set_cons_succ]
          refine wpAnyH_take (i := 5) (v := .slice (some ⟨b, o, none⟩) n lc) rfl (by kernel_rfl) (by kernel_rfl) (by kernel_rfl) (fun _ _ _ h => h) (Or.inl ⟨by rfl, ?_⟩) (by assumption) ?_
          · (intro w1 hSw; (try dsimp only at hSw); go_simp)
          simp only [List.getElem_toArray, List.getElem_cons_succ, List.getElem_cons_zero, Act.put, List.setIfInBounds_toArray, List.set_cons_zero, List.set_cons_succ]
          refine wpAnyH_take (i := 6) (v := .int .i64 (k : Int)) rfl (by kernel_rfl) (by kernel_rfl) (by kernel_rfl) (fun _ _ _ h => h) (Or.inl ⟨by rfl, ?_⟩) (by assumption) ?_
          · (intro w1 hSw; (try dsimp only at hSw); go_simp)
          simp only [List.getElem_toArray, List.getElem_cons_succ, List.getElem_cons_zero, Act.put, List.setIfInBounds_toArray, List.set_cons_zero, List.set_cons_succ]
          refine wpAnyH_take (i := 7) (v := .pointer (some ⟨b, o + k * 9, none⟩)) rfl (by kernel_rfl) (by kernel_rfl) (by kernel_rfl) (fun _ _ _ h => h) (Or.inl ⟨by rfl, ?_⟩) (by assumption) ?_
          · (intro w1 hSw; (try dsimp only at hSw); go_simp)
          simp only [List.getElem_toArray, List.getElem_cons_succ, List.getElem_cons_zero, Act.put, List.setIfInBounds_toArray, List.set_cons_zero, List.set_cons_succ]
          refine wpAnyH_take (i := 8) (v := .pointer (some ⟨b, o + k * 9, none⟩)) rfl (by kernel_rfl) (by kernel_rfl) (by kernel_rfl) (fun _ _ _ h => h) (Or.inl ⟨by rfl, ?_⟩) (by assumption) ?_
          · (intro w1 hSw; (try dsimp only at hSw); go_simp)
          simp only [List.getElem_toArray, List.getElem_cons_succ, List.getElem_cons_zero, Act.put, List.setIfInBounds_toArray, List.set_cons_zero, List.set_cons_succ]
          refine wpAnyH_take (i := 9) (v := .slice ya yn yc) rfl (by kernel_rfl) (by kernel_rfl) (by kernel_rfl) (fun _ _ _ h => h) (Or.inl ⟨by rfl, ?_⟩) (by assumption) ?_
          · (intro w1 hSw; (try dsimp only at hSw); have g0 := (HN1.out.below hSw).c0; go_simp)
          simp only [List.getElem_toArray, List.getElem_cons_succ, List.getElem_cons_zero, Act.put, List.setIfInBounds_toArray, List.set_cons_zero, List.set_cons_succ]
          refine wpAnyH_take (i := 10) (v := .pointer (some ⟨w.heap.size, 0, none⟩)) rfl (by kernel_rfl) (by kernel_rfl) (by kernel_rfl) (fun _ _ _ h => h) (Or.inl ⟨by rfl, ?_⟩) (by assumption) ?_
          · (intro w1 hSw; (try dsimp only at hSw); go_simp)
          simp only [List.getElem_toArray, List.getElem_cons_succ, List.getElem_cons_zero, Act.put, List.setIfInBounds_toArray, List.set_cons_zero, List.set_cons_succ]
          refine wpAnyH_take (i := 11) (v := .slice va xn vc) rfl (by kernel_rfl) (by kernel_rfl) (by kernel_rfl) (fun _ _ _ h => h) (Or.inl ⟨by rfl, ?_⟩) (by assumption) ?_
          · (intro w1 hSw; (try dsimp only at hSw); have gx := (hSw.block _ hxl).trans HXr.out; have g0 := (cell_row gx 0 (by simp)).1; simp only [List.getElem_toArray, List.getElem_cons_zero] at g0; go_simp)
          simp only [List.getElem_toArray, List.getElem_cons_succ, List.getElem_cons_zero, Act.put, List.setIfInBounds_toArray, List.set_cons_zero, List.set_cons_succ]
          refine wpAnyH_ready (rs := [12]) (by kernel_rfl) (by simp) ?_
          refine AllReadyH.cons (o := _) rfl (fun K hK => ?_) AllReadyH.nil
          go_simp
          refine (HOR.out _ (Below.refl _ _).drew).mono ?_
          rintro e w5 ⟨rfl, hb5⟩
          have HW5 : Hid (Below w4.heap.size w4 w5) := (Below.refl w4.heap.size w4).drew.trans hb5
          clear hb5
          refine hK.out _ _ ?_ (fun hHeld => ?_)
          · exact HW5.out
          clear hK K
          refine wpAnyH_take (i := 13) (v := .bool false) rfl (by kernel_rfl) (by kernel_rfl) (by kernel_rfl) (fun _ _ _ h => h) (Or.inl ⟨by rfl, ?_⟩) (by assumption) ?_
          · (intro w1 hSw; (try dsimp only at hSw); go_simp)
          simp only [List.getElem_toArray, List.getElem_cons_succ, List.getElem_cons_zero, Act.put, List.setIfInBounds_toArray, List.set_cons_zero, List.set_cons_succ]
          refine wpAnyH_take (i := 14) (v := .bool false) rfl (by kernel_rfl) (by kernel_rfl) (by kernel_rfl) (fun _ _ _ h => h) (Or.inl ⟨by rfl, ?_⟩) (by assumption) ?_
          · (intro w1 hSw; (try dsimp only at hSw); go_simp)
          simp only [List.getElem_toArray, List.getElem_cons_succ, List.getElem_cons_zero, Act.put, List.setIfInBounds_toArray, List.set_cons_zero, List.set_cons_succ]
          clear hHeld
          refine wpAnyH_done (by kernel_rfl) ?_ _
          refine NoPanic.normal ?_
          have HX8 : Hid (w5.heap[w.heap.size]? = some (.cells #[.slice va xn vc, .int .i64 xf, .int .i64 (xz : Int), .int .u64 xg.c, .bool xg.o, .int .i64 (hi xg.s), .int .u64 (lo xg.s), .int .i64 xg.mn, .int .i64 xg.mx] 42)) := (HW5.out.block _ hxl).trans HX4.out
          have HU5 : Hid (TG 42 w.heap.size w w5 (.slice o4 k p4) (xs.take k)) := HU4.out.below HW5.out HS4.out
          have HS5 : Hid (w.heap.size ≤ w5.heap.size) := Nat.le_trans HS4.out HW5.out.size
          clear HU4 HS4 HW5 HN1 HX4 HXr HOR HORA
          have x0 := (cell_row HX8.out 0 (by simp)).1
          have x1 := (cell_row HX8.out 1 (by simp)).1
          have x2 := (cell_row HX8.out 2 (by simp)).1
          have x3 := (cell_row HX8.out 3 (by simp)).1
          have x4 := (cell_row HX8.out 4 (by simp)).1
          have x5 := (cell_row HX8.out 5 (by simp)).1
          have x6 := (cell_row HX8.out 6 (by simp)).1
          have x7 := (cell_row HX8.out 7 (by simp)).1
          have x8 := (cell_row HX8.out 8 (by simp)).1
          simp only [List.getElem_toArray, List.getElem_cons_zero, List.getElem_cons_succ] at x0 x1 x2 x3 x4 x5 x6 x7 x8
          obtain ⟨v6, w6, hrun6, hu6, hs6⟩ := HU5.out.app Tryz.underlying46 infoRf HS5.out ⟨.slice va xn vc, xD, xf, xz, xg⟩ HSX0.out (by rw [List.length_take]; omega)
          simp only [c9] at hrun6
          have HU6 : Hid (TG 42 w.heap.size w w6 v6 (xs.take k ++ [⟨.slice va xn vc, xD, xf, xz, xg⟩])) := hu6
          obtain ⟨d7, HD7⟩ : ∃ d, Hid (n - (k) = d) := ⟨_, rfl⟩
          obtain ⟨a7, c7, hsl7, htr7⟩ := tsf_from (HTZ.out.below HU6.out.b) HN.out.symm (c := k) (by omega)
          rw [HD7.out] at hsl7 htr7
          obtain ⟨v7, w7, hrun7, hu7, hs7, -, -⟩ := HU6.out.apps Tryz.underlying46 infoRf hs6 htr7 (fun z hz => HSZ.out z (List.mem_of_mem_drop hz)) (by rw [List.length_append, List.length_take]; simp; omega) (by rw [List.length_drop, ← HN.out]; omega)
          have HU7 : Hid (TG 42 w.heap.size w w7 v7 (insI ⟨.slice va xn vc, xD, xf, xz, xg⟩ xs)) := by
            show TG _ _ _ _ _ _
            rw [HIN.out]
            have := hu7
            rw [List.append_assoc] at this
            exact this
          obtain ⟨o6, c6, e6, -⟩ := GOwn.form HU6.out.o
          obtain ⟨M6, HM6⟩ : ∃ m, Hid ((xs.take k ++ [(⟨.slice va xn vc, xD, xf, xz, xg⟩ : It)]).length = m) := ⟨_, rfl⟩
          rw [HM6.out] at e6
          subst e6
          clear hu6 hu7 HU6 HU5
          go_wp2_with (at_builtin; first | (refine wpList_app_runG rfl _ _ 46 46 rfl rfl _ _ _ rfl rfl hrun6 ?_; clear hrun6) | (refine wpList_app_runG rfl _ _ 46 46 rfl rfl _ _ _ rfl rfl hrun7 ?_; clear hrun7 hsl7))
          have HFIN : Hid (∃ v', Ending.returned v7 = .returned v' ∧ TRz w7 v' (insI ⟨.slice va xn vc, xD, xf, xz, xg⟩ xs) ∧ Below w.heap.size w w7) := ⟨v7, rfl, HU7.out.readz, HU7.out.b⟩
          go_ret
          exact HFIN.out
    · obtain rfl : k = n := by omega
      have hlt' : ¬ (k : Int) < (k : Int) := by omega
      have HINS : Hid (insI ⟨.slice va xn vc, xD, xf, xz, xg⟩ xs = xs.take k ++ ([⟨.slice va xn vc, xD, xf, xz, xg⟩] ++ xs.drop k)) := by
        have h1 := insI_at (x := ⟨.slice va xn vc, xD, xf, xz, xg⟩) (xs := xs) (k := k) (by rw [HN.out]; exact Nat.le_refl _) (fun j hj hjk => HLT.out j hj hjk) (fun hk => absurd hk (by rw [HN.out]; omega))
        rw [List.getElem?_eq_none (by rw [HN.out]; exact Nat.le_refl _)] at h1
        exact h1
      have HN' : Hid (k = xs.length) := HN.out
      go_wp2_with fail
      go_quiet (fail)
      obtain ⟨w3, HW3⟩ := hid_ex (wr.drewN nq)
      rw [← HW3.out]
      have HB3 : Hid (Below w.heap.size w w3) := by rw [HW3.out]; exact below_drewN HBr.out nq
      have HX3 : Hid (w3.heap[w.heap.size]? = some (.cells #[.slice va xn vc, .int .i64 xf, .int .i64 (xz : Int), .int .u64 xg.c, .bool xg.o, .int .i64 (hi xg.s), .int .u64 (lo xg.s), .int .i64 xg.mn, .int .i64 xg.mx] 42)) := by rw [HW3.out]; exact HXr.out
      clear HW3
      obtain ⟨a4, c4, hsl4, htr4⟩ := tsf_upto (HTZ.out.below HB3.out) HN.out.symm (d := k) (by omega)
      obtain ⟨v4, w4, hrun4, hu4, hs4, hown4, hkp4'⟩ := (TG.nil (T := 42) HB3.out).apps Tryz.underlying46 infoRf HB3.out.size htr4 (fun z hz => HSZ.out z (List.mem_of_mem_take hz)) (by simp) (by rw [List.length_take]; omega)
      rw [List.nil_append] at hu4
      have HU4 : Hid (TG 42 w.heap.size w w4 v4 (xs.take k)) := hu4
      have HS4 : Hid (w.heap.size ≤ w4.heap.size) := hs4
      have hwl3 : w.heap.size < w3.heap.size := (Array.getElem?_eq_some_iff.1 HX3.out).1
      have hkp4 : ∀ c, c < w3.heap.size → w4.heap[c]? = w3.heap[c]? := fun c hc => hkp4' c hc (by simp [Value.ownBlock])
      have HOWN : Hid (v4.ownBlock ≠ some w.heap.size) := fun e => by
        rcases hown4 _ e with q | q
        · simp [Value.ownBlock] at q
        · omega
      obtain ⟨o4, p4, e4, -⟩ := GOwn.form HU4.out.o
      have hl4 : (xs.take k).length = k := by rw [List.length_take, ← HN.out]; omega
      rw [hl4] at e4
      subst e4
      have HX4 : Hid (w4.heap[w.heap.size]? = some (.cells #[.slice va xn vc, .int .i64 xf, .int .i64 (xz : Int), .int .u64 xg.c, .bool xg.o, .int .i64 (hi xg.s), .int .u64 (lo xg.s), .int .i64 xg.mn, .int .i64 xg.mx] 42)) := (hkp4 _ hwl3).trans HX3.out
      clear hu4 hs4 htr4 hl4 hown4 hkp4 hkp4'
      go_wp2_with (at_builtin; refine wpList_app_runG rfl _ _ 46 46 rfl rfl _ _ _ rfl rfl hrun4 ?_; clear hrun4 hsl4)
      go_quiet (fail)
      obtain ⟨w5, HW5⟩ := hid_ex (w4.drewN nq)
      rw [← HW5.out]
      have HW5' : Hid (Below w4.heap.size w4 w5) := by rw [HW5.out]; exact below_drewN (Below.refl _ _) nq
      clear HW5
      have HX8 : Hid (w5.heap[w.heap.size]? = some (.cells #[.slice va xn vc, .int .i64 xf, .int .i64 (xz : Int), .int .u64 xg.c, .bool xg.o, .int .i64 (hi xg.s), .int .u64 (lo xg.s), .int .i64 xg.mn, .int .i64 xg.mx] 42)) := (HW5'.out.block _ (Array.getElem?_eq_some_iff.1 HX4.out).1).trans HX4.out
      have HU5 : Hid (TG 42 w.heap.size w w5 (.slice o4 k p4) (xs.take k)) := HU4.out.below HW5'.out HS4.out
      have HS5 : Hid (w.heap.size ≤ w5.heap.size) := Nat.le_trans HS4.out HW5'.out.size
      clear HU4 HS4 HW5' HX4
      have x0 := (cell_row HX8.out 0 (by simp)).1
      have x1 := (cell_row HX8.out 1 (by simp)).1
      have x2 := (cell_row HX8.out 2 (by simp)).1
      have x3 := (cell_row HX8.out 3 (by simp)).1
      have x4 := (cell_row HX8.out 4 (by simp)).1
      have x5 := (cell_row HX8.out 5 (by simp)).1
      have x6 := (cell_row HX8.out 6 (by simp)).1
      have x7 := (cell_row HX8.out 7 (by simp)).1
      have x8 := (cell_row HX8.out 8 (by simp)).1
      simp only [List.getElem_toArray, List.getElem_cons_zero, List.getElem_cons_succ] at x0 x1 x2 x3 x4 x5 x6 x7 x8
      obtain ⟨v6, w6, hrun6, hu6, hs6⟩ := HU5.out.app Tryz.underlying46 infoRf HS5.out ⟨.slice va xn vc, xD, xf, xz, xg⟩ HSX0.out (by rw [List.length_take]; omega)
      simp only [c9] at hrun6
      have HU6 : Hid (TG 42 w.heap.size w w6 v6 (xs.take k ++ [⟨.slice va xn vc, xD, xf, xz, xg⟩])) := hu6
      obtain ⟨d7, HD7⟩ : ∃ d, Hid (k - (k) = d) := ⟨_, rfl⟩
      obtain ⟨a7, c7, hsl7, htr7⟩ := tsf_from (HTZ.out.below HU6.out.b) HN.out.symm (c := k) (by omega)
      rw [HD7.out] at hsl7 htr7
      obtain ⟨v7, w7, hrun7, hu7, hs7, -, -⟩ := HU6.out.apps Tryz.underlying46 infoRf hs6 htr7 (fun z hz => HSZ.out z (List.mem_of_mem_drop hz)) (by rw [List.length_append, List.length_take]; simp; omega) (by rw [List.length_drop, ← HN.out]; omega)
      have HU7 : Hid (TG 42 w.heap.size w w7 v7 (insI ⟨.slice va xn vc, xD, xf, xz, xg⟩ xs)) := by
        show TG _ _ _ _ _ _
        rw [HINS.out]
        have := hu7
        rw [List.append_assoc] at this
        exact this
      obtain ⟨o6, c6, e6, -⟩ := GOwn.form HU6.out.o
      obtain ⟨M6, HM6⟩ : ∃ m, Hid ((xs.take k ++ [(⟨.slice va xn vc, xD, xf, xz, xg⟩ : It)]).length = m) := ⟨_, rfl⟩
      rw [HM6.out] at e6
      subst e6
      clear hu6 hu7 HU6 HU5
      go_wp2_with (at_builtin; first | (refine wpList_app_runG rfl _ _ 46 46 rfl rfl _ _ _ rfl rfl hrun6 ?_; clear hrun6) | (refine wpList_app_runG rfl _ _ 46 46 rfl rfl _ _ _ rfl rfl hrun7 ?_; clear hrun7 hsl7))
      have HFIN : Hid (∃ v', Ending.returned v7 = .returned v' ∧ TRz w7 v' (insI ⟨.slice va xn vc, xD, xf, xz, xg⟩ xs) ∧ Below w.heap.size w w7) := ⟨v7, rfl, HU7.out.readz, HU7.out.b⟩
      go_ret
      exact HFIN.out
end Go.Proofs.YtoenijflijfogaaGreat
