/- BK12 RK6 AY3, joined. -/
import Derived.Test.YtlpjdfgknmfmnaaTZ0
import Derived.Test.YtlpjdfgknmfmnaaTF25
import Derived.Test.YtlpjdfgknmfmnaaTF33
import Derived.Test.YtlpjdfgknmfmnaaTF34
import Derived.Test.YtlpjdfgknmfmnaaTF40
import Derived.RangeFuncRecord
/- The contracts of layer 9's 'As' and 'Same'. -/
namespace Go.Proofs.Ytlpjdfgknmfmnaa
open Go.RowKit

theorem infoR : (Try.prog.info? 64).map (fun i => (i.zero, i.size, i.bytes)) = some (some (.agg #[.slice none 0 0, .slice none 0 0]), 2, 48) := by kernel_rfl
/-- An append whose run is known, at one operation. -/
theorem wp_app_run {w w' : World} {o : Oper} {a : Act} {K : Act → World → Prop} {Q : Exit → Act → World → Prop} (s x : Operand) (t ty : TypeId) (ho : o.op = .call { callee := .builtin .append, args := #[s, x], argTypes := #[t, t] }) (hty : o.type = ty) (v vx v' : Value) (hs : a.eval s = v) (hx : a.eval x = vx)
    (hrun : (Builtin.append_ #[t, t] ty #[v, vx]).run Try.prog w = .ok v' w') (h : K (a.put o.dst v') w') : o.wp Try.prog a w K Q := by
  subst hty
  unfold Oper.wp
  simp [execOp, ho, resolve, invoke, builtin, hs, hx, hrun, Result.andThen]
  exact h
def v2 (p : Value × Value) : List Value := [p.1, p.2]
theorem flatv : ∀ (xs : List (Value × Value)) (j i : Nat) (hj : j < xs.length), i < 2 → (xs.flatMap v2)[2 * j + i]? = (v2 xs[j])[i]?
  | [], j, i, hj, _ => by simp at hj
  | x :: xs, 0, i, _, hi => by
    rw [List.flatMap_cons, List.getElem?_append_left (by simp [v2]; omega)]; simp
  | x :: xs, j + 1, i, hj, hi => by
    rw [List.flatMap_cons, List.getElem?_append_right (by simp [v2]; omega), show (v2 x).length = 2 from rfl, show 2 * (j + 1) + i - 2 = 2 * j + i by omega]
    exact flatv xs j i (by simpa using hj) hi
/-- What As has laid so far. -/
def AsI (w : World) (l : List Pr) (k : Nat) (o : Value) (wr : World) : Prop :=
  ∃ vs : List (Value × Value), vs.length = k ∧ wr.ownsRow w.heap.size 64 2 o k (vs.flatMap v2) ∧ (∀ j (h1 : j < vs.length) (h2 : j < l.length), Reads w vs[j].1 l[j].1 ∧ Reads w vs[j].2 l[j].2) ∧ Below w.heap.size w wr
theorem AsI.form {w : World} {l : List Pr} {k : Nat} {o : Value} {wr : World} (h : AsI w l k o wr) : ∃ a cap, o = .slice a k cap := by
  obtain ⟨vs, _, h2, _⟩ := h
  rcases h2.2 with ⟨h1, h2⟩ | ⟨g, cap, cur, hv, _⟩
  · exact ⟨none, 0, by rw [h1, h2]⟩
  · exact ⟨_, cap, hv⟩
theorem AsI.reads {w : World} {l : List Pr} {o : Value} {wr : World} (h : AsI w l l.length o wr) : PReads wr o l := by
  obtain ⟨vs, hl, hr0, hv, hb⟩ := h
  have hlt := World.ownsRow.lt hr0
  rcases hr0.2 with ⟨h1, h2⟩ | ⟨g, cap, cur, hvv, hg, hw, hc, hm, _⟩
  · have : l = [] := List.length_eq_zero_iff.1 h2
    subst this
    exact ⟨none, 0, by rw [h1]; rfl, by simp, by simp, .inl rfl⟩
  · have hr := hr0
    rw [hvv] at hr
    refine ⟨some ⟨g, 0, none⟩, cap, hvv, hc, hm, .inr ⟨g, 0, rfl, (hlt g (by rw [hvv]; rfl)).2, fun j hj => ?_⟩⟩
    have c0 := World.ownsRow.cellAt hr (2 * j + 0) (by omega)
    have c1 := World.ownsRow.cellAt hr (2 * j + 1) (by omega)
    rw [flatv vs j 0 (by omega) (by decide)] at c0
    rw [flatv vs j 1 (by omega) (by decide)] at c1
    have hx := hv j (by omega) hj
    refine ⟨(vs[j]'(by omega)).1, (vs[j]'(by omega)).2, ?_, ?_, hx.1.below hb, hx.2.below hb⟩
    · rw [show 0 + j * 2 = 2 * j + 0 by omega, c0]; rfl
    · rw [show 0 + j * 2 + 1 = 2 * j + 1 by omega, c1]; rfl
end Go.Proofs.Ytlpjdfgknmfmnaa

/- The contract of the reference's Read. -/
namespace Go.Proofs.Ytlpjdfgknmfmnaa
open Go.RowKit

/-- A pair, and where it lies. -/
structure Px where
  kv : Value
  vv : Value
  p : Pr
def q2 (x : Px) : List Value := [x.kv, x.vv]
/-- A slice of the reference's pairs of one's own. -/
def ROwn (W : World) (base : Nat) (v : Value) (xs : List Px) : Prop := W.ownsRow base 64 2 v xs.length (xs.flatMap q2) ∧ ∀ x ∈ xs, Own W base x.kv x.p.1 ∧ Own W base x.vv x.p.2
theorem row_below {A B : World} {base : Nat} {e : TypeId} {size : Nat} {v : Value} {k : Nat} {xs : List Value} (h : A.ownsRow base e size v k xs) (hb : Below A.heap.size A B) : B.ownsRow base e size v k xs := row_kc h (Kc.of_below hb (Nat.le_refl _))
theorem ROwn.below {A B : World} {base : Nat} {v : Value} {xs : List Px} (h : ROwn A base v xs) (hb : Below A.heap.size A B) : ROwn B base v xs :=
  ⟨row_below h.1 hb, fun x hx => ⟨(h.2 x hx).1.below hb, (h.2 x hx).2.below hb⟩⟩
theorem ROwn.form {W : World} {base : Nat} {v : Value} {xs : List Px} (h : ROwn W base v xs) : ∃ a cap, v = .slice a xs.length cap := by
  rcases h.1.2 with ⟨h1, h2⟩ | ⟨g, cap, cur, hv, _⟩
  · exact ⟨none, 0, by rw [h1, h2]⟩
  · exact ⟨_, cap, hv⟩
theorem flatq : ∀ (xs : List Px) (j i : Nat) (hj : j < xs.length), i < 2 → (xs.flatMap q2)[2 * j + i]? = (q2 xs[j])[i]?
  | [], j, i, hj, _ => by simp at hj
  | x :: xs, 0, i, _, hi => by
    rw [List.flatMap_cons, List.getElem?_append_left (by simp [q2]; omega)]; simp
  | x :: xs, j + 1, i, hj, hi => by
    rw [List.flatMap_cons, List.getElem?_append_right (by simp [q2]; omega), show (q2 x).length = 2 from rfl, show 2 * (j + 1) + i - 2 = 2 * j + i by omega]
    exact flatq xs j i (by simpa using hj) hi
theorem ROwn.reads {w : World} {base : Nat} {v : Value} {xs : List Px} (h : ROwn w base v xs) : PReads w v (xs.map Px.p) := by
  have hlt := World.ownsRow.lt h.1
  rcases h.1.2 with ⟨h1, h2⟩ | ⟨g, cap, cur, hv, hg, hw, hc, hm, _⟩
  · have : xs = [] := List.length_eq_zero_iff.1 h2
    subst this
    exact ⟨none, 0, by rw [h1]; rfl, by simp, by simp, .inl rfl⟩
  · have hr := h.1
    rw [hv] at hr
    refine ⟨some ⟨g, 0, none⟩, cap, by rw [hv]; simp, by simpa using hc, hm, ?_⟩
    refine .inr ⟨g, 0, rfl, (hlt g (by rw [hv]; rfl)).2, fun j hj => ?_⟩
    simp at hj
    have e : (xs.map Px.p)[j]'(by simpa using hj) = xs[j].p := by simp
    rw [e]
    have c0 := World.ownsRow.cellAt hr (2 * j + 0) (by omega)
    have c1 := World.ownsRow.cellAt hr (2 * j + 1) (by omega)
    rw [flatq xs j 0 hj (by decide)] at c0
    rw [flatq xs j 1 hj (by decide)] at c1
    have hx := h.2 _ (List.getElem_mem hj)
    refine ⟨xs[j].kv, xs[j].vv, ?_, ?_, hx.1.reads, hx.2.reads⟩
    · rw [show 0 + j * 2 = 2 * j + 0 by omega, c0]; rfl
    · rw [show 0 + j * 2 + 1 = 2 * j + 1 by omega, c1]; rfl
/-- Where the last key lies. -/
def lastV (xs : List Px) : Value := match xs.getLast? with | none => .slice none 0 0 | some x => x.kv
theorem lastV_snoc (xs : List Px) (x : Px) : lastV (xs ++ [x]) = x.kv := by simp [lastV]
theorem ROwn.last {W : World} {base : Nat} {v : Value} {xs : List Px} (h : ROwn W base v xs) : Reads W (lastV xs) (lastK [] (xs.map Px.p)) := by
  unfold lastV lastK
  rw [List.getLast?_map]
  cases hl : xs.getLast? with
  | none => exact .inl ⟨rfl, _, _, rfl, fun _ => rfl⟩
  | some x => exact (h.2 x (List.mem_of_getLast? hl)).1.reads
def slLen : Value → Nat
  | .slice _ n _ => n
  | _ => 0
/-- The same, of one's own. -/
def RfPostO (w : World) (b : List UInt8) (e : Ending) (W' : World) : Prop := Below w.heap.size w W' ∧
  match rdB b with
  | none => e = .returned (.tuple #[.slice none 0 0, .int .i64 60])
  | some l => ∃ u xs, e = .returned (.tuple #[u, .int .i64 0]) ∧ ROwn W' w.heap.size u xs ∧ xs.map Px.p = l
theorem st3_no {L : List UInt8} {A : Ks} (h : th3 L = none) : st3 L A = none := by unfold st3; rw [h]
theorem st3_bad {L : List UInt8} {A : Ks} {s m v t : Nat} (h : th3 L = some (s, m, v, t)) (hb : A.length < s ∨ (L.drop t).length < m ∨ (L.drop t).length - m < v) : st3 L A = none := by
  unfold st3; rw [h]; exact if_pos hb
theorem st3_ok {L : List UInt8} {A : Ks} {s m v t : Nat} (h : th3 L = some (s, m, v, t)) (hb : ¬ (A.length < s ∨ (L.drop t).length < m ∨ (L.drop t).length - m < v)) : st3 L A = some ((A.take s ++ (L.drop t).take m, ((L.drop t).drop m).take v), (L.drop t).drop (m + v)) := by
  unfold st3; rw [h]; exact if_neg hb
set_option maxRecDepth 100000 in
set_option maxHeartbeats 1000000 in
theorem rcopy_any (v : Value) (l : List UInt8) (hl : l.length ≤ 100000) (w : World) (hr : Reads w v l) :
    Calls Try.prog 9 #[v] w fun e w' => ∃ v', e = .returned v' ∧ Own w' w.heap.size v' l ∧ Below w.heap.size w w' := by
  go_enter Try.func9, Try.ntmps9
  go_wp2_with (at_builtin; refine wpList_app rfl _ _ rfl w.heap.size _ _ [] l l rfl rfl rfl (Own.nil _ _) hr (by simp; omega) (Nat.le_refl _) ?_)
  intro v2 w2 HO2 hb2
  clear hr
  go_wp2_with fail
  go_ret
  exact ⟨_, rfl, HO2, hb2.out⟩
theorem wpList_app_run {w w' : World} {ops : Array Oper} {rest : List Oper} {o : Oper} {a : Act} {Q : Exit → Act → World → Prop} (hgd : o.guard = none) (s x : Operand) (t ty : TypeId) (ho : o.op = .call { callee := .builtin .append, args := #[s, x], argTypes := #[t, t] }) (hty : o.type = ty) (v vx v' : Value) (hs : a.eval s = v) (hx : a.eval x = vx)
    (hrun : (Builtin.append_ #[t, t] ty #[v, vx]).run Try.prog w = .ok v' w') (h : wpList Try.prog ops Q rest (a.put o.dst v') w') : wpList Try.prog ops Q (o :: rest) a w :=
  wpList_plain hgd fun _ hK => wp_app_run s x t ty ho hty v vx v' hs hx hrun (hK _ _ h)
theorem ROwn.add {W w1 : World} {base : Nat} {v v' : Value} {xs : List Px} (tmp : Obj) {x : Px} (h : ROwn W base v xs) (hx : Own W base x.kv x.p.1 ∧ Own W base x.vv x.p.2) (ho : w1.ownsRow base 64 2 v' (xs.length + 1) (xs.flatMap q2 ++ [x.kv, x.vv])) (hg : (W.alloc tmp).grownBy w1 v.ownBlock) : ROwn w1 base v' (xs ++ [x]) := by
  refine ⟨?_, ?_⟩
  · rw [List.flatMap_append, List.length_append]
    simpa [q2] using ho
  · intro y hy
    rcases List.mem_append.1 hy with hy | hy
    · exact ⟨own_grown tmp (h.2 y hy).1 h.1 (by decide) hg, own_grown tmp (h.2 y hy).2 h.1 (by decide) hg⟩
    · simp at hy; subst hy
      exact ⟨own_grown tmp hx.1 h.1 (by decide) hg, own_grown tmp hx.2 h.1 (by decide) hg⟩
set_option maxRecDepth 100000 in
set_option maxHeartbeats 8000000 in
theorem refReadO_any (v : Value) (b : List UInt8) (w : World) (hR : Reads w v b) :
    Calls Try.prog 38 #[v] w fun e w' => RfPostO w b e w' := by
  have HR : Hid (Reads w v b) := hR
  obtain ⟨a, cap, rfl, hm⟩ := hR.form
  unfold maxLen at hm
  clear hR
  go_enter Try.func38, Try.ntmps38
  go_wp2_with fail
  go_loopw [4, 5, 6] (fun o lv fv wr => ∃ (xs : List Px) (L : List UInt8), Hid (ROwn wr w.heap.size o xs) ∧ Hid (lv = lastV xs) ∧ Hid (Reads w fv L) ∧ Hid (Inv b (xs.map Px.p) L) ∧ xs.length ≤ 4097 ∧ Hid (Below w.heap.size w wr)) (fun _ _ fv _ => slLen fv)
  case atStart => exact ⟨[], b, ⟨World.ownsRow_nil _ _ _ _, fun x hx => by cases hx⟩, (rfl : _ = _), HR, Inv.start b, by simp, Below.refl _ _⟩
  case round =>
    rename World => wr
    obtain ⟨xs, L, HO, HLV, HF, HI, hxl, HB⟩ := hrel
    obtain ⟨af, cf, rfl, hmf⟩ := HF.out.form
    obtain ⟨ao, co, rfl⟩ := HO.out.form
    have hlr := HO.out.last
    rw [← HLV.out] at hlr
    obtain ⟨A, HA⟩ := hid_ex (lastK [] (xs.map Px.p))
    rw [← HA.out] at hlr
    obtain ⟨al, cl, rfl, hml⟩ := hlr.form
    have HLR : Hid (Reads wr (.slice al A.length cl) A) := hlr
    clear hlr
    unfold maxLen at hmf hml
    by_cases g1 : (0 : Int) < (L.length : Int)
    · have g1n : 0 < L.length := by omega
      have HL0 : Hid (L ≠ []) := List.length_pos_iff.1 g1n
      by_cases g2 : (xs.length : Int) ≤ 4096
      · go_wp2_with fail
        refine (three_any _ L w _ HB.out HF.out).mono ?_
        rintro e w1 ⟨hb1, hth⟩
        have HB1 : Hid (Below wr.heap.size wr w1) := hb1
        clear hb1
        cases ht : th3 L with
        | none =>
          rw [ht] at hth
          obtain ⟨x, y, z, rfl⟩ := hth
          have HN : Hid (rdB b = none) := HI.out.fail HL0.out (st3_no ht)
          have HT : Hid _ := ht
          clear ht
          go_wp2_with fail
          go_ret2
          refine ⟨(HB.out.trans (HB1.out.mono HB.out.size)).alloc (Nat.le_trans HB.out.size HB1.out.size) _, ?_⟩
          rw [HN.out]
          rfl
        | some q =>
          obtain ⟨s, m, vn, t⟩ := q
          rw [ht] at hth
          obtain ⟨u, rfl, hru⟩ := hth
          have HT : Hid (th3 L = some (s, m, vn, t)) := ht
          clear ht
          have hb3 := th3_back HT.out
          obtain ⟨lq1, lq2, lq3, -⟩ := hb3
          obtain ⟨R, HRR⟩ := hid_ex (L.drop t)
          rw [← HRR.out] at hru
          have HRu : Hid (Reads w u R) := hru
          obtain ⟨ar, cr, rfl, hmr⟩ := hru.form
          unfold maxLen at hmr
          clear hru
          by_cases c1 : (A.length : Int) < (s : Int)
          · have HN : Hid (rdB b = none) := HI.out.fail HL0.out (by rw [← HA.out]; exact st3_bad HT.out (.inl (by omega)))
            go_wp2_with fail
            go_ret2
            refine ⟨(HB.out.trans (HB1.out.mono HB.out.size)).alloc (Nat.le_trans HB.out.size HB1.out.size) _, ?_⟩
            rw [HN.out]
            rfl
          by_cases c2 : (R.length : Int) < (m : Int)
          · have HN : Hid (rdB b = none) := HI.out.fail HL0.out (by rw [← HA.out]; exact st3_bad HT.out (.inr (.inl (by rw [← HRR.out]; omega))))
            go_wp2_with fail
            go_ret2
            refine ⟨(HB.out.trans (HB1.out.mono HB.out.size)).alloc (Nat.le_trans HB.out.size HB1.out.size) _, ?_⟩
            rw [HN.out]
            rfl
          by_cases c3 : (R.length : Int) - (m : Int) < (vn : Int)
          · have HN : Hid (rdB b = none) := HI.out.fail HL0.out (by rw [← HA.out]; exact st3_bad HT.out (.inr (.inr (by rw [← HRR.out]; omega))))
            go_wp2_with fail
            go_ret2
            refine ⟨(HB.out.trans (HB1.out.mono HB.out.size)).alloc (Nat.le_trans HB.out.size HB1.out.size) _, ?_⟩
            rw [HN.out]
            rfl
          have HS3 : Hid (st3 L A = some ((A.take s ++ R.take m, (R.drop m).take vn), R.drop (m + vn))) := by
            have := st3_ok (A := A) HT.out (by rw [← HRR.out]; omega)
            rw [← HRR.out] at this; exact this
          have HI2 : Hid (Inv b (xs.map Px.p ++ [(A.take s ++ R.take m, (R.drop m).take vn)]) (R.drop (m + vn))) := HI.out.step HL0.out (by rw [← HA.out]; exact HS3.out)
          have hless : R.length - (m + vn) < L.length := by have := st3_len HS3.out HL0.out; rwa [List.length_drop] at this
          obtain ⟨w2, HW2⟩ := hid_ex ((w1.alloc (.cells #[.int .i64 (s : Int), .int .i64 (m : Int), .int .i64 (vn : Int)] 104)).alloc (.cells #[.slice none 0 0, .slice none 0 0] 64))
          have HN2 : Hid (w2.heap[w1.heap.size]? = some (.cells #[.int .i64 (s : Int), .int .i64 (m : Int), .int .i64 (vn : Int)] 104)) := by rw [HW2.out]; exact (heap_two w1 _ _).2
          have HP2 : Hid (w2.heap[w1.heap.size + 1]? = some (.cells #[.slice none 0 0, .slice none 0 0] 64)) := by rw [HW2.out]; exact (heap_two w1 _ _).1
          have hz1 := HB1.out.size
          have HQ2 : Hid (Below wr.heap.size wr w2) := by rw [HW2.out]; exact (HB1.out.alloc hz1 _).alloc (by simp; omega) _
          have hz2 : w2.heap.size = w1.heap.size + 2 := by rw [HW2.out]; simp
          obtain ⟨a5, f5, hs5, hr5⟩ := sl_upto HLR.out (d := s) (by omega)
          obtain ⟨a6, f6, hs6, hr6⟩ := sl_upto HRu.out (d := m) (by omega)
          obtain ⟨D, hD⟩ : ∃ D : Nat, (m : Int) + (vn : Int) = (D : Int) := ⟨m + vn, by omega⟩
          obtain ⟨a7, f7, hs7, hr7⟩ := sl_part HRu.out (c := m) (d := D) (by omega) (by omega)
          obtain ⟨a8, f8, hs8, hr8⟩ := sl_from HRu.out (c := D) (by omega)
          have hDe : D = m + vn := by omega
          have HR5 : Hid (Reads wr (.slice a5 s f5) (A.take s)) := hr5
          have HR6 : Hid (Reads w (.slice a6 m f6) (R.take m)) := hr6
          have HR7 : Hid (Reads w (.slice a7 (D - m) f7) ((R.drop m).take vn)) := by
            have e : (R.drop m).take vn = (R.take D).drop m := by rw [List.drop_take]; congr 1; omega
            rw [e]; exact hr7
          have HR8 : Hid (Reads w (.slice a8 (R.length - D) f8) (R.drop D)) := hr8
          have HDE : Hid (D = m + vn) := hDe
          clear hr5 hr6 hr7 hr8 hDe
          have z0 := cell_rw HP2.out 0 (by simp)
          simp only [List.getElem_toArray, List.getElem_cons_zero] at z0
          have HLT : Hid ((A.take s).length ≤ 4096) := by unfold Hid; simp; omega
          have HLM : Hid ((R.take m).length ≤ 4096) := by unfold Hid; simp; omega
          have HLV2 : Hid (((R.drop m).take vn).length ≤ 4096) := by unfold Hid; simp; omega
          go_wp2_with fail
          rw [← HW2.out]
          refine wp_region_noPanic ?_
          refine wp_region_held_drew (S := (fun w' => Below wr.heap.size wr w' ∧ w'.heap[w1.heap.size]? = some (.cells #[.int .i64 (s : Int), .int .i64 (m : Int), .int .i64 (vn : Int)] 104))) (by kernel_rfl) ?_ (fun hHeld => ?_)
          · exact ⟨HQ2.out.drew, HN2.out⟩
          refine tk (i := 0) (v := .pointer (some ⟨w1.heap.size + 1, 0, none⟩)) rfl ?_ ?_
          · intro w1 hSw; go_simp
          simp only [za, zc, Act.put, zd, ze, zf]
          refine tk (i := 2) (v := .slice al A.length cl) rfl ?_ ?_
          · intro w1 hSw; go_simp
          simp only [za, zb, zc, Act.put, zd, ze, zf]
          refine tk (i := 3) (v := .pointer (some ⟨w1.heap.size, 0, none⟩)) rfl ?_ ?_
          · intro w1 hSw; go_simp
          simp only [za, zb, zc, Act.put, zd, ze, zf]
          refine tk (i := 4) (v := .int .i64 (s : Int)) rfl ?_ ?_
          · (intro w1 hSw; (try dsimp only at hSw); have hcc := cell_rw hSw.2 0 (by simp); simp only [List.getElem_toArray, List.getElem_cons_zero] at hcc; go_simp)
          simp only [za, zb, zc, Act.put, zd, ze, zf]
          refine tk (i := 5) (v := .slice a5 s f5) rfl ?_ ?_
          · intro w1 hSw; go_simp
          simp only [za, zb, zc, Act.put, zd, ze, zf]
          refine wpAnyH_ready (rs := [1]) (by kernel_rfl) (by simp) ?_
          refine AllReadyH.cons (o := _) rfl (fun K hK => ?_) AllReadyH.nil
          go_simp
          refine hK.out _ _ ?_ (fun hHeld => ?_)
          · exact ⟨HQ2.out.drew, HN2.out⟩
          clear hK K
          refine wpAnyH_ready (rs := [6]) (by kernel_rfl) (by simp) ?_
          refine AllReadyH.cons (o := _) rfl (fun K hK => ?_) AllReadyH.nil
          refine wp_app _ _ (by rfl) w2.heap.size _ _ [] (A.take s) (A.take s) rfl (by rfl) (by rfl) (Own.nil _ _) (HR5.out.below HQ2.out.drew) (by have := HLT.out; simp only [List.length_nil]; omega) (Nat.le_refl _) ?_
          intro v6 w6 ho6 HB6
          have HO6 : Hid (Own w6 w2.heap.size v6 (A.take s)) := ho6
          have HBB6 : Hid (Below w2.heap.size w2 w6) := (Below.refl w2.heap.size w2).drew.trans HB6.out
          have HQ6 : Hid (Below wr.heap.size wr w6) := HQ2.out.trans (HBB6.out.mono HQ2.out.size)
          have HN6 : Hid (w6.heap[w1.heap.size]? = some (.cells #[.int .i64 (s : Int), .int .i64 (m : Int), .int .i64 (vn : Int)] 104)) := (HBB6.out.block _ (by omega)).trans HN2.out
          have HP6 : Hid (w6.heap[w1.heap.size + 1]? = some (.cells #[.slice none 0 0, .slice none 0 0] 64)) := (HBB6.out.block _ (by omega)).trans HP2.out
          have hz6 := HBB6.out.size
          clear ho6 HB6 hHeld
          simp only [za, zb, zc, Act.put, zd, ze, zf]
          refine hK.out _ _ ?_ (fun hHeld => ?_)
          · exact ⟨HQ6.out, HN6.out⟩
          clear hK K
          refine tk (i := 7) (v := .pointer (some ⟨w1.heap.size + 1, 0, none⟩)) rfl ?_ ?_
          · intro w1 hSw; go_simp
          simp only [za, zb, zc, Act.put, zd, ze, zf]
          clear z0
          have f0 := frozen_rw HP6.out 0
          have z0 := cell_rw HP6.out 0 (by simp)
          simp only [List.getElem_toArray, List.getElem_cons_zero] at z0
          obtain ⟨av6, cv6, hv6, -⟩ := HO6.out.form
          subst hv6
          obtain ⟨K6, HK6⟩ := hid_ex (A.take s)
          rw [← HK6.out] at HO6 HLT
          rw [← HK6.out]
          refine wpAnyH_ready (rs := [8]) (by kernel_rfl) (by simp) ?_
          refine AllReadyH.cons (o := _) rfl (fun K hK => ?_) AllReadyH.nil
          go_simp
          obtain ⟨w7, HW7⟩ := hid_ex (w6.setCell ⟨w1.heap.size + 1, 0, none⟩ (.slice av6 K6.length cv6))
          have HQ7 : Hid (Below wr.heap.size wr w7) := by rw [HW7.out]; exact HQ6.out.setCell (by simp; omega) _
          have HP7 : Hid (w7.heap[w1.heap.size + 1]? = some (.cells #[.slice av6 K6.length cv6, .slice none 0 0] 64)) := by
            rw [HW7.out]
            have := Go.heap_setCell_same w6 (w1.heap.size + 1) 0 _ _ (.slice av6 K6.length cv6) HP6.out
            unfold Hid; simpa using this
          have HN7 : Hid (w7.heap[w1.heap.size]? = some (.cells #[.int .i64 (s : Int), .int .i64 (m : Int), .int .i64 (vn : Int)] 104)) := by
            rw [HW7.out]; unfold Hid; rw [Go.heap_setCell_other _ _ _ _ (by simp)]; exact HN6.out
          have HO7 : Hid (Own w7 w2.heap.size (.slice av6 K6.length cv6) K6) := by rw [HW7.out]; exact own_setB _ HO6.out HP6.out (by decide)
          have hz7 : w2.heap.size ≤ w7.heap.size := by rw [HW7.out]; simpa using hz6
          rw [← HW7.out]
          refine hK.out _ _ ?_ (fun hHeld => ?_)
          · exact ⟨HQ7.out, HN7.out⟩
          clear hK K
          clear hHeld z0 f0 HQ6 HP6 HN6 HO6 HW7 HQ2 HP2 HN2 HBB6 hz6 hs5 HR5
          refine wpAnyH_done (by kernel_rfl) ?_ _
          refine NoPanic.normal ?_
          have z0 := cell_rw HP7.out 0 (by simp)
          simp only [List.getElem_toArray, List.getElem_cons_zero] at z0
          go_wp2_with fail
          refine wp_region_noPanic ?_
          refine wp_region_held_drew (S := (fun w' => Below wr.heap.size wr w' ∧ w'.heap[w1.heap.size]? = some (.cells #[.int .i64 (s : Int), .int .i64 (m : Int), .int .i64 (vn : Int)] 104))) (by kernel_rfl) ?_ (fun hHeld => ?_)
          · exact ⟨HQ7.out.drew, HN7.out⟩
          refine tk (i := 0) (v := .pointer (some ⟨w1.heap.size + 1, 0, none⟩)) rfl ?_ ?_
          · intro w1 hSw; go_simp
          simp only [za, zc, Act.put, zd, ze, zf]
          refine tk (i := 2) (v := .slice ar R.length cr) rfl ?_ ?_
          · intro w1 hSw; go_simp
          simp only [za, zb, zc, Act.put, zd, ze, zf]
          refine tk (i := 3) (v := .pointer (some ⟨w1.heap.size, 1, none⟩)) rfl ?_ ?_
          · intro w1 hSw; go_simp
          simp only [za, zb, zc, Act.put, zd, ze, zf]
          refine tk (i := 4) (v := .int .i64 (m : Int)) rfl ?_ ?_
          · (intro w1 hSw; (try dsimp only at hSw); have hcc := cell_rw hSw.2 1 (by simp); simp only [List.getElem_toArray, List.getElem_cons_succ, List.getElem_cons_zero] at hcc; go_simp)
          simp only [za, zb, zc, Act.put, zd, ze, zf]
          refine tk (i := 5) (v := .slice a6 m f6) rfl ?_ ?_
          · intro w1 hSw; go_simp
          simp only [za, zb, zc, Act.put, zd, ze, zf]
          refine wpAnyH_ready (rs := [1]) (by kernel_rfl) (by simp) ?_
          refine AllReadyH.cons (o := _) rfl (fun K hK => ?_) AllReadyH.nil
          go_simp
          refine hK.out _ _ ?_ (fun hHeld => ?_)
          · exact ⟨HQ7.out.drew, HN7.out⟩
          clear hK K
          refine wpAnyH_ready (rs := [6]) (by kernel_rfl) (by simp) ?_
          refine AllReadyH.cons (o := _) rfl (fun K hK => ?_) AllReadyH.nil
          refine wp_app _ _ (by rfl) w2.heap.size _ _ K6 (R.take m) (K6 ++ R.take m) rfl (by rfl) (by rfl) HO7.out (HR6.out.below (HB.out.trans (HQ7.out.drew.mono HB.out.size))) (by have h1 := HLT.out; have h2 := HLM.out; omega) hz7 ?_
          intro v8 w8 ho8 HB8
          have HO8 : Hid (Own w8 w2.heap.size v8 (K6 ++ R.take m)) := ho8
          have HBB8 : Hid (Below w2.heap.size w7 w8) := ((Below.refl w2.heap.size w7).drew).trans HB8.out
          have HQ8 : Hid (Below wr.heap.size wr w8) := HQ7.out.trans (HBB8.out.mono (by omega))
          have HN8 : Hid (w8.heap[w1.heap.size]? = some (.cells #[.int .i64 (s : Int), .int .i64 (m : Int), .int .i64 (vn : Int)] 104)) := (HBB8.out.block _ (by omega)).trans HN7.out
          have HP8 : Hid (w8.heap[w1.heap.size + 1]? = some (.cells #[.slice av6 K6.length cv6, .slice none 0 0] 64)) := (HBB8.out.block _ (by omega)).trans HP7.out
          clear ho8 HB8 hHeld
          simp only [za, zb, zc, Act.put, zd, ze, zf]
          refine hK.out _ _ ?_ (fun hHeld => ?_)
          · exact ⟨HQ8.out, HN8.out⟩
          clear hK K
          refine tk (i := 7) (v := .pointer (some ⟨w1.heap.size + 1, 0, none⟩)) rfl ?_ ?_
          · intro w1 hSw; go_simp
          simp only [za, zb, zc, Act.put, zd, ze, zf]
          clear z0
          have f0 := frozen_rw HP8.out 0
          have z0 := cell_rw HP8.out 0 (by simp)
          simp only [List.getElem_toArray, List.getElem_cons_zero] at z0
          obtain ⟨av8, cv8, hv8, -⟩ := HO8.out.form
          subst hv8
          obtain ⟨K8, HK8⟩ := hid_ex (K6 ++ R.take m)
          rw [← HK8.out] at HO8
          rw [← HK8.out]
          refine wpAnyH_ready (rs := [8]) (by kernel_rfl) (by simp) ?_
          refine AllReadyH.cons (o := _) rfl (fun K hK => ?_) AllReadyH.nil
          go_simp
          obtain ⟨w9, HW9⟩ := hid_ex (w8.setCell ⟨w1.heap.size + 1, 0, none⟩ (.slice av8 K8.length cv8))
          have HQ9 : Hid (Below wr.heap.size wr w9) := by rw [HW9.out]; exact HQ8.out.setCell (by simp; omega) _
          have HP9 : Hid (w9.heap[w1.heap.size + 1]? = some (.cells #[.slice av8 K8.length cv8, .slice none 0 0] 64)) := by
            rw [HW9.out]
            have := Go.heap_setCell_same w8 (w1.heap.size + 1) 0 _ _ (.slice av8 K8.length cv8) HP8.out
            unfold Hid; simpa using this
          have HN9 : Hid (w9.heap[w1.heap.size]? = some (.cells #[.int .i64 (s : Int), .int .i64 (m : Int), .int .i64 (vn : Int)] 104)) := by
            rw [HW9.out]; unfold Hid; rw [Go.heap_setCell_other _ _ _ _ (by simp)]; exact HN8.out
          have HO9 : Hid (Own w9 w2.heap.size (.slice av8 K8.length cv8) K8) := by rw [HW9.out]; exact own_setB _ HO8.out HP8.out (by decide)
          rw [← HW9.out]
          refine hK.out _ _ ?_ (fun hHeld => ?_)
          · exact ⟨HQ9.out, HN9.out⟩
          clear hK K
          clear hHeld z0 f0 HQ8 HP8 HN8 HO8 HW9 HQ7 HP7 HN7 HO7 HBB8 hs6 HR6
          refine wpAnyH_done (by kernel_rfl) ?_ _
          refine NoPanic.normal ?_
          have n1 := cell_rw HN9.out 1 (by simp)
          have n2 := cell_rw HN9.out 2 (by simp)
          simp only [List.getElem_toArray, List.getElem_cons_succ, List.getElem_cons_zero] at n1 n2
          go_wp2_with fail
          obtain ⟨V10, HV10⟩ := hid_ex ((R.drop m).take vn)
          rw [← HV10.out] at HR7 HLV2
          refine (rcopy_any _ V10 (by have := HLV2.out; omega) _ (HR7.out.below (HB.out.trans (HQ9.out.mono HB.out.size)))).mono ?_
          rintro e w10 ⟨v10, rfl, ho10, hb10⟩
          have HU10 : Hid (Own w10 w9.heap.size v10 V10) := ho10
          have HQ10 : Hid (Below wr.heap.size wr w10) := HQ9.out.trans (hb10.mono HQ9.out.size)
          have HP10 : Hid (w10.heap[w1.heap.size + 1]? = some (.cells #[.slice av8 K8.length cv8, .slice none 0 0] 64)) := (hb10.block _ (Array.getElem?_eq_some_iff.1 HP9.out).1).trans HP9.out
          have HN10 : Hid (w10.heap[w1.heap.size]? = some (.cells #[.int .i64 (s : Int), .int .i64 (m : Int), .int .i64 (vn : Int)] 104)) := (hb10.block _ (Array.getElem?_eq_some_iff.1 HN9.out).1).trans HN9.out
          have HO10 : Hid (Own w10 w2.heap.size (.slice av8 K8.length cv8) K8) := HO9.out.below hb10
          have hz9 : w2.heap.size ≤ w9.heap.size := by
            have := (Array.getElem?_eq_some_iff.1 HP9.out).1; omega
          obtain ⟨av10, cv10, hv10, -⟩ := HU10.out.form
          subst hv10
          clear hb10 ho10 HQ9 HP9 HN9 HO9 n1 n2 hs7 HR7
          have f1 := frozen_rw HP10.out 1
          have z1 := cell_rw HP10.out 1 (by simp)
          have y0 := cell_rw HP10.out 0 (by simp)
          simp only [List.getElem_toArray, List.getElem_cons_succ, List.getElem_cons_zero] at z1 y0
          obtain ⟨w11, HW11⟩ := hid_ex (w10.setCell ⟨w1.heap.size + 1, 1, none⟩ (.slice av10 V10.length cv10))
          have HQ11 : Hid (Below wr.heap.size wr w11) := by rw [HW11.out]; exact HQ10.out.setCell (by simp; omega) _
          have HP11 : Hid (w11.heap[w1.heap.size + 1]? = some (.cells #[.slice av8 K8.length cv8, .slice av10 V10.length cv10] 64)) := by
            rw [HW11.out]
            have := Go.heap_setCell_same w10 (w1.heap.size + 1) 1 _ _ (.slice av10 V10.length cv10) HP10.out
            unfold Hid; simpa using this
          have HN11 : Hid (w11.heap[w1.heap.size]? = some (.cells #[.int .i64 (s : Int), .int .i64 (m : Int), .int .i64 (vn : Int)] 104)) := by
            rw [HW11.out]; unfold Hid; rw [Go.heap_setCell_other _ _ _ _ (by simp)]; exact HN10.out
          have HO11 : Hid (Own w11 w.heap.size (.slice av8 K8.length cv8) K8) := by rw [HW11.out]; exact (own_setB _ HO10.out HP10.out (by decide)).mono (by have := HB.out.size; omega)
          have HU11 : Hid (Own w11 w.heap.size (.slice av10 V10.length cv10) V10) := by rw [HW11.out]; exact (own_setB _ HU10.out HP10.out (by decide)).mono (by have := HB.out.size; omega)
          have HX11 : Hid (ROwn w11 w.heap.size (.slice ao xs.length co) xs) := HO.out.below HQ11.out
          have hsz11 : w.heap.size ≤ w11.heap.size := Nat.le_trans HB.out.size HQ11.out.size
          obtain ⟨i0, hi0, hy0, hy1, hy2⟩ := info_parts infoR
          have HI0 : Hid _ := hi0
          have HY0 : Hid _ := hy0
          have HY1 : Hid _ := hy1
          have HY2 : Hid _ := hy2
          clear hi0 hy0 hy1 hy2
          have HAP : Hid (∃ u w12, (Builtin.append_ #[62, 62] 62 #[.slice ao xs.length co, .slice (some ⟨w11.heap.size, 0, none⟩) 1 1]).run Try.prog (w11.alloc (.cells #[.slice av8 K8.length cv8, .slice av10 V10.length cv10] 64)) = .ok u w12 ∧ ROwn w12 w.heap.size u (xs ++ [⟨.slice av8 K8.length cv8, .slice av10 V10.length cv10, (K8, V10)⟩]) ∧ Below w.heap.size w w12 ∧ w12.heap[w1.heap.size + 1]? = some (.cells #[.slice av8 K8.length cv8, .slice av10 V10.length cv10] 64) ∧ w12.heap[w1.heap.size]? = some (.cells #[.int .i64 (s : Int), .int .i64 (m : Int), .int .i64 (vn : Int)] 104)) := by
            obtain ⟨u, w12, hrun, hown', hgrow, _⟩ := run_append_own (P := Try.prog) (w11.alloc (.cells #[.slice av8 K8.length cv8, .slice av10 V10.length cv10] 64)) w.heap.size 62 62 64 i0 _ 2 48 Try.underlying62 HI0.out HY0.out HY1.out HY2.out rfl (by decide) (.slice ao xs.length co) xs.length (xs.flatMap q2) (HX11.out.1.alloc _) ⟨w11.heap.size, 0, none⟩ 1 1 [.slice av8 K8.length cv8, .slice av10 V10.length cv10] rfl news2 (by simp [Value.oneCell']) (by unfold maxLen; omega) (by omega) (by simp; exact Nat.le_succ_of_le hsz11)
            have hlt := World.ownsRow.lt HO.out.1
            have hkeep : ∀ k, wr.heap.size ≤ k → k < w11.heap.size → w12.heap[k]? = w11.heap[k]? := by
              intro k hk1 hk2
              have h1 := hgrow.block k (by simp; omega) (fun e => by have := (hlt k e.symm).2; omega)
              rw [h1]
              exact ((Below.refl w11.heap.size w11).alloc (Nat.le_refl _) _).block k hk2
            refine ⟨u, w12, hrun, HX11.out.add _ ⟨HO11.out, HU11.out⟩ hown' hgrow, ?_, ?_, ?_⟩
            · exact (((HB.out.trans (HQ11.out.mono HB.out.size)).alloc hsz11 _).grown hgrow (by simp; exact Nat.le_succ_of_le hsz11) (fun c hc => (hlt c hc).1))
            · rw [hkeep _ (by omega) (Array.getElem?_eq_some_iff.1 HP11.out).1]; exact HP11.out
            · rw [hkeep _ (by omega) (Array.getElem?_eq_some_iff.1 HN11.out).1]; exact HN11.out
          obtain ⟨v12, w12, hrun, hX12, hB12, hP12, hN12⟩ := HAP.out
          have HX12 : Hid _ := hX12
          have HB12 : Hid (Below w.heap.size w w12) := hB12
          have HP12 : Hid _ := hP12
          have HN12 : Hid _ := hN12
          clear hX12 hB12 hP12 hN12
          have e11 : w11.heap.size = w10.heap.size := by rw [HW11.out]; simp
          rw [e11] at hrun
          rw [HW11.out] at hrun
          clear e11 HAP
          have z0 := cell_rw HP12.out 0 (by simp)
          have n1 := cell_rw HN12.out 1 (by simp)
          have n2 := cell_rw HN12.out 2 (by simp)
          simp only [List.getElem_toArray, List.getElem_cons_succ, List.getElem_cons_zero] at z0 n1 n2
          go_wp2_with (at_builtin; refine wpList_app_run rfl _ _ _ _ rfl rfl _ _ _ rfl rfl hrun ?_)
          clear f1 z1 y0 HQ10 HP10 HN10 HO10 HU10 HW11
          clear hrun HQ11 HP11 HN11 HO11 HU11 HX11
          have HKe : Hid (K8 = A.take s ++ R.take m) := by rw [HK8.out, HK6.out]; rfl
          go_roundw
          case rel =>
            refine ⟨_, _, HX12, by rw [lastV_snoc]; exact (rfl : _ = _), HR8, ?_, by simp; omega, HB12⟩
            rw [List.map_append]
            show Hid (Inv b (xs.map Px.p ++ [(K8, V10)]) (R.drop D))
            rw [HKe.out, HV10.out, HDE.out]
            exact HI2
          case measure => simp only [slLen]; have := HDE.out; omega
      · go_wp2_with fail
        obtain ⟨LL, HLL⟩ := hid_ex (xs.map Px.p)
        refine (refWrite_any _ LL _ (by rw [HLL.out]; exact HO.out.reads)).mono ?_
        rintro e w5 ⟨u5, rfl, ho5, hb5⟩
        have HB5 : Hid (Below w.heap.size w w5) := HB.out.trans (hb5.mono HB.out.size)
        have HU5 : Hid (Reads w5 u5 (wrB LL)) := ho5.reads
        have HX5 : Hid (ROwn w5 w.heap.size (.slice ao xs.length co) xs) := HO.out.below hb5
        have HR5 : Hid (Reads w5 (.slice a b.length cap) b) := HR.out.below HB5.out
        obtain ⟨W5, HW5⟩ := hid_ex (wrB LL)
        rw [← HW5.out] at HU5
        obtain ⟨a5, c5, rfl, -⟩ := HU5.out.form
        clear hb5 ho5
        have HDN : Hid (¬ (mbF LL = 0 ∧ W5 = b) → rdB b = none) := by rw [HW5.out, HLL.out]; exact HI.out.done (.inr (by simp; omega))
        by_cases e1 : mbF LL = 0
        · have q1 := reads_text HU5.out
          have q2 := reads_text HR5.out
          by_cases e2 : W5 = b
          · have HG : Hid (rdB b = some LL) := Inv.good ⟨e1, by rw [← HW5.out]; exact e2⟩
            have hbe : (W5 == b) = true := by simp [e2]
            have hbn : (W5 != b) = false := by simp [e2]
            rw [e1]
            clear e1 e2
            go_wp2_with fail
            go_ret2
            refine ⟨HB5.out, ?_⟩
            rw [HG.out]
            exact ⟨_, xs, rfl, HX5.out, HLL.out.symm⟩
          · have HN : Hid (rdB b = none) := HDN.out (fun h => e2 h.2)
            have hbe : (W5 == b) = false := by simp [e2]
            have hbn : (W5 != b) = true := by simp [e2]
            rw [e1]
            clear e1 e2
            go_wp2_with fail
            go_ret2
            refine ⟨HB5.out, ?_⟩
            rw [HN.out]
            rfl
        · have HN : Hid (rdB b = none) := HDN.out (fun h => e1 h.1)
          go_wp2_with fail
          go_ret2
          refine ⟨HB5.out, ?_⟩
          rw [HN.out]
          rfl
    · go_wp2_with fail
      obtain ⟨LL, HLL⟩ := hid_ex (xs.map Px.p)
      refine (refWrite_any _ LL _ (by rw [HLL.out]; exact HO.out.reads)).mono ?_
      rintro e w5 ⟨u5, rfl, ho5, hb5⟩
      have HB5 : Hid (Below w.heap.size w w5) := HB.out.trans (hb5.mono HB.out.size)
      have HU5 : Hid (Reads w5 u5 (wrB LL)) := ho5.reads
      have HX5 : Hid (ROwn w5 w.heap.size (.slice ao xs.length co) xs) := HO.out.below hb5
      have HR5 : Hid (Reads w5 (.slice a b.length cap) b) := HR.out.below HB5.out
      obtain ⟨W5, HW5⟩ := hid_ex (wrB LL)
      rw [← HW5.out] at HU5
      obtain ⟨a5, c5, rfl, -⟩ := HU5.out.form
      clear hb5 ho5
      have HDN : Hid (¬ (mbF LL = 0 ∧ W5 = b) → rdB b = none) := by rw [HW5.out, HLL.out]; exact HI.out.done (.inl (List.length_eq_zero_iff.1 (by omega)))
      by_cases e1 : mbF LL = 0
      · have q1 := reads_text HU5.out
        have q2 := reads_text HR5.out
        by_cases e2 : W5 = b
        · have HG : Hid (rdB b = some LL) := Inv.good ⟨e1, by rw [← HW5.out]; exact e2⟩
          have hbe : (W5 == b) = true := by simp [e2]
          have hbn : (W5 != b) = false := by simp [e2]
          rw [e1]
          clear e1 e2
          go_wp2_with fail
          go_ret2
          refine ⟨HB5.out, ?_⟩
          rw [HG.out]
          exact ⟨_, xs, rfl, HX5.out, HLL.out.symm⟩
        · have HN : Hid (rdB b = none) := HDN.out (fun h => e2 h.2)
          have hbe : (W5 == b) = false := by simp [e2]
          have hbn : (W5 != b) = true := by simp [e2]
          rw [e1]
          clear e1 e2
          go_wp2_with fail
          go_ret2
          refine ⟨HB5.out, ?_⟩
          rw [HN.out]
          rfl
      · have HN : Hid (rdB b = none) := HDN.out (fun h => e1 h.1)
        go_wp2_with fail
        go_ret2
        refine ⟨HB5.out, ?_⟩
        rw [HN.out]
        rfl
end Go.Proofs.Ytlpjdfgknmfmnaa

/- The contract of the reference's Read of layer 2. -/
namespace Go.Proofs.Ytlpjdfgknmfmnaa
open Go.RowKit

/-- What the reference takes forty-one bytes for. -/
def decR (l : List UInt8) : Ag := { decU l with o := l.getD 0 0 != 0 }
theorem decR_ok (l : List UInt8) (hl : l.length = 41) : AgOk (decR l) := by
  obtain ⟨h1, h2, h3, h4, h5, h6, h7, h8⟩ := decU_ok l hl
  exact ⟨h1, h2, h3, h4, h5, h6, h7, h8⟩
theorem decR_low {l : List UInt8} (h : (l.getD 0 0).toNat ≤ 1) : decR l = decU l := by
  unfold decR decU
  have : (l.getD 0 0 != 0) = (l.getD 0 0 == 1) := by
    generalize l.getD 0 0 = x at h
    by_cases hx : x = 1
    · subst hx; rfl
    · have : x = 0 := by
        apply UInt8.toNat_inj.1
        have : x.toNat ≠ 1 := fun e => hx (UInt8.toNat_inj.1 e)
        show x.toNat = 0
        omega
      subst this; rfl
  rw [this]
theorem aggU_head (a : Ag) : ((aggU a).getD 0 0).toNat ≤ 1 := by
  unfold aggU
  simp only [List.getD_cons_zero]
  split <;> decide
/-- What the reference's Read finds is what Read finds. -/
theorem rd_ref (l : List UInt8) (hl : l.length = 41) : (wrE (decR l) = 0 ∧ wrU (decR l) = l → rdA l = decR l ∧ rdR l = 0) ∧ (¬ (wrE (decR l) = 0 ∧ wrU (decR l) = l) → rdA l = aZ ∧ rdR l = 3) := by
  constructor
  · rintro ⟨h1, h2⟩
    have hr : rightB (decR l) = true := by
      unfold wrE at h1
      split at h1
      · assumption
      · omega
    have hU : wrU (decR l) = aggU (decR l) := by unfold wrU; rw [if_pos hr]
    have hx : (l.getD 0 0).toNat ≤ 1 := by
      have := aggU_head (decR l)
      rw [← hU, h2] at this; exact this
    have e := decR_low hx
    rw [e] at hr
    have hg : rdG l := ⟨hx, hr⟩
    refine ⟨?_, ?_⟩
    · unfold rdA; rw [if_pos ⟨hl, hg⟩, e]
    · unfold rdR; rw [if_neg (by omega), if_neg (by omega), if_pos hg]
  · intro h
    have hg : ¬ rdG l := by
      rintro ⟨hx, hr⟩
      apply h
      rw [decR_low hx]
      unfold wrE wrU
      rw [if_pos hr, if_pos hr]
      exact ⟨rfl, aggU_dec l hl hx⟩
    refine ⟨?_, ?_⟩
    · unfold rdA; rw [if_neg (fun h => hg h.2)]
    · unfold rdR; rw [if_neg (by omega), if_neg (by omega), if_neg hg]
theorem ref16_any (v : Value) (p : List UInt8) (hp : p.length = 16) (w : World) (hR : Reads w v p) :
    Calls Try.prog 76 #[v] w fun e w' => e = .returned (.tuple #[.agg #[.int .i64 (w64 (bv (p.take 8))), .int .u64 ((bv (p.drop 8) : Nat) : Int)], .int .i64 0]) ∧ Below w.heap.size w w' := by
  rcases hR with ⟨h, _⟩ | ⟨b, off, cap, rfl, h2, h3, h4, h5, h6⟩
  · rw [h] at hp; simp at hp
  · rw [hp]
    have e1 : w64 (bv (p.take 8)) = IntKind.i64.wrap (beval ((zsU p).take 8)) := by
      unfold w64; rw [← beval_bv]; unfold zsU; rw [List.map_take]
    have e2 : ((bv (p.drop 8) : Nat) : Int) = beval ((zsU p).drop 8) := by
      rw [← beval_bv]; unfold zsU; rw [List.map_drop]
    rw [e1, e2]
    refine refRead16 b off cap (zsU p) (by unfold zsU; simp [hp]) (zsU_bd p) w h5 ?_
    intro i hi
    rw [h6 i (by omega), zsU_cell p i (by omega)]
theorem set2' {w : World} {b : Nat} {T : TypeId} {x0 x1 x2 x3 x4 x5 : Value} (h : w.heap[b]? = some (.cells #[x0, x1, x2, x3, x4, x5] T)) (v2 v3 : Value) :
    ((w.setCell ⟨b, 2, none⟩ v2).setCell ⟨b, 3, none⟩ v3).heap[b]? = some (.cells #[x0, x1, v2, v3, x4, x5] T) := by
  have h2 := Go.heap_setCell_same _ b 2 _ _ v2 h
  have h3 := Go.heap_setCell_same _ b 3 _ _ v3 h2
  simpa using h3
set_option maxRecDepth 100000 in
set_option maxHeartbeats 4000000 in
theorem refAR (v : Value) (l : List UInt8) (w : World) (hR : Reads w v l) :
    Calls Try.prog 39 #[v] w fun e w' => e = .returned (.tuple #[agV (rdA l), .int .i64 (rdR l)]) ∧ Below w.heap.size w w' := by
  have HR : Hid (Reads w v l) := hR
  obtain ⟨ab, cb, rfl, hm⟩ := hR.form
  unfold maxLen at hm
  clear hR
  by_cases g1 : (l.length : Int) < 41
  · have e1 : rdA l = aZ := rdA_no (fun h => by omega)
    have e2 : rdR l = 10 := by unfold rdR; rw [if_pos (by omega)]
    rw [e1, e2, agVZ]
    go_enter Try.func39, Try.ntmps39
    go_wp2_with fail
    exact bodyPost_ret (res_rt rfl _ _ w.heap.size _ rfl (run_loadVar_row _ w.heap.size _ _ _ (0, 0) _ (World.alloc_heap_new _ _) Try.underlying41 rfl (by kernel_rfl))) rfl ⟨rfl, (Below.refl _ _).alloc (Nat.le_refl _) _⟩
  by_cases g2 : (41 : Int) < (l.length : Int)
  · have e1 : rdA l = aZ := rdA_no (fun h => by omega)
    have e2 : rdR l = 2 := by unfold rdR; rw [if_neg (by omega), if_pos (by omega)]
    rw [e1, e2, agVZ]
    go_enter Try.func39, Try.ntmps39
    go_wp2_with fail
    exact bodyPost_ret (res_rt rfl _ _ w.heap.size _ rfl (run_loadVar_row _ w.heap.size _ _ _ (0, 0) _ (World.alloc_heap_new _ _) Try.underlying41 rfl (by kernel_rfl))) rfl ⟨rfl, (Below.refl _ _).alloc (Nat.le_refl _) _⟩
  have hl : l.length = 41 := by omega
  have t8 : ∀ k, k + 8 ≤ 41 → ((l.drop k).take 8).length = 8 := fun k hk => by rw [List.length_take, List.length_drop]; omega
  obtain ⟨a1, f1, hs1, hr1⟩ := sl_part HR.out (c := 1) (d := 9) (by omega) (by omega)
  obtain ⟨a2, f2, hs2, hr2⟩ := sl_part HR.out (c := 9) (d := 25) (by omega) (by omega)
  obtain ⟨a3, f3, hs3, hr3⟩ := sl_part HR.out (c := 25) (d := 33) (by omega) (by omega)
  obtain ⟨a4, f4, hs4, hr4⟩ := sl_part HR.out (c := 33) (d := 41) (by omega) (by omega)
  obtain ⟨bb, oo, rfl, hbl, hcc⟩ := HR.out.at 0 (by omega)
  have k1 : ∀ w', (Instr.slice 25 (.slice (some ⟨bb, oo, none⟩) 41 cb) (some (.int .i64 1)) (some (.int .i64 9)) none).run Try.prog w' = .ok (.slice a1 8 f1) w' := by rw [← hl]; exact hs1
  have k2 : ∀ w', (Instr.slice 25 (.slice (some ⟨bb, oo, none⟩) 41 cb) (some (.int .i64 9)) (some (.int .i64 25)) none).run Try.prog w' = .ok (.slice a2 16 f2) w' := by rw [← hl]; exact hs2
  have k3 : ∀ w', (Instr.slice 25 (.slice (some ⟨bb, oo, none⟩) 41 cb) (some (.int .i64 25)) (some (.int .i64 33)) none).run Try.prog w' = .ok (.slice a3 8 f3) w' := by rw [← hl]; exact hs3
  have k4 : ∀ w', (Instr.slice 25 (.slice (some ⟨bb, oo, none⟩) 41 cb) (some (.int .i64 33)) (some (.int .i64 41)) none).run Try.prog w' = .ok (.slice a4 8 f4) w' := by rw [← hl]; exact hs4
  have HR1 : Hid (Reads w (.slice a1 8 f1) ((l.drop 1).take 8)) := by rw [List.drop_take] at hr1; exact hr1
  have HR2 : Hid (Reads w (.slice a2 16 f2) ((l.drop 9).take 16)) := by rw [List.drop_take] at hr2; exact hr2
  have HR3 : Hid (Reads w (.slice a3 8 f3) ((l.drop 25).take 8)) := by rw [List.drop_take] at hr3; exact hr3
  have HR4 : Hid (Reads w (.slice a4 8 f4) ((l.drop 33).take 8)) := by rw [List.drop_take] at hr4; exact hr4
  have H16 : Hid (((l.drop 9).take 16).length = 16 ∧ ((l.drop 9).take 16).take 8 = (l.drop 9).take 8 ∧ ((l.drop 9).take 16).drop 8 = (l.drop 17).take 8) := by
    refine ⟨by rw [List.length_take, List.length_drop]; omega, ?_, ?_⟩
    · rw [List.take_take]; rfl
    · rw [List.drop_take, List.drop_drop]
  obtain ⟨x, HX⟩ := hid_ex l[0]
  have HX0 : Hid (l.getD 0 0 = x) := by rw [HX.out]; unfold Hid; simp [List.getD, hl]
  simp only [Nat.add_zero] at hcc
  rw [← HX.out] at hcc
  have hcx : w.cell? ⟨bb, oo, none⟩ = some (.int .u8 (x.toNat : Int)) := hcc
  obtain ⟨D, HD⟩ := hid_ex (decR l)
  obtain ⟨n1, HN1⟩ := hid_ex (bv ((l.drop 1).take 8))
  obtain ⟨n2, HN2⟩ := hid_ex (bv ((l.drop 9).take 8))
  obtain ⟨n3, HN3⟩ := hid_ex (bv ((l.drop 17).take 8))
  obtain ⟨n4, HN4⟩ := hid_ex (bv ((l.drop 25).take 8))
  obtain ⟨n5, HN5⟩ := hid_ex (bv ((l.drop 33).take 8))
  have b3 := bv8_lt (t8 17 (by omega))
  rw [← HN3.out] at b3
  have hwb := w64_bd n2
  have HDD : Hid (D = ⟨(n1 : Nat), x != 0, w64 n2 * 18446744073709551616 + (n3 : Nat), w64 n4, w64 n5⟩) := by
    unfold Hid
    rw [HD.out, HN1.out, HN2.out, HN3.out, HN4.out, HN5.out, ← HX0.out]; rfl
  have HDC : Hid (D.c = (n1 : Nat)) := by rw [HDD.out]; exact (rfl : _ = _)
  have HDO : Hid (D.o = ((x.toNat : Int) != 0)) := by
    rw [HDD.out]; unfold Hid; simp only
    by_cases h1 : x = 0
    · subst h1; rfl
    · have : ¬ (x.toNat : Int) = 0 := fun e => h1 (UInt8.toNat_inj.1 (by show x.toNat = 0; omega))
      rw [bne_iff_ne.2 h1, bne_iff_ne.2 this]
  obtain ⟨eh, el⟩ := hilo (w64 n2) ((n3 : Nat) : Int) hwb.1 hwb.2 (by omega) (by omega)
  have HDH : Hid (hi D.s = w64 n2) := by rw [HDD.out]; exact eh
  have HDL : Hid (lo D.s = (n3 : Nat)) := by rw [HDD.out]; exact el
  have HDN : Hid (D.mn = w64 n4) := by rw [HDD.out]; exact (rfl : _ = _)
  have HDX : Hid (D.mx = w64 n5) := by rw [HDD.out]; exact (rfl : _ = _)
  have HT1 : Hid (((l.drop 1).take 8).length = 8) := t8 1 (by omega)
  have HT4 : Hid (((l.drop 25).take 8).length = 8) := t8 25 (by omega)
  have HT5 : Hid (((l.drop 33).take 8).length = 8) := t8 33 (by omega)
  have HOKD : Hid (AgOk D) := by rw [HD.out]; exact decR_ok l hl
  have HWD : Hid (∀ w, Calls Try.prog 65 #[.agg #[.int .u64 D.c, .bool D.o, .int .i64 (hi D.s), .int .u64 (lo D.s), .int .i64 D.mn, .int .i64 D.mx]] w fun e w' => ∃ v, e = .returned (.tuple #[v, .int .i64 (wrE D)]) ∧ Own w' w.heap.size v (wrU D) ∧ Below w.heap.size w w') := fun w => refAW D HOKD.out w
  have HFIN := rd_ref l hl
  rw [← HD.out] at HFIN
  obtain ⟨E, HEE⟩ := hid_ex (wrE D)
  obtain ⟨U, HUU⟩ := hid_ex (wrU D)
  rw [← HEE.out, ← HUU.out] at HWD HFIN
  obtain ⟨RA, HRA⟩ := hid_ex (agV (rdA l))
  obtain ⟨RR, HRR⟩ := hid_ex (rdR l)
  have HG2 : Hid (E = 0 ∧ U = l → RA = .agg #[.int .u64 D.c, .bool D.o, .int .i64 (hi D.s), .int .u64 (lo D.s), .int .i64 D.mn, .int .i64 D.mx] ∧ RR = 0) := by
    intro h1
    obtain ⟨q1, q2⟩ := HFIN.1 h1
    rw [HRA.out, HRR.out, q1, q2]; exact ⟨rfl, rfl⟩
  have HB2 : Hid (¬ (E = 0 ∧ U = l) → RA = .agg #[.int .u64 0, .bool false, .int .i64 0, .int .u64 0, .int .i64 0, .int .i64 0] ∧ RR = 3) := by
    intro h1
    obtain ⟨q1, q2⟩ := HFIN.2 h1
    rw [HRA.out, HRR.out, q1, q2, agVZ]; exact ⟨rfl, rfl⟩
  have HRL : Hid (Reads w (.slice (some ⟨bb, oo, none⟩) 41 cb) l) := by have := HR.out; rw [hl] at this; exact this
  rw [← HRA.out, ← HRR.out]
  rw [hl]
  have hx255 := UInt8.toNat_lt x
  clear hs1 hs2 hs3 hs4 hr1 hr2 hr3 hr4 hcc g1 g2 hm t8 eh el hwb HFIN HRA HRR HEE HUU HOKD HDD HX HD b3 HR
  obtain ⟨w1, HW1⟩ := hid_ex (w.alloc (.cells #[.int .u64 0, .bool false, .int .i64 0, .int .u64 0, .int .i64 0, .int .i64 0] 41))
  have HB1 : Hid (Below w.heap.size w w1) := by rw [HW1.out]; exact (Below.refl _ _).alloc (Nat.le_refl _) _
  have HZ1 : Hid (w1.heap[w.heap.size]? = some (.cells #[.int .u64 0, .bool false, .int .i64 0, .int .u64 0, .int .i64 0, .int .i64 0] 41)) := by rw [HW1.out]; exact World.alloc_heap_new _ _
  go_enter Try.func39, Try.ntmps39
  go_wp2_with fail
  rw [← HW1.out]
  obtain ⟨w3, HW3⟩ : ∃ w3, Hid (w3 = w1) := ⟨_, rfl⟩
  have HB3 : Hid (Below w.heap.size w w3) := by rw [HW3.out]; exact HB1
  have HZ3 : Hid (w3.heap[w.heap.size]? = some (.cells #[.int .u64 0, .bool false, .int .i64 0, .int .u64 0, .int .i64 0, .int .i64 0] 41)) := by rw [HW3.out]; exact HZ1
  have hbl3 : bb < w3.heap.size := Nat.lt_of_lt_of_le hbl HB3.out.size
  have HCX : Hid (w3.cell? ⟨bb, oo, none⟩ = some (.int .u8 (x.toNat : Int))) := (HB3.out.cell (p := ⟨bb, oo, none⟩) hbl).trans hcx
  have hwz : w.heap.size < w3.heap.size := (Array.getElem?_eq_some_iff.1 HZ3.out).1
  rw [← HW3.out]
  clear HW1 HZ1 HB1 hcx HW3
  refine wp_region_noPanic ?_
  refine wp_region_held_drew (S := (fun w' => Below w3.heap.size w3 w')) (by kernel_rfl) ?_ (fun hHeld => ?_)
  · exact (Below.refl _ _).drew
  refine tk (i := 0) (v := .slice (some ⟨bb, oo, none⟩) 41 cb) rfl ?_ ?_
  · intro w1 hSw; go_simp
  simp only [za, zc, Act.put, zd, ze, zf]
  refine tk (i := 1) (v := .slice a1 8 f1) rfl ?_ ?_
  · intro w1 hSw; go_simp
  simp only [za, zb, zc, Act.put, zd, ze, zf]
  refine tk (i := 3) (v := .slice (some ⟨bb, oo, none⟩) 41 cb) rfl ?_ ?_
  · intro w1 hSw; go_simp
  simp only [za, zb, zc, Act.put, zd, ze, zf]
  refine tk (i := 4) (v := .pointer (some ⟨bb, oo, none⟩)) rfl ?_ ?_
  · intro w1 hSw; go_simp
  simp only [za, zb, zc, Act.put, zd, ze, zf]
  refine tk (i := 5) (v := .int .u8 (x.toNat : Int)) rfl ?_ ?_
  · (intro w1 hSw; (try dsimp only at hSw); have hcy := (hSw.cell (p := ⟨bb, oo, none⟩) hbl3).trans HCX.out; go_simp)
  simp only [za, zb, zc, Act.put, zd, ze, zf]
  refine tk (i := 6) (v := .bool ((x.toNat : Int) != 0)) rfl ?_ ?_
  · intro w1 hSw; go_simp
  simp only [za, zb, zc, Act.put, zd, ze, zf]
  refine tk (i := 7) (v := .slice (some ⟨bb, oo, none⟩) 41 cb) rfl ?_ ?_
  · intro w1 hSw; go_simp
  simp only [za, zb, zc, Act.put, zd, ze, zf]
  refine tk (i := 8) (v := .slice a3 8 f3) rfl ?_ ?_
  · intro w1 hSw; go_simp
  simp only [za, zb, zc, Act.put, zd, ze, zf]
  refine tk (i := 11) (v := .slice (some ⟨bb, oo, none⟩) 41 cb) rfl ?_ ?_
  · intro w1 hSw; go_simp
  simp only [za, zb, zc, Act.put, zd, ze, zf]
  refine tk (i := 12) (v := .slice a4 8 f4) rfl ?_ ?_
  · intro w1 hSw; go_simp
  simp only [za, zb, zc, Act.put, zd, ze, zf]
  refine wpAnyH_ready (rs := [2, 16]) (by kernel_rfl) (by simp) ?_
  refine AllReadyH.cons (o := _) rfl (fun K hK => ?_) (AllReadyH.cons (o := _) rfl (fun K hK => ?_) AllReadyH.nil)
  · go_simp
    refine (number_any _ _ HT1.out _ (HR1.out.below (HB3.out.trans (((Below.refl w3.heap.size w3).drew).mono HB3.out.size)))).mono ?_
    rw [← HN1.out]
    rintro e w' ⟨rfl, hw'⟩
    have hw' := hw'
    subst hw'
    refine hK.out _ _ ?_ (fun hHeld => ?_)
    · exact (Below.refl w3.heap.size w3).drew
    clear hK K
    refine wpAnyH_ready (rs := [9, 16]) (by kernel_rfl) (by simp) ?_
    refine AllReadyH.cons (o := _) rfl (fun K hK => ?_) (AllReadyH.cons (o := _) rfl (fun K hK => ?_) AllReadyH.nil)
    · go_simp
      refine (number_any _ _ HT4.out _ (HR3.out.below (HB3.out.trans (((Below.refl w3.heap.size w3).drew).mono HB3.out.size)))).mono ?_
      rw [← HN4.out]
      rintro e w' ⟨rfl, hw'⟩
      have hw' := hw'
      subst hw'
      refine hK.out _ _ ?_ (fun hHeld => ?_)
      · exact (Below.refl w3.heap.size w3).drew
      clear hK K
      refine tk (i := 10) (v := .int .i64 (w64 n4)) rfl ?_ ?_
      · (intro w1 hSw; (try dsimp only at hSw); go_simp; rfl)
      simp only [za, zb, zc, Act.put, zd, ze, zf]
      refine wpAnyH_ready (rs := [13, 16]) (by kernel_rfl) (by simp) ?_
      refine AllReadyH.cons (o := _) rfl (fun K hK => ?_) (AllReadyH.cons (o := _) rfl (fun K hK => ?_) AllReadyH.nil)
      · go_simp
        refine (number_any _ _ HT5.out _ (HR4.out.below (HB3.out.trans (((Below.refl w3.heap.size w3).drew).mono HB3.out.size)))).mono ?_
        rw [← HN5.out]
        rintro e w' ⟨rfl, hw'⟩
        have hw' := hw'
        subst hw'
        refine hK.out _ _ ?_ (fun hHeld => ?_)
        · exact (Below.refl w3.heap.size w3).drew
        clear hK K
        refine tk (i := 14) (v := .int .i64 (w64 n5)) rfl ?_ ?_
        · (intro w1 hSw; (try dsimp only at hSw); go_simp; rfl)
        simp only [za, zb, zc, Act.put, zd, ze, zf]
        rw [← HDO.out, ← HDC.out, ← HDN.out, ← HDX.out]
        refine tk (i := 15) (v := .agg #[.int .u64 D.c, .bool D.o, .int .i64 0, .int .u64 0, .int .i64 D.mn, .int .i64 D.mx]) rfl ?_ ?_
        · intro w1 hSw; go_simp
        simp only [za, zb, zc, Act.put, zd, ze, zf]
        refine wpAnyH_ready (rs := [16]) (by kernel_rfl) (by simp) ?_
        refine AllReadyH.cons (o := _) rfl (fun K hK => ?_) AllReadyH.nil
        go_simp
        refine hK.out _ _ ?_ (fun hHeld => ?_)
        · exact (Below.refl w3.heap.size w3).drew.alloc (Nat.le_refl _) _
        clear hK K
        refine wpAnyH_ready (rs := [17]) (by kernel_rfl) (by simp) ?_
        refine AllReadyH.cons (o := _) rfl (fun K hK => ?_) AllReadyH.nil
        go_simp
        obtain ⟨w5, HW5⟩ := hid_ex ((w3.alloc (.cells #[.int .u64 D.c, .bool D.o, .int .i64 0, .int .u64 0, .int .i64 D.mn, .int .i64 D.mx] 41)).drew)
        rw [← HW5.out]
        have HB5 : Hid (Below w3.heap.size w3 w5) := by rw [HW5.out]; exact ((Below.refl _ _).alloc (Nat.le_refl _) _).drew
        have HX5 : Hid (w5.heap[w3.heap.size]? = some (.cells #[.int .u64 D.c, .bool D.o, .int .i64 0, .int .u64 0, .int .i64 D.mn, .int .i64 D.mx] 41)) := by rw [HW5.out]; exact World.alloc_heap_new _ _
        refine hK.out _ _ ?_ (fun hHeld => ?_)
        · exact HB5.out
        clear hK K
        clear hHeld HW5
        refine wpAnyH_done (by kernel_rfl) ?_ _
        refine NoPanic.normal ?_
        have HB6 : Hid (Below w.heap.size w w5) := HB3.out.trans (HB5.out.mono HB3.out.size)
        go_wp2_with fail
        refine (ref16_any _ _ H16.out.1 _ (HR2.out.below HB6.out)).mono ?_
        rw [H16.out.2.1, H16.out.2.2, ← HN2.out, ← HN3.out, ← HDH.out, ← HDL.out]
        rintro e w6 ⟨rfl, hb6⟩
        have h36 : Below w3.heap.size w3 w6 := HB5.out.trans (hb6.mono HB5.out.size)
        have HX6 : Hid _ := (hb6.block _ (Array.getElem?_eq_some_iff.1 HX5.out).1).trans HX5.out
        have g2 := f_rw HX6.out 2
        have g3 := f_rw HX6.out 3
        have y2 := c_rw HX6.out 2 (by simp)
        have y3 := c_rw HX6.out 3 (by simp)
        have y0 := c_rw HX6.out 0 (by simp)
        have y1 := c_rw HX6.out 1 (by simp)
        have y4 := c_rw HX6.out 4 (by simp)
        have y5 := c_rw HX6.out 5 (by simp)
        simp only [List.getElem_toArray, List.getElem_cons_succ, List.getElem_cons_zero] at y0 y1 y2 y3 y4 y5
        obtain ⟨w7, HW7⟩ := hid_ex ((w6.setCell ⟨w3.heap.size, 2, none⟩ (.int .i64 (hi D.s))).setCell ⟨w3.heap.size, 3, none⟩ (.int .u64 (lo D.s)))
        have HX7 : Hid (w7.heap[w3.heap.size]? = some (.cells #[.int .u64 D.c, .bool D.o, .int .i64 (hi D.s), .int .u64 (lo D.s), .int .i64 D.mn, .int .i64 D.mx] 41)) := by rw [HW7.out]; exact set2' HX6.out _ _
        have HB7 : Hid (Below w3.heap.size w3 w7) := by rw [HW7.out]; exact (h36.setCell (Nat.le_refl _) _).setCell (Nat.le_refl _) _
        have HY7 : Hid (Below w.heap.size w w7) := HB3.out.trans (HB7.out.mono HB3.out.size)
        have HZ7 : Hid _ := (HB7.out.block _ (Array.getElem?_eq_some_iff.1 HZ3.out).1).trans HZ3.out
        clear hb6 h36
        go_wp2_with fail
        rw [← HW7.out]
        clear HW7 HX6 y0 y1 y2 y3 y4 y5 g2 g3
        refine (HWD.out _).mono ?_
        rintro e w8 ⟨v8, rfl, ho8, hb8⟩
        have HB8 : Hid (Below w.heap.size w w8) := HY7.out.trans (hb8.mono HY7.out.size)
        have HZ8 : Hid _ := (hb8.block _ (Array.getElem?_eq_some_iff.1 HZ7.out).1).trans HZ7.out
        have HX8 : Hid _ := (hb8.block _ (Array.getElem?_eq_some_iff.1 HX7.out).1).trans HX7.out
        obtain ⟨a8, c8, rfl, -⟩ := ho8.form
        have q1 := reads_text ho8.reads
        have q2 := reads_text (HRL.out.below HB8.out)
        clear hb8 ho8 HB7 HY7 HZ7 HX7
        have f0 := f_rw HZ8.out 0
        have f1' := f_rw HZ8.out 1
        have f2' := f_rw HZ8.out 2
        have f3' := f_rw HZ8.out 3
        have f4' := f_rw HZ8.out 4
        have f5 := f_rw HZ8.out 5
        have z0 := c_rw HZ8.out 0 (by simp)
        have z1 := c_rw HZ8.out 1 (by simp)
        have z2 := c_rw HZ8.out 2 (by simp)
        have z3 := c_rw HZ8.out 3 (by simp)
        have z4 := c_rw HZ8.out 4 (by simp)
        have z5 := c_rw HZ8.out 5 (by simp)
        have c0 := c_rw HX8.out 0 (by simp)
        have c1 := c_rw HX8.out 1 (by simp)
        have c2 := c_rw HX8.out 2 (by simp)
        have c3 := c_rw HX8.out 3 (by simp)
        have c4 := c_rw HX8.out 4 (by simp)
        have c5 := c_rw HX8.out 5 (by simp)
        simp only [List.getElem_toArray, List.getElem_cons_succ, List.getElem_cons_zero] at z0 z1 z2 z3 z4 z5 c0 c1 c2 c3 c4 c5
        by_cases hE : E = 0
        · have hE0 := hE
          subst hE0
          by_cases hU : U = l
          · obtain ⟨r1, r2⟩ := HG2.out ⟨rfl, hU⟩
            have hbe : (U == l) = true := by simp [hU]
            have hbn : (U != l) = false := by simp [hU]
            clear hU
            subst r1 r2
            go_wp2_with fail
            exact bodyPost_ret (res_rt rfl _ _ w.heap.size _ rfl (run_loadVar_row _ w.heap.size _ _ _ (0, 0) _ (set6' HZ8.out _ _ _ _ _ _) Try.underlying41 rfl (by kernel_rfl))) rfl ⟨rfl, below6' HB8.out (Nat.le_refl _) _ _ _ _ _ _⟩
          · obtain ⟨r1, r2⟩ := HB2.out (fun h => hU h.2)
            have hbe : (U == l) = false := by simp [hU]
            have hbn : (U != l) = true := by simp [hU]
            clear hU
            subst r1 r2
            go_wp2_with fail
            exact bodyPost_ret (res_rt rfl _ _ w.heap.size _ rfl (run_loadVar_row _ w.heap.size _ _ _ (0, 0) _ (set6' HZ8.out _ _ _ _ _ _) Try.underlying41 rfl (by kernel_rfl))) rfl ⟨rfl, below6' HB8.out (Nat.le_refl _) _ _ _ _ _ _⟩
        · obtain ⟨r1, r2⟩ := HB2.out (fun h => hE h.1)
          have hbe : (E == 0) = false := by simp [hE]
          have hbn : (E != 0) = true := by simp [hE]
          subst r1 r2
          go_wp2_with fail
          exact bodyPost_ret (res_rt rfl _ _ w.heap.size _ rfl (run_loadVar_row _ w.heap.size _ _ _ (0, 0) _ (set6' HZ8.out _ _ _ _ _ _) Try.underlying41 rfl (by kernel_rfl))) rfl ⟨rfl, below6' HB8.out (Nat.le_refl _) _ _ _ _ _ _⟩
      · go_simp
        refine hK.out _ _ ?_ (fun hHeld => ?_)
        · exact (Below.refl w3.heap.size w3).drew.alloc (Nat.le_refl _) _
        clear hK K
        refine wpAnyH_ready (rs := [13]) (by kernel_rfl) (by simp) ?_
        refine AllReadyH.cons (o := _) rfl (fun K hK => ?_) AllReadyH.nil
        go_simp
        refine (number_any _ _ HT5.out _ (HR4.out.below (HB3.out.trans (((Below.refl w3.heap.size w3).drew.alloc (Nat.le_refl _) _).mono HB3.out.size)))).mono ?_
        rw [← HN5.out]
        rintro e w' ⟨rfl, hw'⟩
        have hw' := hw'
        subst hw'
        refine hK.out _ _ ?_ (fun hHeld => ?_)
        · exact (Below.refl w3.heap.size w3).drew.alloc (Nat.le_refl _) _
        clear hK K
        refine tk (i := 14) (v := .int .i64 (w64 n5)) rfl ?_ ?_
        · (intro w1 hSw; (try dsimp only at hSw); go_simp; rfl)
        simp only [za, zb, zc, Act.put, zd, ze, zf]
        rw [← HDO.out, ← HDC.out, ← HDN.out, ← HDX.out]
        refine tk (i := 15) (v := .agg #[.int .u64 D.c, .bool D.o, .int .i64 0, .int .u64 0, .int .i64 D.mn, .int .i64 D.mx]) rfl ?_ ?_
        · intro w1 hSw; go_simp
        simp only [za, zb, zc, Act.put, zd, ze, zf]
        refine wpAnyH_ready (rs := [17]) (by kernel_rfl) (by simp) ?_
        refine AllReadyH.cons (o := _) rfl (fun K hK => ?_) AllReadyH.nil
        go_simp
        obtain ⟨w5, HW5⟩ := hid_ex ((w3.alloc (.cells #[.int .u64 D.c, .bool D.o, .int .i64 0, .int .u64 0, .int .i64 D.mn, .int .i64 D.mx] 41)).drew)
        rw [← HW5.out]
        have HB5 : Hid (Below w3.heap.size w3 w5) := by rw [HW5.out]; exact ((Below.refl _ _).alloc (Nat.le_refl _) _).drew
        have HX5 : Hid (w5.heap[w3.heap.size]? = some (.cells #[.int .u64 D.c, .bool D.o, .int .i64 0, .int .u64 0, .int .i64 D.mn, .int .i64 D.mx] 41)) := by rw [HW5.out]; exact World.alloc_heap_new _ _
        refine hK.out _ _ ?_ (fun hHeld => ?_)
        · exact HB5.out
        clear hK K
        clear hHeld HW5
        refine wpAnyH_done (by kernel_rfl) ?_ _
        refine NoPanic.normal ?_
        have HB6 : Hid (Below w.heap.size w w5) := HB3.out.trans (HB5.out.mono HB3.out.size)
        go_wp2_with fail
        refine (ref16_any _ _ H16.out.1 _ (HR2.out.below HB6.out)).mono ?_
        rw [H16.out.2.1, H16.out.2.2, ← HN2.out, ← HN3.out, ← HDH.out, ← HDL.out]
        rintro e w6 ⟨rfl, hb6⟩
        have h36 : Below w3.heap.size w3 w6 := HB5.out.trans (hb6.mono HB5.out.size)
        have HX6 : Hid _ := (hb6.block _ (Array.getElem?_eq_some_iff.1 HX5.out).1).trans HX5.out
        have g2 := f_rw HX6.out 2
        have g3 := f_rw HX6.out 3
        have y2 := c_rw HX6.out 2 (by simp)
        have y3 := c_rw HX6.out 3 (by simp)
        have y0 := c_rw HX6.out 0 (by simp)
        have y1 := c_rw HX6.out 1 (by simp)
        have y4 := c_rw HX6.out 4 (by simp)
        have y5 := c_rw HX6.out 5 (by simp)
        simp only [List.getElem_toArray, List.getElem_cons_succ, List.getElem_cons_zero] at y0 y1 y2 y3 y4 y5
        obtain ⟨w7, HW7⟩ := hid_ex ((w6.setCell ⟨w3.heap.size, 2, none⟩ (.int .i64 (hi D.s))).setCell ⟨w3.heap.size, 3, none⟩ (.int .u64 (lo D.s)))
        have HX7 : Hid (w7.heap[w3.heap.size]? = some (.cells #[.int .u64 D.c, .bool D.o, .int .i64 (hi D.s), .int .u64 (lo D.s), .int .i64 D.mn, .int .i64 D.mx] 41)) := by rw [HW7.out]; exact set2' HX6.out _ _
        have HB7 : Hid (Below w3.heap.size w3 w7) := by rw [HW7.out]; exact (h36.setCell (Nat.le_refl _) _).setCell (Nat.le_refl _) _
        have HY7 : Hid (Below w.heap.size w w7) := HB3.out.trans (HB7.out.mono HB3.out.size)
        have HZ7 : Hid _ := (HB7.out.block _ (Array.getElem?_eq_some_iff.1 HZ3.out).1).trans HZ3.out
        clear hb6 h36
        go_wp2_with fail
        rw [← HW7.out]
        clear HW7 HX6 y0 y1 y2 y3 y4 y5 g2 g3
        refine (HWD.out _).mono ?_
        rintro e w8 ⟨v8, rfl, ho8, hb8⟩
        have HB8 : Hid (Below w.heap.size w w8) := HY7.out.trans (hb8.mono HY7.out.size)
        have HZ8 : Hid _ := (hb8.block _ (Array.getElem?_eq_some_iff.1 HZ7.out).1).trans HZ7.out
        have HX8 : Hid _ := (hb8.block _ (Array.getElem?_eq_some_iff.1 HX7.out).1).trans HX7.out
        obtain ⟨a8, c8, rfl, -⟩ := ho8.form
        have q1 := reads_text ho8.reads
        have q2 := reads_text (HRL.out.below HB8.out)
        clear hb8 ho8 HB7 HY7 HZ7 HX7
        have f0 := f_rw HZ8.out 0
        have f1' := f_rw HZ8.out 1
        have f2' := f_rw HZ8.out 2
        have f3' := f_rw HZ8.out 3
        have f4' := f_rw HZ8.out 4
        have f5 := f_rw HZ8.out 5
        have z0 := c_rw HZ8.out 0 (by simp)
        have z1 := c_rw HZ8.out 1 (by simp)
        have z2 := c_rw HZ8.out 2 (by simp)
        have z3 := c_rw HZ8.out 3 (by simp)
        have z4 := c_rw HZ8.out 4 (by simp)
        have z5 := c_rw HZ8.out 5 (by simp)
        have c0 := c_rw HX8.out 0 (by simp)
        have c1 := c_rw HX8.out 1 (by simp)
        have c2 := c_rw HX8.out 2 (by simp)
        have c3 := c_rw HX8.out 3 (by simp)
        have c4 := c_rw HX8.out 4 (by simp)
        have c5 := c_rw HX8.out 5 (by simp)
        simp only [List.getElem_toArray, List.getElem_cons_succ, List.getElem_cons_zero] at z0 z1 z2 z3 z4 z5 c0 c1 c2 c3 c4 c5
        by_cases hE : E = 0
        · have hE0 := hE
          subst hE0
          by_cases hU : U = l
          · obtain ⟨r1, r2⟩ := HG2.out ⟨rfl, hU⟩
            have hbe : (U == l) = true := by simp [hU]
            have hbn : (U != l) = false := by simp [hU]
            clear hU
            subst r1 r2
            go_wp2_with fail
            exact bodyPost_ret (res_rt rfl _ _ w.heap.size _ rfl (run_loadVar_row _ w.heap.size _ _ _ (0, 0) _ (set6' HZ8.out _ _ _ _ _ _) Try.underlying41 rfl (by kernel_rfl))) rfl ⟨rfl, below6' HB8.out (Nat.le_refl _) _ _ _ _ _ _⟩
          · obtain ⟨r1, r2⟩ := HB2.out (fun h => hU h.2)
            have hbe : (U == l) = false := by simp [hU]
            have hbn : (U != l) = true := by simp [hU]
            clear hU
            subst r1 r2
            go_wp2_with fail
            exact bodyPost_ret (res_rt rfl _ _ w.heap.size _ rfl (run_loadVar_row _ w.heap.size _ _ _ (0, 0) _ (set6' HZ8.out _ _ _ _ _ _) Try.underlying41 rfl (by kernel_rfl))) rfl ⟨rfl, below6' HB8.out (Nat.le_refl _) _ _ _ _ _ _⟩
        · obtain ⟨r1, r2⟩ := HB2.out (fun h => hE h.1)
          have hbe : (E == 0) = false := by simp [hE]
          have hbn : (E != 0) = true := by simp [hE]
          subst r1 r2
          go_wp2_with fail
          exact bodyPost_ret (res_rt rfl _ _ w.heap.size _ rfl (run_loadVar_row _ w.heap.size _ _ _ (0, 0) _ (set6' HZ8.out _ _ _ _ _ _) Try.underlying41 rfl (by kernel_rfl))) rfl ⟨rfl, below6' HB8.out (Nat.le_refl _) _ _ _ _ _ _⟩
    · go_simp
      refine hK.out _ _ ?_ (fun hHeld => ?_)
      · exact (Below.refl w3.heap.size w3).drew.alloc (Nat.le_refl _) _
      clear hK K
      refine wpAnyH_ready (rs := [9]) (by kernel_rfl) (by simp) ?_
      refine AllReadyH.cons (o := _) rfl (fun K hK => ?_) AllReadyH.nil
      go_simp
      refine (number_any _ _ HT4.out _ (HR3.out.below (HB3.out.trans (((Below.refl w3.heap.size w3).drew.alloc (Nat.le_refl _) _).mono HB3.out.size)))).mono ?_
      rw [← HN4.out]
      rintro e w' ⟨rfl, hw'⟩
      have hw' := hw'
      subst hw'
      refine hK.out _ _ ?_ (fun hHeld => ?_)
      · exact (Below.refl w3.heap.size w3).drew.alloc (Nat.le_refl _) _
      clear hK K
      refine tk (i := 10) (v := .int .i64 (w64 n4)) rfl ?_ ?_
      · (intro w1 hSw; (try dsimp only at hSw); go_simp; rfl)
      simp only [za, zb, zc, Act.put, zd, ze, zf]
      refine wpAnyH_ready (rs := [13]) (by kernel_rfl) (by simp) ?_
      refine AllReadyH.cons (o := _) rfl (fun K hK => ?_) AllReadyH.nil
      go_simp
      refine (number_any _ _ HT5.out _ (HR4.out.below (HB3.out.trans (((Below.refl w3.heap.size w3).drew.alloc (Nat.le_refl _) _).mono HB3.out.size)))).mono ?_
      rw [← HN5.out]
      rintro e w' ⟨rfl, hw'⟩
      have hw' := hw'
      subst hw'
      refine hK.out _ _ ?_ (fun hHeld => ?_)
      · exact (Below.refl w3.heap.size w3).drew.alloc (Nat.le_refl _) _
      clear hK K
      refine tk (i := 14) (v := .int .i64 (w64 n5)) rfl ?_ ?_
      · (intro w1 hSw; (try dsimp only at hSw); go_simp; rfl)
      simp only [za, zb, zc, Act.put, zd, ze, zf]
      rw [← HDO.out, ← HDC.out, ← HDN.out, ← HDX.out]
      refine tk (i := 15) (v := .agg #[.int .u64 D.c, .bool D.o, .int .i64 0, .int .u64 0, .int .i64 D.mn, .int .i64 D.mx]) rfl ?_ ?_
      · intro w1 hSw; go_simp
      simp only [za, zb, zc, Act.put, zd, ze, zf]
      refine wpAnyH_ready (rs := [17]) (by kernel_rfl) (by simp) ?_
      refine AllReadyH.cons (o := _) rfl (fun K hK => ?_) AllReadyH.nil
      go_simp
      obtain ⟨w5, HW5⟩ := hid_ex ((w3.alloc (.cells #[.int .u64 D.c, .bool D.o, .int .i64 0, .int .u64 0, .int .i64 D.mn, .int .i64 D.mx] 41)).drew)
      rw [← HW5.out]
      have HB5 : Hid (Below w3.heap.size w3 w5) := by rw [HW5.out]; exact ((Below.refl _ _).alloc (Nat.le_refl _) _).drew
      have HX5 : Hid (w5.heap[w3.heap.size]? = some (.cells #[.int .u64 D.c, .bool D.o, .int .i64 0, .int .u64 0, .int .i64 D.mn, .int .i64 D.mx] 41)) := by rw [HW5.out]; exact World.alloc_heap_new _ _
      refine hK.out _ _ ?_ (fun hHeld => ?_)
      · exact HB5.out
      clear hK K
      clear hHeld HW5
      refine wpAnyH_done (by kernel_rfl) ?_ _
      refine NoPanic.normal ?_
      have HB6 : Hid (Below w.heap.size w w5) := HB3.out.trans (HB5.out.mono HB3.out.size)
      go_wp2_with fail
      refine (ref16_any _ _ H16.out.1 _ (HR2.out.below HB6.out)).mono ?_
      rw [H16.out.2.1, H16.out.2.2, ← HN2.out, ← HN3.out, ← HDH.out, ← HDL.out]
      rintro e w6 ⟨rfl, hb6⟩
      have h36 : Below w3.heap.size w3 w6 := HB5.out.trans (hb6.mono HB5.out.size)
      have HX6 : Hid _ := (hb6.block _ (Array.getElem?_eq_some_iff.1 HX5.out).1).trans HX5.out
      have g2 := f_rw HX6.out 2
      have g3 := f_rw HX6.out 3
      have y2 := c_rw HX6.out 2 (by simp)
      have y3 := c_rw HX6.out 3 (by simp)
      have y0 := c_rw HX6.out 0 (by simp)
      have y1 := c_rw HX6.out 1 (by simp)
      have y4 := c_rw HX6.out 4 (by simp)
      have y5 := c_rw HX6.out 5 (by simp)
      simp only [List.getElem_toArray, List.getElem_cons_succ, List.getElem_cons_zero] at y0 y1 y2 y3 y4 y5
      obtain ⟨w7, HW7⟩ := hid_ex ((w6.setCell ⟨w3.heap.size, 2, none⟩ (.int .i64 (hi D.s))).setCell ⟨w3.heap.size, 3, none⟩ (.int .u64 (lo D.s)))
      have HX7 : Hid (w7.heap[w3.heap.size]? = some (.cells #[.int .u64 D.c, .bool D.o, .int .i64 (hi D.s), .int .u64 (lo D.s), .int .i64 D.mn, .int .i64 D.mx] 41)) := by rw [HW7.out]; exact set2' HX6.out _ _
      have HB7 : Hid (Below w3.heap.size w3 w7) := by rw [HW7.out]; exact (h36.setCell (Nat.le_refl _) _).setCell (Nat.le_refl _) _
      have HY7 : Hid (Below w.heap.size w w7) := HB3.out.trans (HB7.out.mono HB3.out.size)
      have HZ7 : Hid _ := (HB7.out.block _ (Array.getElem?_eq_some_iff.1 HZ3.out).1).trans HZ3.out
      clear hb6 h36
      go_wp2_with fail
      rw [← HW7.out]
      clear HW7 HX6 y0 y1 y2 y3 y4 y5 g2 g3
      refine (HWD.out _).mono ?_
      rintro e w8 ⟨v8, rfl, ho8, hb8⟩
      have HB8 : Hid (Below w.heap.size w w8) := HY7.out.trans (hb8.mono HY7.out.size)
      have HZ8 : Hid _ := (hb8.block _ (Array.getElem?_eq_some_iff.1 HZ7.out).1).trans HZ7.out
      have HX8 : Hid _ := (hb8.block _ (Array.getElem?_eq_some_iff.1 HX7.out).1).trans HX7.out
      obtain ⟨a8, c8, rfl, -⟩ := ho8.form
      have q1 := reads_text ho8.reads
      have q2 := reads_text (HRL.out.below HB8.out)
      clear hb8 ho8 HB7 HY7 HZ7 HX7
      have f0 := f_rw HZ8.out 0
      have f1' := f_rw HZ8.out 1
      have f2' := f_rw HZ8.out 2
      have f3' := f_rw HZ8.out 3
      have f4' := f_rw HZ8.out 4
      have f5 := f_rw HZ8.out 5
      have z0 := c_rw HZ8.out 0 (by simp)
      have z1 := c_rw HZ8.out 1 (by simp)
      have z2 := c_rw HZ8.out 2 (by simp)
      have z3 := c_rw HZ8.out 3 (by simp)
      have z4 := c_rw HZ8.out 4 (by simp)
      have z5 := c_rw HZ8.out 5 (by simp)
      have c0 := c_rw HX8.out 0 (by simp)
      have c1 := c_rw HX8.out 1 (by simp)
      have c2 := c_rw HX8.out 2 (by simp)
      have c3 := c_rw HX8.out 3 (by simp)
      have c4 := c_rw HX8.out 4 (by simp)
      have c5 := c_rw HX8.out 5 (by simp)
      simp only [List.getElem_toArray, List.getElem_cons_succ, List.getElem_cons_zero] at z0 z1 z2 z3 z4 z5 c0 c1 c2 c3 c4 c5
      by_cases hE : E = 0
      · have hE0 := hE
        subst hE0
        by_cases hU : U = l
        · obtain ⟨r1, r2⟩ := HG2.out ⟨rfl, hU⟩
          have hbe : (U == l) = true := by simp [hU]
          have hbn : (U != l) = false := by simp [hU]
          clear hU
          subst r1 r2
          go_wp2_with fail
          exact bodyPost_ret (res_rt rfl _ _ w.heap.size _ rfl (run_loadVar_row _ w.heap.size _ _ _ (0, 0) _ (set6' HZ8.out _ _ _ _ _ _) Try.underlying41 rfl (by kernel_rfl))) rfl ⟨rfl, below6' HB8.out (Nat.le_refl _) _ _ _ _ _ _⟩
        · obtain ⟨r1, r2⟩ := HB2.out (fun h => hU h.2)
          have hbe : (U == l) = false := by simp [hU]
          have hbn : (U != l) = true := by simp [hU]
          clear hU
          subst r1 r2
          go_wp2_with fail
          exact bodyPost_ret (res_rt rfl _ _ w.heap.size _ rfl (run_loadVar_row _ w.heap.size _ _ _ (0, 0) _ (set6' HZ8.out _ _ _ _ _ _) Try.underlying41 rfl (by kernel_rfl))) rfl ⟨rfl, below6' HB8.out (Nat.le_refl _) _ _ _ _ _ _⟩
      · obtain ⟨r1, r2⟩ := HB2.out (fun h => hE h.1)
        have hbe : (E == 0) = false := by simp [hE]
        have hbn : (E != 0) = true := by simp [hE]
        subst r1 r2
        go_wp2_with fail
        exact bodyPost_ret (res_rt rfl _ _ w.heap.size _ rfl (run_loadVar_row _ w.heap.size _ _ _ (0, 0) _ (set6' HZ8.out _ _ _ _ _ _) Try.underlying41 rfl (by kernel_rfl))) rfl ⟨rfl, below6' HB8.out (Nat.le_refl _) _ _ _ _ _ _⟩
  · go_simp
    refine hK.out _ _ ?_ (fun hHeld => ?_)
    · exact (Below.refl w3.heap.size w3).drew.alloc (Nat.le_refl _) _
    clear hK K
    refine wpAnyH_ready (rs := [2]) (by kernel_rfl) (by simp) ?_
    refine AllReadyH.cons (o := _) rfl (fun K hK => ?_) AllReadyH.nil
    go_simp
    refine (number_any _ _ HT1.out _ (HR1.out.below (HB3.out.trans (((Below.refl w3.heap.size w3).drew.alloc (Nat.le_refl _) _).mono HB3.out.size)))).mono ?_
    rw [← HN1.out]
    rintro e w' ⟨rfl, hw'⟩
    have hw' := hw'
    subst hw'
    refine hK.out _ _ ?_ (fun hHeld => ?_)
    · exact (Below.refl w3.heap.size w3).drew.alloc (Nat.le_refl _) _
    clear hK K
    refine wpAnyH_ready (rs := [9]) (by kernel_rfl) (by simp) ?_
    refine AllReadyH.cons (o := _) rfl (fun K hK => ?_) AllReadyH.nil
    go_simp
    refine (number_any _ _ HT4.out _ (HR3.out.below (HB3.out.trans (((Below.refl w3.heap.size w3).drew.alloc (Nat.le_refl _) _).mono HB3.out.size)))).mono ?_
    rw [← HN4.out]
    rintro e w' ⟨rfl, hw'⟩
    have hw' := hw'
    subst hw'
    refine hK.out _ _ ?_ (fun hHeld => ?_)
    · exact (Below.refl w3.heap.size w3).drew.alloc (Nat.le_refl _) _
    clear hK K
    refine tk (i := 10) (v := .int .i64 (w64 n4)) rfl ?_ ?_
    · (intro w1 hSw; (try dsimp only at hSw); go_simp; rfl)
    simp only [za, zb, zc, Act.put, zd, ze, zf]
    refine wpAnyH_ready (rs := [13]) (by kernel_rfl) (by simp) ?_
    refine AllReadyH.cons (o := _) rfl (fun K hK => ?_) AllReadyH.nil
    go_simp
    refine (number_any _ _ HT5.out _ (HR4.out.below (HB3.out.trans (((Below.refl w3.heap.size w3).drew.alloc (Nat.le_refl _) _).mono HB3.out.size)))).mono ?_
    rw [← HN5.out]
    rintro e w' ⟨rfl, hw'⟩
    have hw' := hw'
    subst hw'
    refine hK.out _ _ ?_ (fun hHeld => ?_)
    · exact (Below.refl w3.heap.size w3).drew.alloc (Nat.le_refl _) _
    clear hK K
    refine tk (i := 14) (v := .int .i64 (w64 n5)) rfl ?_ ?_
    · (intro w1 hSw; (try dsimp only at hSw); go_simp; rfl)
    simp only [za, zb, zc, Act.put, zd, ze, zf]
    rw [← HDO.out, ← HDC.out, ← HDN.out, ← HDX.out]
    refine tk (i := 15) (v := .agg #[.int .u64 D.c, .bool D.o, .int .i64 0, .int .u64 0, .int .i64 D.mn, .int .i64 D.mx]) rfl ?_ ?_
    · intro w1 hSw; go_simp
    simp only [za, zb, zc, Act.put, zd, ze, zf]
    refine wpAnyH_ready (rs := [17]) (by kernel_rfl) (by simp) ?_
    refine AllReadyH.cons (o := _) rfl (fun K hK => ?_) AllReadyH.nil
    go_simp
    obtain ⟨w5, HW5⟩ := hid_ex ((w3.alloc (.cells #[.int .u64 D.c, .bool D.o, .int .i64 0, .int .u64 0, .int .i64 D.mn, .int .i64 D.mx] 41)).drew)
    rw [← HW5.out]
    have HB5 : Hid (Below w3.heap.size w3 w5) := by rw [HW5.out]; exact ((Below.refl _ _).alloc (Nat.le_refl _) _).drew
    have HX5 : Hid (w5.heap[w3.heap.size]? = some (.cells #[.int .u64 D.c, .bool D.o, .int .i64 0, .int .u64 0, .int .i64 D.mn, .int .i64 D.mx] 41)) := by rw [HW5.out]; exact World.alloc_heap_new _ _
    refine hK.out _ _ ?_ (fun hHeld => ?_)
    · exact HB5.out
    clear hK K
    clear hHeld HW5
    refine wpAnyH_done (by kernel_rfl) ?_ _
    refine NoPanic.normal ?_
    have HB6 : Hid (Below w.heap.size w w5) := HB3.out.trans (HB5.out.mono HB3.out.size)
    go_wp2_with fail
    refine (ref16_any _ _ H16.out.1 _ (HR2.out.below HB6.out)).mono ?_
    rw [H16.out.2.1, H16.out.2.2, ← HN2.out, ← HN3.out, ← HDH.out, ← HDL.out]
    rintro e w6 ⟨rfl, hb6⟩
    have h36 : Below w3.heap.size w3 w6 := HB5.out.trans (hb6.mono HB5.out.size)
    have HX6 : Hid _ := (hb6.block _ (Array.getElem?_eq_some_iff.1 HX5.out).1).trans HX5.out
    have g2 := f_rw HX6.out 2
    have g3 := f_rw HX6.out 3
    have y2 := c_rw HX6.out 2 (by simp)
    have y3 := c_rw HX6.out 3 (by simp)
    have y0 := c_rw HX6.out 0 (by simp)
    have y1 := c_rw HX6.out 1 (by simp)
    have y4 := c_rw HX6.out 4 (by simp)
    have y5 := c_rw HX6.out 5 (by simp)
    simp only [List.getElem_toArray, List.getElem_cons_succ, List.getElem_cons_zero] at y0 y1 y2 y3 y4 y5
    obtain ⟨w7, HW7⟩ := hid_ex ((w6.setCell ⟨w3.heap.size, 2, none⟩ (.int .i64 (hi D.s))).setCell ⟨w3.heap.size, 3, none⟩ (.int .u64 (lo D.s)))
    have HX7 : Hid (w7.heap[w3.heap.size]? = some (.cells #[.int .u64 D.c, .bool D.o, .int .i64 (hi D.s), .int .u64 (lo D.s), .int .i64 D.mn, .int .i64 D.mx] 41)) := by rw [HW7.out]; exact set2' HX6.out _ _
    have HB7 : Hid (Below w3.heap.size w3 w7) := by rw [HW7.out]; exact (h36.setCell (Nat.le_refl _) _).setCell (Nat.le_refl _) _
    have HY7 : Hid (Below w.heap.size w w7) := HB3.out.trans (HB7.out.mono HB3.out.size)
    have HZ7 : Hid _ := (HB7.out.block _ (Array.getElem?_eq_some_iff.1 HZ3.out).1).trans HZ3.out
    clear hb6 h36
    go_wp2_with fail
    rw [← HW7.out]
    clear HW7 HX6 y0 y1 y2 y3 y4 y5 g2 g3
    refine (HWD.out _).mono ?_
    rintro e w8 ⟨v8, rfl, ho8, hb8⟩
    have HB8 : Hid (Below w.heap.size w w8) := HY7.out.trans (hb8.mono HY7.out.size)
    have HZ8 : Hid _ := (hb8.block _ (Array.getElem?_eq_some_iff.1 HZ7.out).1).trans HZ7.out
    have HX8 : Hid _ := (hb8.block _ (Array.getElem?_eq_some_iff.1 HX7.out).1).trans HX7.out
    obtain ⟨a8, c8, rfl, -⟩ := ho8.form
    have q1 := reads_text ho8.reads
    have q2 := reads_text (HRL.out.below HB8.out)
    clear hb8 ho8 HB7 HY7 HZ7 HX7
    have f0 := f_rw HZ8.out 0
    have f1' := f_rw HZ8.out 1
    have f2' := f_rw HZ8.out 2
    have f3' := f_rw HZ8.out 3
    have f4' := f_rw HZ8.out 4
    have f5 := f_rw HZ8.out 5
    have z0 := c_rw HZ8.out 0 (by simp)
    have z1 := c_rw HZ8.out 1 (by simp)
    have z2 := c_rw HZ8.out 2 (by simp)
    have z3 := c_rw HZ8.out 3 (by simp)
    have z4 := c_rw HZ8.out 4 (by simp)
    have z5 := c_rw HZ8.out 5 (by simp)
    have c0 := c_rw HX8.out 0 (by simp)
    have c1 := c_rw HX8.out 1 (by simp)
    have c2 := c_rw HX8.out 2 (by simp)
    have c3 := c_rw HX8.out 3 (by simp)
    have c4 := c_rw HX8.out 4 (by simp)
    have c5 := c_rw HX8.out 5 (by simp)
    simp only [List.getElem_toArray, List.getElem_cons_succ, List.getElem_cons_zero] at z0 z1 z2 z3 z4 z5 c0 c1 c2 c3 c4 c5
    by_cases hE : E = 0
    · have hE0 := hE
      subst hE0
      by_cases hU : U = l
      · obtain ⟨r1, r2⟩ := HG2.out ⟨rfl, hU⟩
        have hbe : (U == l) = true := by simp [hU]
        have hbn : (U != l) = false := by simp [hU]
        clear hU
        subst r1 r2
        go_wp2_with fail
        exact bodyPost_ret (res_rt rfl _ _ w.heap.size _ rfl (run_loadVar_row _ w.heap.size _ _ _ (0, 0) _ (set6' HZ8.out _ _ _ _ _ _) Try.underlying41 rfl (by kernel_rfl))) rfl ⟨rfl, below6' HB8.out (Nat.le_refl _) _ _ _ _ _ _⟩
      · obtain ⟨r1, r2⟩ := HB2.out (fun h => hU h.2)
        have hbe : (U == l) = false := by simp [hU]
        have hbn : (U != l) = true := by simp [hU]
        clear hU
        subst r1 r2
        go_wp2_with fail
        exact bodyPost_ret (res_rt rfl _ _ w.heap.size _ rfl (run_loadVar_row _ w.heap.size _ _ _ (0, 0) _ (set6' HZ8.out _ _ _ _ _ _) Try.underlying41 rfl (by kernel_rfl))) rfl ⟨rfl, below6' HB8.out (Nat.le_refl _) _ _ _ _ _ _⟩
    · obtain ⟨r1, r2⟩ := HB2.out (fun h => hE h.1)
      have hbe : (E == 0) = false := by simp [hE]
      have hbn : (E != 0) = true := by simp [hE]
      subst r1 r2
      go_wp2_with fail
      exact bodyPost_ret (res_rt rfl _ _ w.heap.size _ rfl (run_loadVar_row _ w.heap.size _ _ _ (0, 0) _ (set6' HZ8.out _ _ _ _ _ _) Try.underlying41 rfl (by kernel_rfl))) rfl ⟨rfl, below6' HB8.out (Nat.le_refl _) _ _ _ _ _ _⟩
end Go.Proofs.Ytlpjdfgknmfmnaa
