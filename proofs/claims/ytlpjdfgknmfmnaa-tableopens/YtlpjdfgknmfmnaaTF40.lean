/- R7 BK11 RK4 RK5, joined. -/
import Derived.Test.YtlpjdfgknmfmnaaTF25
import Derived.Test.YtlpjdfgknmfmnaaTF31
import Derived.Test.YtlpjdfgknmfmnaaTF38
/- The reference's All. -/
namespace Go.Proofs.Ytlpjdfgknmfmnaa
open Go.RowKit

set_option maxRecDepth 100000 in
set_option maxHeartbeats 1000000 in
theorem refAll_any (v : Value) (bs : List UInt8) (hbl : bs.length ≤ 100000) (w : World) (hR : Reads w v bs) :
    Calls Try.prog 37 #[v] w fun e W' => ∃ (vl : Value) (xs : List Fr), e = .returned (.tuple #[vl, .int .i64 (ksum (alF (bs.length + 1) bs) : Nat)]) ∧ xs.map Fr.p = alF (bs.length + 1) bs ∧ W'.ownsRow w.heap.size 25 1 vl xs.length (xs.map Fr.v) ∧ (∀ x ∈ xs, Own W' w.heap.size x.v x.D) ∧ Below w.heap.size w W' := by
  obtain ⟨a, cap, rfl, _⟩ := hR.form
  have HR : Hid (Reads w (.slice a bs.length cap) bs) := hR
  clear hR
  go_enter Try.func37, Try.ntmps37
  go_wp2_with fail
  go_loopw [4, 5] (fun o x wr => ∃ (m k : Nat) (pre : List Fr), k ≤ bs.length ∧ x = .int .i64 (k : Int) ∧ bs.length - k < m ∧ Hid (alF (bs.length + 1) bs = pre.map Fr.p ++ alF m (bs.drop k)) ∧ Hid (ksum (pre.map Fr.p) = k) ∧ 8 * pre.length ≤ k ∧ Hid (wr.ownsRow w.heap.size 25 1 o pre.length (pre.map Fr.v)) ∧ Hid (∀ x ∈ pre, Own wr w.heap.size x.v x.D) ∧ Hid (Below w.heap.size w wr)) (fun _ x _ => bs.length - (intOf x).toNat)
  case atStart => exact ⟨bs.length + 1, 0, [], by omega, rfl, by omega, rfl, rfl, by simp, World.ownsRow_nil _ _ _ _, (fun _ h => by cases h), Below.refl _ _⟩
  case round =>
    obtain ⟨m, k, pre, hk, rfl, hm, HA, HK, h8, HW, HO, HB⟩ := hrel
    obtain ⟨m, rfl⟩ : ∃ m', m = m' + 1 := ⟨m - 1, by omega⟩
    by_cases hlt : (k : Int) < (bs.length : Int)
    · obtain ⟨b, off, rfl, _, _⟩ := HR.out.at 0 (by omega)
      have hcap := HR.out.cap (by omega)
      have hc : ¬ (cap : Int) = (k : Int) := by omega
      have hc' : ¬ cap = k := by omega
      have i1 : (k : Int) ≤ (bs.length : Int) := by omega
      have i2 : (k : Int) ≤ (cap : Int) := by omega
      have hRk : Reads wr (.slice (some ⟨b, off + k, none⟩) (bs.length - k) (cap - k)) (bs.drop k) := ((HR.out.below HB.out).drop (c := k) hk b off rfl).1 (by omega)
      have hdl : (bs.drop k).length = bs.length - k := by simp
      have hcall := refNext_any _ (bs.drop k) (by omega) _ hRk
      obtain ⟨q, hq⟩ := hid_ex (nxF (bs.drop k))
      rw [← hq.out] at hcall
      have HA2 : Hid (alF (bs.length + 1) bs = pre.map Fr.p ++ (if q.2.2 = 0 then (q.1, q.2.1) :: alF m ((bs.drop k).drop q.2.1) else [])) := by rw [HA.out, hq.out]; rfl
      have HOK : Hid (q.2.2 = 0 → 8 ≤ q.2.1 ∧ q.2.1 ≤ bs.length - k) := by
        intro h
        have := nxF_ok (l := bs.drop k) (by rw [← hq.out]; exact h)
        rw [← hq.out, hdl] at this
        exact this
      obtain ⟨D, z, E⟩ := q
      simp only at hcall HA2 HOK
      have HC : Hid _ := hcall
      clear hcall hq HA hRk hdl
      by_cases hE : E = 0
      · subst hE
        obtain ⟨f1, f2⟩ := HOK.out rfl
        have HA3 : Hid (alF (bs.length + 1) bs = pre.map Fr.p ++ (D, z) :: alF m (bs.drop (k + z))) := by rw [HA2.out, if_pos rfl, List.drop_drop]; rfl
        clear HA2 HOK
        go_wp2_with fail
        refine Calls.mono HC.out ?_
        rintro e w1 ⟨v1, rfl, HO1, hb1⟩
        have HB1 : Hid (Below w.heap.size w w1) := HB.out.trans (hb1.mono HB.out.size)
        have HW1 : Hid (w1.ownsRow w.heap.size 25 1 _ pre.length (pre.map Fr.v)) := row_kc_C HW.out (Kc.of_below hb1 HB.out.size)
        have HO2 : Hid (∀ x ∈ pre, Own w1 w.heap.size x.v x.D) := fun x hx => (HO.out x hx).below hb1
        have HP1 : Hid (Own w1 w.heap.size v1 D) := HO1.mono HB.out.size
        obtain ⟨a1, c1, rfl, _⟩ := HO1.form
        have hsz1 := HB1.out.size
        obtain ⟨i0, hi, hz0, hz1, hz2⟩ := info_parts infoL
        clear HC HO1 hb1 HB HW HO
        go_wp2_with (at_builtin; refine wpList_append_own _ rfl _ _ 68 rfl w.heap.size 25 i0 (.slice none 0 0) 1 24 Try.underlying68 hi hz0 hz1 hz2 rfl (by decide) _ _ _ rfl (HW1.out.alloc _) ⟨w1.heap.size, 0, none⟩ 1 1 [.slice a1 D.length c1] rfl rfl (cell_one_new _ _ _) (by simp [Value.oneCell']) (by unfold maxLen; omega) (by omega) (by simp; omega) ?_)
        intro v3 w3 hown3 hg3 _
        have HB3 : Hid (Below w.heap.size w w3) := HB1.out.trans (((Below.refl w.heap.size w1).alloc hsz1 _).grown hg3 (by simp; omega) (fun j ej => (World.ownsRow.lt HW1.out j ej).1))
        have HW3 : Hid (w3.ownsRow w.heap.size 25 1 v3 (pre ++ [(⟨.slice a1 D.length c1, D, z⟩ : Fr)]).length ((pre ++ [(⟨.slice a1 D.length c1, D, z⟩ : Fr)]).map Fr.v)) := by
          rw [List.length_append, List.map_append]; exact hown3
        have HO3 : Hid (∀ x ∈ pre ++ [(⟨.slice a1 D.length c1, D, z⟩ : Fr)], Own w3 w.heap.size x.v x.D) := by
          intro x hx
          rcases List.mem_append.1 hx with hx | hx
          · exact own_grown_C _ (HO2.out x hx) HW1.out (by decide) hg3
          · simp at hx; subst hx; exact own_grown_C _ HP1.out HW1.out (by decide) hg3
        have HA4 : Hid (alF (bs.length + 1) bs = (pre ++ [(⟨.slice a1 D.length c1, D, z⟩ : Fr)]).map Fr.p ++ alF m (bs.drop (k + z))) := by rw [HA3.out]; simp [Hid, Fr.p]
        have HK2 : Hid (ksum ((pre ++ [(⟨.slice a1 D.length c1, D, z⟩ : Fr)]).map Fr.p) = k + z) := by
          rw [List.map_append, ← HK.out]; exact ksum_snoc _ _
        have h82 : 8 * (pre ++ [(⟨.slice a1 D.length c1, D, z⟩ : Fr)]).length ≤ k + z := by simp; omega
        have H82 : Hid (8 * (pre ++ [(⟨.slice a1 D.length c1, D, z⟩ : Fr)]).length ≤ k + z) := h82
        clear hown3 hg3 HB1 HW1 HO2 HP1 HA3 HK h82 hi hz0 hz1 hz2
        go_wp2_with fail
        go_roundw
        case rel => exact ⟨m, k + z, _, by omega, by simp, by omega, HA4, HK2, H82.out, HW3, HO3, HB3⟩
        case measure => simp [intOf]; omega
      · have HA3 : Hid (alF (bs.length + 1) bs = pre.map Fr.p) := by rw [HA2.out, if_neg hE, List.append_nil]; rfl
        have jE : (E == 0) = false := by simpa using hE
        have jE2 : (E != 0) = true := by simpa using hE
        clear HA2 HOK hE
        go_wp2_with fail
        refine Calls.mono HC.out ?_
        rintro e w1 ⟨v1, rfl, HO1, hb1⟩
        have HB1 : Hid (Below w.heap.size w w1) := HB.out.trans (hb1.mono HB.out.size)
        have HW1 : Hid (w1.ownsRow w.heap.size 25 1 _ pre.length (pre.map Fr.v)) := row_kc_C HW.out (Kc.of_below hb1 HB.out.size)
        have HO2 : Hid (∀ x ∈ pre, Own w1 w.heap.size x.v x.D) := fun x hx => (HO.out x hx).below hb1
        clear HC HO1 hb1 HB HW HO
        go_wp2_with fail
        go_ret2
        exact ⟨_, pre, by rw [HA3.out, HK.out]; rfl, HA3.out.symm, HW1.out, HO2.out, HB1.out⟩
    · have hke : k = bs.length := by omega
      subst hke
      have HA3 : Hid (alF (bs.length + 1) bs = pre.map Fr.p) := by
        rw [HA.out, List.drop_length]
        simp [Hid, alF, nxF]
      clear HA
      go_wp2_with fail
      go_ret2
      exact ⟨_, by rw [HA3.out, HK.out]; rfl, pre, HA3.out.symm, HW.out, HO.out, HB.out⟩
end Go.Proofs.Ytlpjdfgknmfmnaa

/- The contract of Seek. -/
namespace Go.Proofs.Ytlpjdfgknmfmnaa
open Go.RowKit

theorem results_rtt {fn : Func} {p u v : Tmp} {ty : TypeId} (h : fn.results = #[.cell p ty, .tmp u, .tmp v]) (tmps : Array Value) (w : World) (g : Nat) (cs : Array Value)
    (hp : tmps.getD p undef = .pointer (some ⟨g, 0, none⟩)) (hl : (loadVar ty ⟨g, 0, none⟩).run Try.prog w = .ok (.agg cs) w) :
    (results fn tmps).run Try.prog w = .ok (.tuple #[.agg cs, tmps.getD u undef, tmps.getD v undef]) w := by
  have hp' : tmps[p]?.getD undef = .pointer (some ⟨g, 0, none⟩) := by simpa using hp
  simp [results, h, hp', asAddr, hl]
/-- A slice holds these pairs, of one's own. -/
theorem POwn.at {w : World} {base : Nat} {v : Value} {xs : List Pe} (h : POwn w base v xs) : ∃ a cap, v = .slice a (xs.map Pe.p).length cap ∧ (xs.map Pe.p).length ≤ cap ∧ cap ≤ maxLen ∧ (xs.map Pe.p = [] ∨ ∃ b off, a = some ⟨b, off, none⟩ ∧ b < w.heap.size ∧ ∀ j (hj : j < (xs.map Pe.p).length), ∃ kv vv, w.cell? ⟨b, off + j * 2, none⟩ = some kv ∧ w.cell? ⟨b, off + j * 2 + 1, none⟩ = some vv ∧ Own w base kv (xs.map Pe.p)[j].1 ∧ Own w base vv (xs.map Pe.p)[j].2) := by
  have hlt := World.ownsRow.lt h.1
  rcases h.1.2 with ⟨h1, h2⟩ | ⟨g, cap, cur, hv, hg, hw, hc, hm, _⟩
  · have : xs = [] := List.length_eq_zero_iff.1 h2
    subst this
    exact ⟨none, 0, by rw [h1]; rfl, by simp, by simp, .inl rfl⟩
  · have hr := h.1
    rw [hv] at hr
    refine ⟨some ⟨g, 0, none⟩, cap, by rw [hv]; simp, by simpa using hc, hm, ?_⟩
    refine .inr ⟨g, 0, rfl, (hlt g (by rw [hv]; rfl)).2, fun j hj => ?_⟩
    simp at hj
    have e : (xs.map Pe.p)[j]'(by simpa using hj) = xs[j].p := by simp
    rw [e]
    have c0 := World.ownsRow.cellAt hr (2 * j + 0) (by omega)
    have c1 := World.ownsRow.cellAt hr (2 * j + 1) (by omega)
    rw [flat2 xs j 0 hj (by decide)] at c0
    rw [flat2 xs j 1 hj (by decide)] at c1
    have hx := h.2 _ (List.getElem_mem hj)
    refine ⟨xs[j].kv, xs[j].vv, ?_, ?_, hx.1, hx.2⟩
    · rw [show 0 + j * 2 = 2 * j + 0 by omega, c0]; rfl
    · rw [show 0 + j * 2 + 1 = 2 * j + 1 by omega, c1]; rfl
end Go.Proofs.Ytlpjdfgknmfmnaa

/- The contract of the reference's three. -/
namespace Go.Proofs.Ytlpjdfgknmfmnaa
open Go.RowKit

/-- What three short numbers have taken so far, and they. -/
def tS (b : List UInt8) : Nat → Nat × Array Value
  | 0 => (0, #[.int .i64 0, .int .i64 0, .int .i64 0])
  | j + 1 => ((tS b j).1 + (rsF (b.drop (tS b j).1) 0 0).2.1, (tS b j).2.setIfInBounds j (.int .i64 ((rsF (b.drop (tS b j).1) 0 0).1 : Nat)))
/-- Were they there so far? -/
def tO (b : List UInt8) : Nat → Prop
  | 0 => True
  | j + 1 => tO b j ∧ ¬ ((rsF (b.drop (tS b j).1) 0 0).2.2 ≠ 0 ∨ 4096 < (rsF (b.drop (tS b j).1) 0 0).1)
theorem tO_mono {b : List UInt8} : ∀ {i j : Nat}, tO b i → j ≤ i → tO b j
  | i, j, h, hij => by
    induction i with
    | zero => have : j = 0 := by omega
              subst this; exact h
    | succ i ih =>
      by_cases e : j = i + 1
      · subst e; exact h
      · exact ih h.1 (by omega)
theorem th3_no {b : List UInt8} (h : ¬ tO b 3) : th3 b = none := by
  unfold th3
  simp only
  split
  · rfl
  · split
    · rfl
    · split
      · rfl
      · rename_i h0 h1 h2
        exfalso
        apply h
        simp only [tO, tS, List.drop_zero, Nat.zero_add]
        exact ⟨⟨⟨trivial, h0⟩, h1⟩, h2⟩
theorem th3_yes {b : List UInt8} (h : tO b 3) : ∃ s m v, th3 b = some (s, m, v, (tS b 3).1) ∧ (tS b 3).2 = #[.int .i64 (s : Nat), .int .i64 (m : Nat), .int .i64 (v : Nat)] ∧ s ≤ 4096 ∧ m ≤ 4096 ∧ v ≤ 4096 := by
  simp only [tO, tS, List.drop_zero, Nat.zero_add] at h
  obtain ⟨⟨⟨_, h0⟩, h1⟩, h2⟩ := h
  refine ⟨(rsF b 0 0).1, (rsF (b.drop (rsF b 0 0).2.1) 0 0).1, (rsF (b.drop ((rsF b 0 0).2.1 + (rsF (b.drop (rsF b 0 0).2.1) 0 0).2.1)) 0 0).1, ?_, ?_, by omega, by omega, by omega⟩
  · unfold th3
    simp only [tS, List.drop_zero, Nat.zero_add]
    rw [if_neg h0, if_neg h1, if_neg h2]
  · simp [tS]
/-- What three answers. -/
def ThPost (w0 w : World) (b : List UInt8) (e : Ending) (w' : World) : Prop := Below w.heap.size w w' ∧
  match th3 b with
  | none => ∃ x y z, e = .returned (.tuple #[.agg #[.int .i64 x, .int .i64 y, .int .i64 z], .slice none 0 0, .bool false])
  | some (s, m, v, t) => ∃ u, e = .returned (.tuple #[.agg #[.int .i64 (s : Nat), .int .i64 (m : Nat), .int .i64 (v : Nat)], u, .bool true]) ∧ Reads w0 u (b.drop t)
theorem tS_ints (b : List UInt8) (j : Nat) : ∃ x y z, (tS b j).2 = #[.int .i64 x, .int .i64 y, .int .i64 z] := by
  induction j with
  | zero => exact ⟨0, 0, 0, rfl⟩
  | succ j ih =>
    obtain ⟨x, y, z, h⟩ := ih
    rw [tS, h]
    match j with
    | 0 => exact ⟨_, y, z, rfl⟩
    | 1 => exact ⟨x, _, z, rfl⟩
    | 2 => exact ⟨x, y, _, rfl⟩
    | n + 3 => exact ⟨x, y, z, by simp [Array.setIfInBounds]⟩
theorem set3 {w : World} {b : Nat} {T : TypeId} {x0 x1 x2 : Value} (h : w.heap[b]? = some (.cells #[x0, x1, x2] T)) (v0 v1 v2 : Value) :
    (((w.setCell ⟨b, 0, none⟩ v0).setCell ⟨b, 1, none⟩ v1).setCell ⟨b, 2, none⟩ v2).heap[b]? = some (.cells #[v0, v1, v2] T) := by
  have h0 := Go.heap_setCell_same w b 0 _ _ v0 h
  have h1 := Go.heap_setCell_same _ b 1 _ _ v1 h0
  have h2 := Go.heap_setCell_same _ b 2 _ _ v2 h1
  simpa using h2
theorem set3_belowR {B : Nat} {w w' : World} {b : Nat} {x y z : Value} (h : Below B w w') (hb : B ≤ b) : Below B w (((w'.setCell ⟨b, 0, none⟩ x).setCell ⟨b, 1, none⟩ y).setCell ⟨b, 2, none⟩ z) := ((h.setCell hb x).setCell hb y).setCell hb z
theorem heap_two (w : World) (o1 o2 : Obj) : ((w.alloc o1).alloc o2).heap[w.heap.size + 1]? = some o2 ∧ ((w.alloc o1).alloc o2).heap[w.heap.size]? = some o1 := by
  have h1 := World.alloc_heap_new (w.alloc o1) o2
  rw [show (w.alloc o1).heap.size = w.heap.size + 1 by simp] at h1
  refine ⟨h1, ?_⟩
  have h2 := World.alloc_heap_new w o1
  have hb := (Below.refl (w.alloc o1).heap.size (w.alloc o1)).alloc (Nat.le_refl _) o2
  rw [hb.block w.heap.size (by simp)]; exact h2
set_option maxRecDepth 100000 in
set_option maxHeartbeats 4000000 in
theorem three_any (v : Value) (b : List UInt8) (w0 w : World) (hw : Below w0.heap.size w0 w) (hR : Reads w0 v b) :
    Calls Try.prog 74 #[v] w fun e w' => ThPost w0 w b e w' := by
  have HW0 : Hid (Below w0.heap.size w0 w) := hw
  clear hw
  have HR : Hid (Reads w0 v b) := hR
  obtain ⟨a, cap, rfl, hm⟩ := hR.form
  unfold maxLen at hm
  clear hR
  go_enter Try.func74, Try.ntmps74
  go_wp2_with fail
  go_loopw [0, 6] (fun vb i wr => ∃ j : Nat, j ≤ 3 ∧ i = .int .i64 (j : Int) ∧ Hid (tO b j) ∧ Hid (Reads w0 vb (b.drop (tS b j).1)) ∧ Hid (wr.heap[w.heap.size + 1]? = some (.cells (tS b j).2 104)) ∧ Hid (wr.heap[w.heap.size]? = some (.cells #[.int .i64 0, .int .i64 0, .int .i64 0] 104)) ∧ Hid (Below w.heap.size w wr)) (fun _ i _ => 3 - (intOf i).toNat)
  case atStart =>
    refine ⟨0, by omega, rfl, trivial, ?_, ?_, ?_, ((Below.refl _ _).alloc (Nat.le_refl _) _).alloc (by simp) _⟩
    · rw [tS, List.drop_zero]; exact HR
    · exact (heap_two w _ _).1
    · exact (heap_two w _ _).2
  case round =>
    rename World => wo
    obtain ⟨j, hj, rfl, HO, HRb, HA, HZ, HB⟩ := hrel
    obtain ⟨B, HBB⟩ := hid_ex (b.drop (tS b j).1)
    rw [← HBB.out] at HRb
    obtain ⟨ab, cb, rfl, hmb⟩ := HRb.out.form
    unfold maxLen at hmb
    by_cases hlt : j < 3
    · have hji : (j : Int) < 3 := by omega
      go_wp2_with fail
      refine (refReadShort_any _ _ _ (HRb.out.below (HW0.out.trans (HB.out.mono HW0.out.size)))).mono ?_
      rintro e w1 ⟨rfl, hb1⟩
      have HB1 : Hid (Below w.heap.size w w1) := HB.out.trans (hb1.mono HB.out.size)
      have HA1 : Hid (w1.heap[w.heap.size + 1]? = some (.cells (tS b j).2 104)) := (hb1.block _ (Array.getElem?_eq_some_iff.1 HA.out).1).trans HA.out
      have HZ1 : Hid (w1.heap[w.heap.size]? = some (.cells #[.int .i64 0, .int .i64 0, .int .i64 0] 104)) := (hb1.block _ (Array.getElem?_eq_some_iff.1 HZ.out).1).trans HZ.out
      clear hb1 HB HA HZ
      obtain ⟨r, HRR⟩ := hid_ex (rsF B 0 0)
      have HSt : Hid (tS b (j + 1) = ((tS b j).1 + r.2.1, (tS b j).2.setIfInBounds j (.int .i64 (r.1 : Nat)))) := by unfold Hid; rw [tS, ← HBB.out, ← HRR.out]
      have HOt : Hid (tO b (j + 1) ↔ tO b j ∧ ¬ (r.2.2 ≠ 0 ∨ 4096 < r.1)) := by unfold Hid; rw [tO, ← HBB.out, ← HRR.out]
      have HRl : Hid (¬ (r.2.2 ≠ 0 ∨ 4096 < r.1) → r.2.1 ≤ B.length) := by unfold Hid; rw [HRR.out]; exact fun h => (rs_back h).2.2.1
      rw [← HRR.out]
      obtain ⟨rn, ru, re⟩ := r
      have HI3 : Hid (∃ x y z, (tS b j).2 = #[.int .i64 x, .int .i64 y, .int .i64 z]) := tS_ints b j
      obtain ⟨x, y, z, hxyz⟩ := HI3.out
      rw [hxyz] at HA1 HSt
      clear hxyz HI3
      have z0 := cell_rw HA1.out 0 (by simp)
      have z1 := cell_rw HA1.out 1 (by simp)
      have z2 := cell_rw HA1.out 2 (by simp)
      have y0 := cell_rw HZ1.out 0 (by simp)
      have y1 := cell_rw HZ1.out 1 (by simp)
      have y2 := cell_rw HZ1.out 2 (by simp)
      have f0 := frozen_rw HZ1.out 0
      have f1 := frozen_rw HZ1.out 1
      have f2 := frozen_rw HZ1.out 2
      simp only [List.getElem_toArray, List.getElem_cons_succ, List.getElem_cons_zero] at z0 z1 z2 y0 y1 y2
      by_cases e1 : re = 0
      · by_cases e2 : (4096 : Int) < (rn : Int)
        · subst e1
          have HN : Hid (th3 b = none) := th3_no (fun h => (HOt.out.1 (tO_mono h (by omega))).2 (.inr (by simp; omega)))
          go_wp2_with fail
          exact bodyPost_ret (results_rtt rfl _ _ w.heap.size _ rfl (run_loadVar_row _ w.heap.size _ _ _ (0, 0) _ (set3 HZ1.out _ _ _) Try.underlying104 rfl (by kernel_rfl))) rfl ⟨set3_belowR HB1.out (Nat.le_refl _), by rw [HN.out]; exact ⟨x, y, z, rfl⟩⟩
        · subst e1
          have HT : Hid (tO b (j + 1)) := HOt.out.2 ⟨HO.out, by simp; omega⟩
          have hru : ru ≤ B.length := HRl.out (by simp; omega)
          obtain ⟨ad, cd, hsl, hrd⟩ := sl_from (c := ru) HRb.out hru
          have HRd : Hid (Reads w0 (.slice ad (B.length - ru) cd) (B.drop ru)) := hrd
          clear hrd
          have g0 := frozen_rw HA1.out j
          have g1 := cell_rw HA1.out j (by simp; omega)
          clear z0 z1 z2 y0 y1 y2 f0 f1 f2
          go_wp2_with fail
          go_roundw
          case rel =>
            refine ⟨j + 1, by omega, by go_num, HT, ?_, ?_, ?_, ?_⟩
            · rw [HSt.out]
              show Hid (Reads w0 _ (b.drop ((tS b j).1 + ru)))
              rw [← List.drop_drop, ← HBB.out]; exact HRd
            · rw [HSt.out]
              exact Go.heap_setCell_same _ _ _ _ _ _ HA1.out
            · unfold Hid
              rw [Go.heap_setCell_other _ _ _ _ (by simp)]
              exact HZ1.out
            · exact HB1.out.setCell (by simp) _
          case measure => simp [intOf]; omega
      · have HN : Hid (th3 b = none) := th3_no (fun h => (HOt.out.1 (tO_mono h (by omega))).2 (.inl (by simpa using e1)))
        go_wp2_with fail
        exact bodyPost_ret (results_rtt rfl _ _ w.heap.size _ rfl (run_loadVar_row _ w.heap.size _ _ _ (0, 0) _ (set3 HZ1.out _ _ _) Try.underlying104 rfl (by kernel_rfl))) rfl ⟨set3_belowR HB1.out (Nat.le_refl _), by rw [HN.out]; exact ⟨x, y, z, rfl⟩⟩
    · have hj3 : j = 3 := by omega
      subst hj3
      obtain ⟨sx, mx, vx, HT3, hA3, _, _, _⟩ := th3_yes HO.out
      rw [hA3] at HA
      have z0 := cell_rw HA.out 0 (by simp)
      have z1 := cell_rw HA.out 1 (by simp)
      have z2 := cell_rw HA.out 2 (by simp)
      have y0 := cell_rw HZ.out 0 (by simp)
      have y1 := cell_rw HZ.out 1 (by simp)
      have y2 := cell_rw HZ.out 2 (by simp)
      have f0 := frozen_rw HZ.out 0
      have f1 := frozen_rw HZ.out 1
      have f2 := frozen_rw HZ.out 2
      simp only [List.getElem_toArray, List.getElem_cons_succ, List.getElem_cons_zero] at z0 z1 z2 y0 y1 y2
      have H3 : Hid _ := HT3
      clear HT3 hA3
      go_wp2_with fail
      exact bodyPost_ret (results_rtt rfl _ _ w.heap.size _ rfl (run_loadVar_row _ w.heap.size _ _ _ (0, 0) _ (set3 HZ.out _ _ _) Try.underlying104 rfl (by kernel_rfl))) rfl ⟨set3_belowR HB.out (Nat.le_refl _), by rw [H3.out]; exact ⟨_, rfl, Eq.mp (congrArg (Reads _ (.slice ab B.length cb)) HBB.out) HRb.out⟩⟩
end Go.Proofs.Ytlpjdfgknmfmnaa

/- What the reference's Read does, in plain words. -/
namespace Go.Proofs.Ytlpjdfgknmfmnaa
open Go.RowKit

/-- One pair at the front of bytes, as the reference reads it, and what is left. -/
def st3 (L : List UInt8) (A : Ks) : Option (Pr × List UInt8) :=
  match th3 L with
  | none => none
  | some (s, m, v, t) => if A.length < s ∨ (L.drop t).length < m ∨ (L.drop t).length - m < v then none else some ((A.take s ++ (L.drop t).take m, ((L.drop t).drop m).take v), (L.drop t).drop (m + v))
theorem st3_pb {k : Nat} {A : Ks} {x : Pr} (hx : okP x) (r : List UInt8) : st3 (pb k A x ++ r) A = some (x, r) := by
  obtain ⟨h1, h2⟩ := hx
  have hs := svd_le k A x.1
  have ht := svd_take k A x.1
  unfold st3 pb
  generalize svd k A x.1 = s at *
  have e : sh s ++ (sh (x.1.length - s) ++ (sh x.2.length ++ (x.1.drop s ++ x.2))) ++ r = sh s ++ (sh (x.1.length - s) ++ (sh x.2.length ++ (x.1.drop s ++ x.2 ++ r))) := by simp only [List.append_assoc]
  rw [e, th3_of (by omega) (by omega) h2]
  have d : (sh s ++ (sh (x.1.length - s) ++ (sh x.2.length ++ (x.1.drop s ++ x.2 ++ r)))).drop ((sh s).length + (sh (x.1.length - s)).length + (sh x.2.length).length) = x.1.drop s ++ x.2 ++ r := by
    rw [Nat.add_assoc, ← List.drop_drop, List.drop_left, ← List.drop_drop, List.drop_left, List.drop_left]
  simp only [d]
  have l1 : (x.1.drop s).length = x.1.length - s := by simp
  rw [if_neg (by simp; omega)]
  have e1 : (x.1.drop s ++ x.2 ++ r).take (x.1.length - s) = x.1.drop s := by rw [List.append_assoc, ← l1, List.take_left]
  have e2 : (x.1.drop s ++ x.2 ++ r).drop (x.1.length - s) = x.2 ++ r := by rw [List.append_assoc, ← l1, List.drop_left]
  rw [← List.drop_drop, e1, e2, List.take_left, List.drop_left, ht, List.take_append_drop]
/-- What holds at each round. -/
def Inv (b : List UInt8) (M : List Pr) (L : List UInt8) : Prop := ∀ l, rdB b = some l → M.length ≤ l.length ∧ M = l.take M.length ∧ L = wbF M.length (lastK [] M) (l.drop M.length)
theorem Inv.start (b : List UInt8) : Inv b [] b := by
  intro l h
  refine ⟨by simp, by simp, ?_⟩
  exact (rdB_back h).2.symm
theorem Inv.cons {b : List UInt8} {M : List Pr} {L : List UInt8} (h : Inv b M L) (hL : L ≠ []) {l : List Pr} (hl : rdB b = some l) : ∃ x, ∃ hlt : M.length < l.length, x = l[M.length] ∧ okP x ∧ L = pb M.length (lastK [] M) x ++ wbF (M.length + 1) x.1 (l.drop (M.length + 1)) := by
  obtain ⟨h1, h2, h3⟩ := h l hl
  have hlt : M.length < l.length := by
    rcases Nat.lt_or_ge M.length l.length with h | h
    · exact h
    · rw [List.drop_eq_nil_of_le h] at h3; exact absurd h3 hL
  refine ⟨l[M.length], hlt, rfl, (mb_zero.1 (rdB_back hl).1).2.1 _ (List.getElem_mem hlt), ?_⟩
  rw [List.drop_eq_getElem_cons hlt, wbF] at h3
  exact h3
theorem Inv.fail {b : List UInt8} {M : List Pr} {L : List UInt8} (h : Inv b M L) (hL : L ≠ []) (hs : st3 L (lastK [] M) = none) : rdB b = none := by
  cases hr : rdB b with
  | none => rfl
  | some l =>
    obtain ⟨x, hlt, _, hx, e⟩ := h.cons hL hr
    rw [e, st3_pb hx] at hs
    cases hs
theorem Inv.step {b : List UInt8} {M : List Pr} {L L' : List UInt8} {p : Pr} (h : Inv b M L) (hL : L ≠ []) (hs : st3 L (lastK [] M) = some (p, L')) : Inv b (M ++ [p]) L' := by
  intro l hr
  obtain ⟨x, hlt, hxe, hx, e⟩ := h.cons hL hr
  obtain ⟨_, h2, _⟩ := h l hr
  rw [e, st3_pb hx] at hs
  obtain ⟨rfl, rfl⟩ : x = p ∧ wbF (M.length + 1) x.1 (l.drop (M.length + 1)) = L' := by simpa using hs
  refine ⟨by simp; omega, ?_, ?_⟩
  · rw [List.length_append, List.length_singleton, List.take_add_one, List.getElem?_eq_getElem hlt, ← h2, ← hxe]; rfl
  · rw [List.length_append, List.length_singleton, lastK_snoc]
theorem Inv.done {b : List UInt8} {M : List Pr} {L : List UInt8} (h : Inv b M L) (hL : L = [] ∨ 4096 < M.length) (hn : ¬ (mbF M = 0 ∧ wrB M = b)) : rdB b = none := by
  cases hr : rdB b with
  | none => rfl
  | some l =>
    exfalso
    obtain ⟨h1, h2, h3⟩ := h l hr
    obtain ⟨k1, k2⟩ := rdB_back hr
    rcases hL with hL | hL
    · have hlen : l.length ≤ M.length := by
        rcases Nat.lt_or_ge M.length l.length with h | h
        · rw [List.drop_eq_getElem_cons h, wbF, hL] at h3
          have h4 := congrArg List.length h3
          rw [List.length_append, pb_len] at h4
          have := sh_pos (svd M.length (lastK [] M) l[M.length].1)
          simp at h4
          omega
        · exact h
      rw [List.take_of_length_le hlen] at h2
      apply hn
      rw [h2]
      refine ⟨k1, ?_⟩
      unfold wrB; rw [if_pos k1]; exact k2
    · have := (mb_zero.1 k1).1
      omega
theorem Inv.good {b : List UInt8} {M : List Pr} (h : mbF M = 0 ∧ wrB M = b) : rdB b = some M := by
  have e : wrB M = wb M := by unfold wrB; rw [if_pos h.1]
  rw [← h.2, e]
  exact rdB_wb h.1
theorem st3_len {L L' : List UInt8} {A : Ks} {p : Pr} (h : st3 L A = some (p, L')) (hL : L ≠ []) : L'.length < L.length := by
  unfold st3 at h
  cases ht : th3 L with
  | none => rw [ht] at h; cases h
  | some q =>
    obtain ⟨s, m, v, t⟩ := q
    have := th3_back ht
    rw [ht] at h
    simp only at h
    split at h
    · cases h
    · simp at h
      rw [← h.2]
      have : 0 < L.length := List.length_pos_iff.2 hL
      simp; omega
end Go.Proofs.Ytlpjdfgknmfmnaa
