/- The walk of BlockReads. -/
import Derived.Test.YtfgggfddehgigaaRK7
import Derived.Test.YtfgggfddehgigaaSKO
import Derived.Test.YtfgggfddehgigaaBK13
namespace Go.Proofs.Ytfgggfddehgigaa
open Go.RowKit

/-- The row that bytes are, and whether they are one. -/
def rdL (b : List UInt8) : List Pr := (rdB b).getD []
def rdE (b : List UInt8) : Int := match rdB b with | none => 60 | some _ => 0
/-- The pair that Seek tells, and whether there is one. -/
def skP (b : List UInt8) (key : Ks) : Pr := (fsF (rdL b) key).getD ([], [])
def skT (b : List UInt8) (key : Ks) : Bool := (fsF (rdL b) key).isSome
theorem RdPost.uni {w : World} {b : List UInt8} {e : Ending} {W' : World} (h : RdPost w b e W') : Below w.heap.size w W' ∧ ∃ u xs, e = .returned (.tuple #[u, .int .i64 (rdE b)]) ∧ xs.map Pe.p = rdL b ∧ POwn W' w.heap.size u xs := by
  obtain ⟨h1, h2⟩ := h
  refine ⟨h1, ?_⟩
  unfold rdL rdE
  cases hr : rdB b with
  | none =>
    rw [hr] at h2
    exact ⟨_, [], h2, rfl, World.ownsRow_nil _ _ _ _, fun _ h => by cases h⟩
  | some l => rw [hr] at h2; exact h2
theorem SkPostO.uni {w : World} {b : List UInt8} {key : Ks} {e : Ending} {W' : World} (h : SkPostO w b key e W') : Below w.heap.size w W' ∧ ∃ kv vv, e = .returned (.tuple #[.agg #[kv, vv], .bool (skT b key), .int .i64 (rdE b)]) ∧ Own W' w.heap.size kv (skP b key).1 ∧ Own W' w.heap.size vv (skP b key).2 := by
  obtain ⟨h1, h2⟩ := h
  refine ⟨h1, ?_⟩
  unfold skP skT rdL rdE
  cases hr : rdB b with
  | none => rw [hr] at h2; exact ⟨_, _, h2, Own.nil _ _, Own.nil _ _⟩
  | some l =>
    rw [hr] at h2
    dsimp only at h2
    simp only [Option.getD_some]
    cases hf : fsF l key with
    | none => rw [hf] at h2; exact ⟨_, _, h2, Own.nil _ _, Own.nil _ _⟩
    | some x => rw [hf] at h2; exact h2
theorem RfPost.uni {w : World} {b : List UInt8} {e : Ending} {W' : World} (h : RfPost w b e W') : Below w.heap.size w W' ∧ ∃ u, e = .returned (.tuple #[u, .int .i64 (rdE b)]) ∧ PReads W' u (rdL b) := by
  obtain ⟨h1, h2⟩ := h
  refine ⟨h1, ?_⟩
  unfold rdL rdE
  cases hr : rdB b with
  | none =>
    rw [hr] at h2
    exact ⟨_, h2, none, 0, rfl, by simp, by simp, .inl rfl⟩
  | some l => rw [hr] at h2; exact h2
theorem SkPost.uni {w : World} {b : List UInt8} {key : Ks} {e : Ending} {W' : World} (h : SkPost w b key e W') : Below w.heap.size w W' ∧ ∃ kv vv, e = .returned (.tuple #[.agg #[kv, vv], .bool (skT b key), .int .i64 (rdE b)]) ∧ Reads W' kv (skP b key).1 ∧ Reads W' vv (skP b key).2 := by
  obtain ⟨h1, h2⟩ := h
  refine ⟨h1, ?_⟩
  unfold skP skT rdL rdE
  cases hr : rdB b with
  | none => rw [hr] at h2; exact ⟨_, _, h2, (Own.nil W' 0).reads, (Own.nil W' 0).reads⟩
  | some l =>
    rw [hr] at h2
    dsimp only at h2
    simp only [Option.getD_some]
    cases hf : fsF l key with
    | none => rw [hf] at h2; exact ⟨_, _, h2, (Own.nil W' 0).reads, (Own.nil W' 0).reads⟩
    | some x => rw [hf] at h2; exact h2
/-- What was told stays. -/
structure Std (n : Nat) (u : Value) (xs : List Pe) (kv vv : Value) (K V : Ks) (B : Nat) (W : World) : Prop where
  r : POwn W n u xs
  k : Own W n kv K
  v : Own W n vv V
  b : n ≤ B ∧ W.heap[B]? = some (.cells #[kv, vv] 38)
theorem row_far {W : World} {n g i : Nat} {e : TypeId} {size : Nat} {v y : Value} {k : Nat} {xs : List Value} (h : W.ownsRow n e size v k xs) (hg : g < n) : (W.setCell ⟨g, i, none⟩ y).ownsRow n e size v k xs := by
  obtain ⟨h1, h2⟩ := h
  refine ⟨h1, ?_⟩
  rcases h2 with h2 | ⟨g', cap, cur, hv, hgn, hw, r⟩
  · exact .inl h2
  · exact .inr ⟨g', cap, cur, hv, hgn, by rw [Go.heap_setCell_other _ _ _ _ (by simp; omega)]; exact hw, r⟩
theorem Std.set {n : Nat} {u : Value} {xs : List Pe} {kv vv : Value} {K V : Ks} {B : Nat} {W : World} (h : Std n u xs kv vv K V B W) {g i : Nat} (hg : g < n) (y : Value) : Std n u xs kv vv K V B (W.setCell ⟨g, i, none⟩ y) where
  r := ⟨row_far h.r.1 hg, fun x hx => ⟨row_far (h.r.2 x hx).1 hg, row_far (h.r.2 x hx).2 hg⟩⟩
  k := row_far h.k hg
  v := row_far h.v hg
  b := ⟨h.b.1, by have := h.b.1; rw [Go.heap_setCell_other _ _ _ _ (by simp; omega)]; exact h.b.2⟩
set_option maxRecDepth 100000 in
set_option maxHeartbeats 4000000 in
theorem reads_walk (vb : Value) (b : List UInt8) (vk : Value) (key : Ks) (w : World) (hb : Reads w vb b) (hk : Reads w vk key) :
    Calls Try.prog 4 #[vb, vk] w fun e w' => e = .returned (.bool true) ∧ Below w.heap.size w w' := by
  have HB : Hid (Reads w vb b) := hb
  have HK : Hid (Reads w vk key) := hk
  obtain ⟨ab, cb, rfl, hmb⟩ := hb.form
  obtain ⟨ak, ck, rfl, hmk⟩ := hk.form
  unfold maxLen at hmb hmk
  clear hb hk
  go_enter Try.func4, Try.ntmps4
  by_cases g1 : (3000 : Int) < (b.length : Int)
  · go_wp2_with fail
    refine (alive_any _).mono ?_
    rintro e w9 ⟨rfl, hb9⟩
    have HB9 : Hid (Below w.heap.size w w9) := hb9
    clear hb9
    go_wp2_with fail
    go_ret
    exact ⟨rfl, HB9.out⟩
  by_cases g2 : (1000 : Int) < (key.length : Int)
  · go_wp2_with fail
    refine (alive_any _).mono ?_
    rintro e w9 ⟨rfl, hb9⟩
    have HB9 : Hid (Below w.heap.size w w9) := hb9
    clear hb9
    go_wp2_with fail
    go_ret
    exact ⟨rfl, HB9.out⟩
  go_wp2_with fail
  refine (rcopy_any _ b (by omega) _ HB.out).mono ?_
  rintro e w1 ⟨vo, rfl, ho1, hb1⟩
  have HB1 : Hid (Below w.heap.size w w1) := hb1
  have HO1 : Hid (Own w1 w.heap.size vo b) := ho1
  obtain ⟨ao, co, rfl, -⟩ := ho1.form
  clear hb1 ho1
  go_wp2_with fail
  refine (read_any _ b (by omega) _ HO1.out.reads).mono ?_
  intro e w2 h2
  obtain ⟨hb2, u, xs, rfl, hxs, hu⟩ := h2.uni
  have HB2 : Hid (Below w1.heap.size w1 w2) := hb2
  have HXS : Hid (xs.map Pe.p = rdL b) := hxs
  have HU2 : Hid (POwn w2 w1.heap.size u xs) := hu
  have HO2 : Hid (Own w2 w.heap.size (.slice ao b.length co) b) := HO1.out.below hb2
  have HW2 : Hid (Below w.heap.size w w2) := HB1.out.trans (hb2.mono HB1.out.size)
  clear hb2 hxs hu h2
  obtain ⟨E, HE⟩ := hid_ex (rdE b)
  rw [← HE.out]
  go_wp2_with fail
  refine (seekO_any _ _ b key (by omega) _ HO2.out.reads (HK.out.below HW2.out)).mono ?_
  intro e w3 h3
  obtain ⟨hb3, kv, vv, rfl, hkv, hvv⟩ := h3.uni
  have HW3 : Hid (Below w.heap.size w w3) := HW2.out.trans (hb3.mono HW2.out.size)
  obtain ⟨P, HP⟩ := hid_ex (skP b key)
  obtain ⟨T, HT⟩ := hid_ex (skT b key)
  rw [← HP.out] at hkv hvv
  rw [← HT.out, ← HE.out]
  obtain ⟨a1, c1, rfl, -⟩ := hkv.form
  obtain ⟨a2, c2, rfl, -⟩ := hvv.form
  obtain ⟨w4, HW4⟩ := hid_ex (w3.alloc (.cells #[.slice a1 P.1.length c1, .slice a2 P.2.length c2] 38))
  have hsz2 := HB2.out.size
  have hsz3 := hb3.size
  have hal : Below w3.heap.size w3 w4 := by rw [HW4.out]; exact (Below.refl _ _).alloc (Nat.le_refl _) _
  have HS4 : Hid (Std w1.heap.size u xs (.slice a1 P.1.length c1) (.slice a2 P.2.length c2) P.1 P.2 w3.heap.size w4) := ⟨(HU2.out.below hb3).below hal, (hkv.mono hsz2).below hal, (hvv.mono hsz2).below hal, by omega, by rw [HW4.out]; exact World.alloc_heap_new _ _⟩
  have HO4 : Hid (Own w4 w.heap.size (.slice ao b.length co) b) := (HO2.out.below hb3).below hal
  have HB4 : Hid (Below w.heap.size w w4) := HW3.out.trans (hal.mono HW3.out.size)
  have HG : Hid (∀ g, ao = some ⟨g, 0, none⟩ → 0 < b.length → g < w1.heap.size) := by
    intro g hg h0
    obtain ⟨g', c', hv, _, hlt, _⟩ := HO1.out.some h0
    simp only [Value.slice.injEq] at hv
    have := hv.1.symm.trans hg
    simp at this
    omega
  clear h3 hb3 hkv hvv hal HU2 HB2 HO2 HW2 HO1
  go_wp2_with fail
  rw [← HW4.out]
  clear HW4
  go_loopw [11] (fun i wr => ∃ (k : Nat) (Z : List UInt8), k ≤ b.length ∧ i = .int .i64 (k : Int) ∧ Hid (Z.length = b.length) ∧ Hid (Own wr w.heap.size (.slice ao b.length co) Z) ∧ Hid (Std w1.heap.size u xs (.slice a1 P.1.length c1) (.slice a2 P.2.length c2) P.1 P.2 w3.heap.size wr) ∧ Hid (Below w.heap.size w wr)) (fun i _ => b.length - (intOf i).toNat)
  case atStart => exact ⟨0, b, by omega, rfl, rfl, HO4, HS4, HB4⟩
  case round =>
    obtain ⟨k, Z, hk, rfl, HZ, HOk, HSk, HTk⟩ := hrel
    by_cases hlt : k < b.length
    · obtain ⟨gb, cp, hv, hg1, hg2, _, _⟩ := HOk.out.some (by rw [HZ.out]; omega)
      simp only [Value.slice.injEq] at hv
      obtain ⟨rfl, hv2, hv3⟩ := hv
      clear hv2 hv3
      have hg3 : gb < w1.heap.size := HG.out gb rfl (by omega)
      obtain ⟨hc1, hf1⟩ := HOk.out.at k (by rw [HZ.out]; omega)
      obtain ⟨x, y, i1, y1, HST, HZ2, HSS⟩ : ∃ x y : UInt8, wr.cell? ⟨gb, k, none⟩ = some (.int .u8 (x.toNat : Int)) ∧ bits .xor .u8 (x.toNat : Int) 255 = (y.toNat : Int) ∧ Hid (Own (wr.setCell ⟨gb, k, none⟩ (.int .u8 (y.toNat : Int))) w.heap.size (.slice (some ⟨gb, 0, none⟩) b.length co) (Z.set k y) ∧ Below w.heap.size wr (wr.setCell ⟨gb, k, none⟩ (.int .u8 (y.toNat : Int)))) ∧ Hid ((Z.set k y).length = b.length) ∧ Hid (Std w1.heap.size u xs (.slice a1 P.1.length c1) (.slice a2 P.2.length c2) P.1 P.2 w3.heap.size (wr.setCell ⟨gb, k, none⟩ (.int .u8 (y.toNat : Int)))) := by
        have hkz : k < Z.length := by rw [HZ.out]; omega
        have hx := (Z[k]).toNat_lt
        have hxl : (Z[k]).toNat ^^^ 255 < 2 ^ 8 := Nat.xor_lt_two_pow hx (by decide)
        have ey : (UInt8.ofNat ((Z[k]).toNat ^^^ 255)).toNat = (Z[k]).toNat ^^^ 255 := by rw [UInt8.toNat_ofNat', Nat.mod_eq_of_lt hxl]
        refine ⟨Z[k], UInt8.ofNat ((Z[k]).toNat ^^^ 255), hc1, ?_, HOk.out.stored k _, ?_, HSk.out.set hg3 _⟩
        · rw [ey]; exact u8_xor_nat _ 255 hx (by decide)
        · show (Z.set k _).length = _
          rw [List.length_set]; exact HZ.out
      clear hc1
      go_wp2_with fail
      go_roundw
      case rel => exact ⟨k + 1, _, by omega, by go_num, HZ2, HST.out.1, HSS, HTk.out.trans HST.out.2⟩
      case measure => simp [intOf]; omega
    · obtain ⟨hr, hkk, hvv, hbb⟩ := HSk.out
      have HU : Hid (PReads wr u (rdL b)) := by rw [← HXS.out]; exact hr.reads
      have HK1 : Hid (Reads wr (.slice a1 P.1.length c1) P.1) := hkk.reads
      have HV1 : Hid (Reads wr (.slice a2 P.2.length c2) P.2) := hvv.reads
      have HC1 : Hid (wr.heap[w3.heap.size]? = some (.cells #[.slice a1 P.1.length c1, .slice a2 P.2.length c2] 38)) := hbb.2
      clear hr hkk hvv hbb HSk HOk HZ HS4 HO4 HB4 HG
      obtain ⟨M, HM⟩ := hid_ex (rdL b)
      rw [← HM.out] at HU
      go_wp2_with fail
      refine (refRead_any _ b _ (HB.out.below HTk.out)).mono ?_
      intro e w5 h5
      obtain ⟨hb5, u5, rfl, hu5⟩ := h5.uni
      rw [← HE.out]
      rw [← HM.out] at hu5
      have HW5 : Hid (Below wr.heap.size wr w5) := hb5
      have HB5 : Hid (Below w.heap.size w w5) := HTk.out.trans (hb5.mono HTk.out.size)
      have HU5 : Hid (PReads w5 u5 M) := hu5
      clear h5 hb5 hu5
      go_wp2_with fail
      refine (refSeek_any _ _ b key _ (HB.out.below HB5.out) (HK.out.below HB5.out)).mono ?_
      intro e w6 h6
      obtain ⟨hb6, k6, v6, rfl, hk6, hv6⟩ := h6.uni
      rw [← HP.out] at hk6 hv6
      rw [← HT.out, ← HE.out]
      obtain ⟨a3, c3, rfl, -⟩ := hk6.form
      obtain ⟨a4, c4, rfl, -⟩ := hv6.form
      obtain ⟨w7, HW7⟩ := hid_ex (w6.alloc (.cells #[.slice a3 P.1.length c3, .slice a4 P.2.length c4] 43))
      have hal : Below w6.heap.size w6 w7 := by rw [HW7.out]; exact (Below.refl _ _).alloc (Nat.le_refl _) _
      have h57 : Below w5.heap.size w5 w7 := hb6.trans (hal.mono hb6.size)
      have hr7 : Below wr.heap.size wr w7 := HW5.out.trans (h57.mono HW5.out.size)
      have HR7 : Hid (Below wr.heap.size wr w7) := hr7
      have HC7 : Hid (w7.heap[w6.heap.size]? = some (.cells #[.slice a3 P.1.length c3, .slice a4 P.2.length c4] 43)) := by rw [HW7.out]; exact World.alloc_heap_new _ _
      have HK7 : Hid (Reads w7 (.slice a3 P.1.length c3) P.1) := hk6.below hal
      have HV7 : Hid (Reads w7 (.slice a4 P.2.length c4) P.2) := hv6.below hal
      have HU7 : Hid (PReads w7 u5 M) := HU5.out.below h57
      have HB7 : Hid (Below w.heap.size w w7) := HTk.out.trans (hr7.mono HTk.out.size)
      clear h6 hb6 hk6 hv6 hal h57 hr7
      obtain ⟨n1, HN1⟩ := hid_ex P.1
      obtain ⟨n2, HN2⟩ := hid_ex P.2
      rw [← HN1.out] at HK1 HC1 HC7 HK7
      rw [← HN2.out] at HV1 HC1 HC7 HV7
      rw [← HN1.out, ← HN2.out] at HW7
      rw [← HN1.out, ← HN2.out]
      go_wp2_with fail
      rw [← HW7.out]
      clear HW7
      refine (alive_any _).mono ?_
      rintro e w8 ⟨rfl, hb8⟩
      have HB8 : Hid (Below w7.heap.size w7 w8) := hb8
      clear hb8
      go_wp2_with fail
      refine (same_any _ _ M M _ (HU.out.below (HR7.out.trans (HB8.out.mono HR7.out.size))) (HU7.out.below HB8.out)).mono ?_
      rintro e w9 ⟨rfl, hb9⟩
      have h79 : Below w7.heap.size w7 w9 := HB8.out.trans (hb9.mono HB8.out.size)
      have hr9 : Below wr.heap.size wr w9 := HR7.out.trans (h79.mono HR7.out.size)
      have HC9 : Hid _ := (h79.block _ (Array.getElem?_eq_some_iff.1 HC7.out).1).trans HC7.out
      have HD9 : Hid _ := (hr9.block _ (Array.getElem?_eq_some_iff.1 HC1.out).1).trans HC1.out
      have q1 := reads_text (HK1.out.below hr9)
      have q2 := reads_text (HV1.out.below hr9)
      have q3 := reads_text (HK7.out.below h79)
      have q4 := reads_text (HV7.out.below h79)
      have z0 := cell_rw HC9.out 0 (by simp)
      have z1 := cell_rw HC9.out 1 (by simp)
      have y0 := cell_rw HD9.out 0 (by simp)
      have y1 := cell_rw HD9.out 1 (by simp)
      simp only [List.getElem_toArray, List.getElem_cons_succ, List.getElem_cons_zero] at z0 z1 y0 y1
      have HB9 : Hid (Below w.heap.size w w9) := HTk.out.trans (hr9.mono HTk.out.size)
      have e1 : decide (M = M) = true := by simp
      rw [e1]
      have hb1 : (n1 == n1) = true := by simp
      have hb2 : (n2 == n2) = true := by simp
      clear hb9 h79 hr9
      go_wp2_with fail
      go_ret
      exact ⟨rfl, HB9.out⟩
end Go.Proofs.Ytfgggfddehgigaa
