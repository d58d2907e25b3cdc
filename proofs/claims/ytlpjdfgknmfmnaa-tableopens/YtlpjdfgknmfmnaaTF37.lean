/- TR3a TRf F5 R5, joined. -/
import Derived.Test.YtlpjdfgknmfmnaaTF2
import Derived.Test.YtlpjdfgknmfmnaaTF13
import Derived.Test.YtlpjdfgknmfmnaaTF34
import Derived.Test.YtlpjdfgknmfmnaaTF35
import Derived.Test.YtlpjdfgknmfmnaaTF36
import Derived.Deep.Upon
import Derived.Deep.AppendSrc
import Derived.Laws.IdiomCopy
import Derived.BigRegion
/- The reference's Write of layer 10: what its steps keep. -/
namespace Go.Proofs.Ytlpjdfgknmfmnaa
open Go.RowKit

theorem tIdx_len2 {l : List Et} (h : TOk l) : (wrB (tIdx l)).length ≤ tK l.length * 270 := by
  have h0 := tIdx_ok h
  rw [wrB_of h0]
  have h1 := wbF_bd (tIdx l) 0 [] (mb_zero.1 h0).2.1
  have h2 := sum_le (fun x : Pr => x.1.length + x.2.length + 6) 270 (tIdx l) (fun x hx => by
    obtain ⟨j, hj, rfl⟩ := List.mem_map.1 hx
    obtain ⟨y, hy, e⟩ := tLast_mem (l := l) (tK_lt.1 (List.mem_range.1 hj))
    have a := (h.k y hy).2
    show (tLast l j).length + (u8s _).length + 6 ≤ 270
    rw [← e, u8s_len]; omega)
  rw [tIdx_len] at h2
  unfold wb
  omega
theorem RF.kpT {S : TypeId → Prop} {A B : World} {base : Nat} {v : Value} {h : Nat} {D : List Bool} (hf : RF A base v h D) (hk : KpT S A B) (hb : S 4) (hp : S 113) : RF B base v h D := by
  obtain ⟨b, g, cap, h1, h2, h3, h4, h5⟩ := hf
  exact ⟨b, g, cap, h1, h2, hk _ _ _ _ hp h3, row_kpT h4 hk hb, h5⟩
/-- The state of the reference's Write: its bytes, its index, its filter. -/
structure JR (w W : World) (vo : Value) (O : List UInt8) (vi : Value) (X : List Pr) (vf : Value) (D : List UInt8) : Prop where
  o : Own W w.heap.size vo O
  i : RxR w W w.heap.size vo.ownBlock vi X
  f : RF W w.heap.size vf 6 (dgs D)
  b : Below w.heap.size w W
theorem JR.kpT {S : TypeId → Prop} {w A B : World} {vo : Value} {O : List UInt8} {vi : Value} {X : List Pr} {vf : Value} {D : List UInt8} (h : JR w A vo O vi X vf D) (hk : KpT S A B) (hb : Below w.heap.size A B) (h1 : S 5) (h2 : S 64) (h3 : S 4) (h4 : S 113) : JR w B vo O vi X vf D :=
  ⟨own_kpT h.o hk h1, h.i.kpT hk h1 h2, h.f.kpT hk h3 h4, h.b.trans hb⟩
theorem JR.below {w A B : World} {vo : Value} {O : List UInt8} {vi : Value} {X : List Pr} {vf : Value} {D : List UInt8} (h : JR w A vo O vi X vf D) (hb : Below A.heap.size A B) : JR w B vo O vi X vf D :=
  h.kpT (S := fun _ => True) (KpT.of_below hb) (hb.mono h.b.size) trivial trivial trivial trivial
theorem JR.drew {w A : World} {vo : Value} {O : List UInt8} {vi : Value} {X : List Pr} {vf : Value} {D : List UInt8} (h : JR w A vo O vi X vf D) : JR w A.drew vo O vi X vf D := h.below (Below.refl _ _).drew
/-- A pair more in the index. -/
theorem JR.app {w W : World} {vo : Value} {O : List UInt8} {vi : Value} {X : List Pr} {vf : Value} {D : List UInt8} (h : JR w W vo O vi X vf D) {kv vv : Value} {k u : List UInt8} (hk : Reads w kv k) (hv : RdX W w.heap.size vo.ownBlock vv u) {B : Nat}
    (hc : W.heap[B]? = some (.cells #[kv, vv] 64)) (hX : X.length ≤ 100000) (ty : TypeId) :
    ∃ v' w1, (Builtin.append_ #[62, 62] ty #[vi, .slice (some ⟨B, 0, none⟩) 1 1]).run Try.prog W = .ok v' w1 ∧ (∃ a c, v' = .slice a (X.length + 1) c) ∧ JR w w1 vo O v' (X ++ [(k, u)]) vf D := by
  obtain ⟨v', w1, h1, h2, h3, h4, h5⟩ := h.i.app h.b.size hk hv hc hX ty
  exact ⟨v', w1, h1, h2, own_kpT h.o h4 (by decide), h3, h.f.kpT h4 (by decide) (by decide), h.b.trans h5⟩
/-- Bytes more. -/
theorem JR.appO {w W : World} {vo : Value} {O : List UInt8} {vi : Value} {X : List Pr} {vf : Value} {D : List UInt8} (h : JR w W vo O vi X vf D) {vx : Value} {l : List UInt8} (hr : Reads W vx l) (h0 : 0 < l.length) (hO : O.length + l.length ≤ 140737488355328) (ty : TypeId) :
    ∃ v' w1, (Builtin.append_ #[25, 25] ty #[vo, vx]).run Try.prog W = .ok v' w1 ∧ (∃ a c, v' = .slice a (O ++ l).length c) ∧ JR w w1 v' (O ++ l) vi X vf D ∧ ∀ v l, RdX W w.heap.size vo.ownBlock v l → RdX w1 w.heap.size v'.ownBlock v l := by
  obtain ⟨i0, hi, hz0, hz1, hz2⟩ := info_parts info5
  rcases hr with ⟨rfl, _⟩ | ⟨b, off, cap, rfl, h2, h3, h4, h5, h6⟩
  · simp at h0
  obtain ⟨v', w1, hrun, hown, hg, _⟩ := run_append_own (P := Try.prog) W w.heap.size 25 ty 5 i0 _ 1 1 Try.underlying25 hi hz0 hz1 hz2 rfl (by decide) vo O.length (O.map bc) h.o ⟨b, off, none⟩ l.length cap (l.map bc) (by simp) (newsR h6) one_bc (by unfold maxLen; omega) (by omega) h.b.size
  have hown2 : Own w1 w.heap.size v' (O ++ l) := by unfold Own; rw [List.length_append, List.map_append]; exact hown
  have hbz : Below w.heap.size W w1 := (Below.refl _ _).grown hg h.b.size (own_block h.o)
  have hG : GOwn W 5 1 vo O.length (O.map bc) := ⟨h.o.1, by
    rcases h.o.2 with q | ⟨g, cp, cur, e1, _, e2, e3, e4, e5⟩
    · exact .inl q
    · exact .inr ⟨g, cp, cur, e1, e2, e3, e4, by rw [e5.1]; exact Nat.le_refl _, e5.2⟩⟩
  obtain ⟨v2, w2, hrun2, _, _, hwh⟩ := run_gapp (P := Try.prog) 25 ty 5 i0 _ 1 1 Try.underlying25 hi hz0 hz1 hz2 rfl vo O.length (O.map bc) hG (.slice (some ⟨b, off, none⟩) l.length cap) l.length (l.map bc) (reads_src (.inr ⟨b, off, cap, rfl, h2, h3, h4, h5, h6⟩)) one_bc (by unfold maxLen; omega) (by omega)
  rw [hrun] at hrun2
  cases hrun2
  have hkp : KpT (fun T => T ≠ 5) W w1 := KpT.grown h.o hg (fun q => q rfl)
  have hwh' : ∀ k, v'.ownBlock = some k → vo.ownBlock = some k ∨ W.heap.size ≤ k := fun k hk => (hwh k hk).imp id fun q => q.1
  obtain ⟨xs, g1, g2, g3⟩ := h.i
  refine ⟨v', w1, hrun, ?_, ⟨hown2, ⟨xs, row_kpT g1 hkp (by decide), g2, fun x hx => ⟨(g3 x hx).1, (g3 x hx).2.grown h.o hg hwh'⟩⟩, h.f.kpT hkp (by decide) (by decide), h.b.trans hbz⟩, fun v l hv => hv.grown h.o hg hwh'⟩
  obtain ⟨a, c, e, _⟩ := hown2.form
  exact ⟨a, c, e⟩
/-- Bytes of one's own that a later call made. -/
theorem RdX.of_own2 {w' : World} {z base : Nat} {v : Value} {l : List UInt8} {ob : Option Nat} (h : Own w' z v l) (h0 : 0 < l.length) (hb : base ≤ z) (hob : ∀ k, ob = some k → k < z) : RdX w' base ob v l := by
  refine ⟨h.reads, ?_⟩
  rcases h.2 with ⟨_, h2⟩ | ⟨g, cap, cur, hv, hg, hw, r⟩
  · omega
  · exact ⟨g, 0, l.length, cap, cur, hv, by omega, hw, fun e => by have := hob g e; omega⟩
end Go.Proofs.Ytlpjdfgknmfmnaa

/- An append upon bytes that lie ahead of their block's end, behind its head. -/
namespace Go.Proofs.Ytlpjdfgknmfmnaa
open Go.RowKit

theorem below_setCells {B : Nat} {a : World} (g : Nat) (hg : B ≤ g) : ∀ (vs : List Value) (o : Nat) (w : World), Below B a w → Below B a (w.setCells g o vs)
  | [], _, _, h => h
  | v :: r, o, w, h => by
    show Below B a ((w.setCell ⟨g, o, none⟩ v).setCells g (o + 1) r)
    exact below_setCells g hg r _ _ (h.setCell (p := ⟨g, o, none⟩) hg v)
set_option maxRecDepth 100000 in
theorem foot_app {W : World} {base g c1 : Nat} {P : List UInt8} (hP : P.length = 16) (ho : Own W base (.slice (some ⟨g, 0, none⟩) 16 c1) P) (hb : base ≤ W.heap.size) {vx : Value} {l : List UInt8} (hr : Reads W vx l) (hl : l.length = 8) (ty : TypeId) :
    ∃ v' w1, (Builtin.append_ #[25, 25] ty #[.slice (some ⟨g, 8, none⟩) 8 (c1 - 8), vx]).run Try.prog W = .ok v' w1 ∧ Reads w1 v' (P.drop 8 ++ l) ∧ Below base W w1 := by
  obtain ⟨i0, hi, hz0, hz1, hz2⟩ := info_parts info5
  have hPr := ho.reads
  rcases ho.2 with ⟨q, _⟩ | ⟨g', cap, cur, hv, hg, hw, hc, hm, hs, _⟩
  · cases q
  simp only [Value.slice.injEq, Option.some.injEq, Addr.mk.injEq, and_true] at hv
  obtain ⟨rfl, hv2, rfl⟩ := hv
  rw [hP] at hc
  have hglt : g < W.heap.size := (Array.getElem?_eq_some_iff.1 hw).1
  rcases hr with ⟨rfl, _⟩ | ⟨b, off, cx, rfl, _, h3, h4, h5, h6⟩
  · simp at hl
  have hS : Go.Src Try.prog i0.size 25 (.slice (some ⟨b, off, none⟩) l.length cx) l.length (l.map bc) W := Go.Src.ofSlice W Try.underlying25 ⟨b, off, none⟩ l.length cx (l.map bc) (by rw [List.length_map, hz1, Nat.mul_one]) (newsR h6) one_bc
  rw [hl] at hS
  rw [hl]
  have hPc : ∀ j (h : j < 16), W.cell? ⟨g, j, none⟩ = some (bc (P[j]'(by omega))) := by
    rcases hPr with ⟨q, _⟩ | ⟨b2, o2, c2, e, _, _, _, _, k6⟩
    · rw [q] at hP; simp at hP
    · simp only [Value.slice.injEq, Option.some.injEq, Addr.mk.injEq, and_true] at e
      obtain ⟨⟨rfl, rfl⟩, _⟩ := e
      intro j h
      have := k6 j (by omega)
      rwa [Nat.zero_add] at this
  have hQl : (P.drop 8 ++ l).length = 16 := by rw [List.length_append, List.length_drop, hP, hl]
  have hQ1 : ∀ j (h : j < (P.drop 8 ++ l).length) (h8 : j < 8), (P.drop 8 ++ l)[j] = P[8 + j]'(by omega) := fun j h h8 => by
    rw [List.getElem_append_left (by rw [List.length_drop]; omega), List.getElem_drop]
  have hQ2 : ∀ j (h : j < (P.drop 8 ++ l).length) (h8 : ¬ j < 8), (P.drop 8 ++ l)[j] = l[j - 8]'(by omega) := fun j h h8 => by
    rw [List.getElem_append_right (by rw [List.length_drop]; omega)]
    congr 1
    rw [List.length_drop, hP]
  by_cases hroom : 8 + 8 ≤ c1 - 8
  · have hth : ∀ j, j < (l.map bc).length → (W.cell? ⟨g, 8 + 8 * i0.size + j, none⟩).isSome = true := fun j hj => by
      rw [List.length_map] at hj
      have hlt : 8 + 8 * 1 + j < cur.size := by rw [hs]; omega
      rw [hz1]
      simp [World.cell?, hw, hlt]
    have hfr : ∀ j, j < (l.map bc).length → W.frozen? ⟨g, 8 + 8 * i0.size + j, none⟩ = false := fun j _ => by simp [World.frozen?, hw]
    refine ⟨_, _, run_append_room_src W 25 25 ty 5 i0 Try.underlying25 hi g 8 8 (c1 - 8) _ 8 _ hS hroom hth hfr, ?_, below_setCells g hg _ _ _ (Below.refl _ _)⟩
    refine .inr ⟨g, 8, c1 - 8, by rw [hQl], by omega, by omega, by omega, ?_, fun j hj => ?_⟩
    · exact Nat.lt_of_lt_of_le hglt (below_setCells (B := 0) g (Nat.zero_le _) _ _ W (Below.refl _ _)).size
    · by_cases h8 : j < 8
      · rw [hQ1 j hj h8]
        have e1 := World.cell?_setCells_out g (l.map bc) (8 + 8 * i0.size) W ⟨g, 8 + j, none⟩ (fun _ _ => .inl (show 8 + j < 8 + 8 * i0.size by rw [hz1]; omega))
        exact e1.trans (hPc (8 + j) (by omega))
      · have := World.cell?_setCells_in g (l.map bc) (8 + 8 * i0.size) W hth (j - 8) (by rw [List.length_map]; omega)
        rw [hQ2 j hj h8, show 8 + j = 8 + 8 * i0.size + (j - 8) by rw [hz1]; omega, this, List.getElem_map]
  · have hold : (Builtin.firstCells i0.size 8 (.slice (some ⟨g, 8, none⟩) 8 (c1 - 8))).run Try.prog W.drew = .ok ((P.drop 8).map bc).toArray W.drew := by
      refine run_firstCells_some W.drew i0.size 8 ⟨g, 8, none⟩ 8 (c1 - 8) _ (by rw [List.length_map, List.length_drop, hP, hz1]) (fun j v hj => ?_)
      rw [List.getElem?_map] at hj
      have hlt : j < 8 := by
        rcases Nat.lt_or_ge j 8 with q | q
        · exact q
        · rw [List.getElem?_eq_none (by rw [List.length_drop, hP]; omega)] at hj; cases hj
      rw [List.getElem?_eq_getElem (by rw [List.length_drop, hP]; omega), List.getElem_drop] at hj
      simp only [Option.map_some, Option.some.injEq] at hj
      subst hj
      have hq := hPc (8 + j) (by omega)
      by_cases q : j = 0
      · subst q; simpa [Addr.add] using hq
      · simpa [Addr.add, q] using hq
    refine ⟨_, _, run_append_grow_src W 25 25 ty 5 i0 _ Try.underlying25 hi hz0 (some ⟨g, 8, none⟩) 8 (c1 - 8) _ hold _ 8 _ hS (by omega) (by decide) (growslice_fits (by omega) (by rw [hz2]; decide)), ?_, (Below.refl _ _).drew.alloc (by exact hb) _⟩
    have hge := grownCap_ge W (8 + 8) (c1 - 8) 5
    have hcm := grownCap_le_maxLen W (8 + 8) (c1 - 8) 5 (by decide)
    refine .inr ⟨W.heap.size, 0, _, by rw [hQl], by omega, by omega, hcm, by simp [World.alloc], fun j hj => ?_⟩
    have e1 := World.cell?_alloc_new W.drew (((P.drop 8).map bc ++ l.map bc).toArray ++ Builtin.zeroCells (Value.int .u8 0).cells (grownCap W (8 + 8) (c1 - 8) 5 - (8 + 8))) 5 (0 + j)
    refine Eq.trans e1 ?_
    rw [Nat.zero_add, ← List.map_append, Array.getElem?_append_left (by simp only [List.size_toArray, List.length_map]; exact hj), List.getElem?_toArray, List.getElem?_map, List.getElem?_eq_getElem hj]
    rfl
end Go.Proofs.Ytlpjdfgknmfmnaa

/- Lists of slices of bytes; the reference's Same. -/
namespace Go.Proofs.Ytlpjdfgknmfmnaa
open Go.RowKit

/-- A slice of slices reads these. -/
def LReads_C (w : World) (v : Value) (L : List (List UInt8)) : Prop :=
  ∃ a cap, v = .slice a L.length cap ∧ L.length ≤ cap ∧ cap ≤ maxLen ∧ (L = [] ∨ ∃ b off, a = some ⟨b, off, none⟩ ∧ b < w.heap.size ∧ ∀ j (hj : j < L.length), ∃ vj, w.cell? ⟨b, off + j, none⟩ = some vj ∧ Reads w vj L[j])
theorem LReads_C.below {w w' : World} {v : Value} {L : List (List UInt8)} (h : LReads_C w v L) (hb : Below w.heap.size w w') : LReads_C w' v L := by
  obtain ⟨a, cap, rfl, h1, h2, h3⟩ := h
  refine ⟨a, cap, rfl, h1, h2, ?_⟩
  rcases h3 with h3 | ⟨b, off, h4, h5, h6⟩
  · exact .inl h3
  · refine .inr ⟨b, off, h4, Nat.lt_of_lt_of_le h5 hb.size, fun j hj => ?_⟩
    obtain ⟨vj, g1, g2⟩ := h6 j hj
    exact ⟨vj, (hb.cell (p := ⟨b, off + j, none⟩) h5).trans g1, g2.below hb⟩
theorem LReads_C.take {w : World} {a : Option Addr} {n cap : Nat} {L : List (List UInt8)} (h : LReads_C w (.slice a n cap) L) {c : Nat} (hc : c ≤ L.length) : LReads_C w (.slice a c cap) (L.take c) := by
  obtain ⟨a', cap', hv, h1, h2, h3⟩ := h
  simp at hv
  obtain ⟨rfl, rfl, rfl⟩ := hv
  refine ⟨_, _, by rw [List.length_take, Nat.min_eq_left hc], by simp; omega, h2, ?_⟩
  rcases h3 with rfl | ⟨b, off, h4, h5, h6⟩
  · exact .inl (by simp)
  · refine .inr ⟨b, off, h4, h5, fun j hj => ?_⟩
    obtain ⟨vj, g1, g2⟩ := h6 j (by simp at hj; omega)
    exact ⟨vj, g1, by simpa using g2⟩
end Go.Proofs.Ytlpjdfgknmfmnaa

/- The reference's frames. -/
namespace Go.Proofs.Ytlpjdfgknmfmnaa
open Go.RowKit

theorem four_at (n k : Nat) (hk : k < 4) : (four n).take (k + 1) = (four n).take k ++ [UInt8.ofNat (n / 256 ^ k)] := by
  have h : k = 0 ∨ k = 1 ∨ k = 2 ∨ k = 3 := by omega
  rcases h with rfl | rfl | rfl | rfl <;> simp [four]
set_option maxRecDepth 100000 in
set_option maxHeartbeats 1000000 in
theorem refFour_any (n : Nat) (hn : n < 4294967296) (w : World) :
    Calls Try.prog 63 #[.int .u32 (n : Int)] w fun e w' => ∃ v', e = .returned v' ∧ Own w' w.heap.size v' (four n) ∧ Below w.heap.size w w' := by
  go_enter Try.func63, Try.ntmps63
  go_wp2_with fail
  go_loopw [0, 3, 4] (fun x v i wr => ∃ k m : Nat, k ≤ 4 ∧ i = .int .i64 (k : Int) ∧ x = .int .u32 (m : Int) ∧ Hid (m = n / 256 ^ k) ∧ m < 4294967296 ∧ Hid (Own wr w.heap.size v ((four n).take k)) ∧ Hid (Below w.heap.size w wr)) (fun _ _ i _ => 4 - (intOf i).toNat)
  case atStart => exact ⟨0, n, by omega, rfl, rfl, by simp [Hid], hn, Own.nil _ _, Below.refl _ _⟩
  case round =>
    obtain ⟨k, m, hk, rfl, rfl, HM, hm, HO, HB⟩ := hrel
    by_cases hlt : k < 4
    · have HF : Hid ((four n).take (k + 1) = (four n).take k ++ [UInt8.ofNat m]) := by rw [HM.out]; exact four_at n k hlt
      have HM2 : Hid (m / 256 = n / 256 ^ (k + 1)) := by rw [HM.out, Nat.div_div_eq_div_mul, Nat.pow_succ]; exact rfl
      have hkl : ((four n).take k).length ≤ 4 := by simp [four_len]; omega
      have hsz := HB.out.size
      have hdm : (m : Int).tdiv 256 = ((m / 256 : Nat) : Int) := by rw [Int.tdiv_eq_ediv_of_nonneg (by omega)]; omega
      have hdw : IntKind.u32.wrap ((m / 256 : Nat) : Int) = ((m / 256 : Nat) : Int) := by simp [IntKind.wrap, IntKind.bits, IntKind.signed]; omega
      have hdc : IntKind.u32.wrap ((m : Int).tdiv 256) = ((m / 256 : Nat) : Int) := by rw [hdm, hdw]
      clear hdm hdw
      have hw1 : ((m : Int) % 256) % 256 = (m : Int) % 256 := by omega
      have hbc : Value.int .u8 ((m : Int) % 256) = bc (UInt8.ofNat m) := by
        unfold bc; rw [UInt8.toNat_ofNat']; simp
      have HBC : Hid _ := hbc
      clear hbc HM hw1
      go_wp2_with (at_builtin; refine wpList_app1 rfl _ _ rfl w.heap.size _ ((four n).take k) (UInt8.ofNat m) _ HF.out (by first | exact HBC.out | simpa using HBC.out) rfl rfl HO.out (by omega) hsz ?_)
      intro v2 w2 HO2 hb2
      have HB2 : Hid (Below w.heap.size w w2) := HB.out.trans hb2.out
      have HP2 : Hid (Own w2 w.heap.size v2 ((four n).take (k + 1))) := HO2
      clear HO2 hb2 HB HO HF HBC
      go_wp2_with fail
      go_roundw
      case rel => exact ⟨k + 1, m / 256, by omega, by simp, by simp, HM2, by omega, HP2, HB2⟩
      case measure => simp [intOf]; omega
    · have hke : k = 4 := by omega
      subst hke
      have HP : Hid (Own wr w.heap.size u3 (four n)) := HO.out
      clear HO HM
      go_wp2_with fail
      go_ret
      exact ⟨_, rfl, HP.out, HB.out⟩
set_option maxRecDepth 100000 in
set_option maxHeartbeats 1000000 in
theorem refNumber_any (v : Value) (l : List UInt8) (hl : 4 ≤ l.length) (w : World) (hr : Reads w v l) :
    Calls Try.prog 95 #[v] w fun e w' => e = .returned (.int .i64 (vle (l.take 4) : Nat)) ∧ Below w.heap.size w w' := by
  obtain ⟨a, cap, rfl, hm⟩ := hr.form
  obtain ⟨b, off, rfl, _, c0⟩ := hr.at 0 (by omega)
  obtain ⟨b1, off1, e1, _, c1⟩ := hr.at 1 (by omega)
  obtain ⟨b2, off2, e2, _, c2⟩ := hr.at 2 (by omega)
  obtain ⟨b3, off3, e3, _, c3⟩ := hr.at 3 (by omega)
  simp only [Option.some.injEq, Addr.mk.injEq, and_true] at e1 e2 e3
  obtain ⟨rfl, rfl⟩ := e1
  obtain ⟨rfl, rfl⟩ := e2
  obtain ⟨rfl, rfl⟩ := e3
  have hv : vle (l.take 4) = l[0].toNat + 256 * (l[1].toNat + 256 * (l[2].toNat + 256 * l[3].toNat)) := by
    match l, hl with
    | x :: y :: z :: u :: l, _ => simp [vle]
  have b0 := (l[0]).toNat_lt
  have b1 := (l[1]).toNat_lt
  have b2 := (l[2]).toNat_lt
  have b3 := (l[3]).toNat_lt
  unfold bc at c0 c1 c2 c3
  rw [Nat.add_zero] at c0
  generalize l[0].toNat = x0 at *
  generalize l[1].toNat = x1 at *
  generalize l[2].toNat = x2 at *
  generalize l[3].toNat = x3 at *
  have i1 : (1 : Int) < (l.length : Int) := by omega
  have i2 : (2 : Int) < (l.length : Int) := by omega
  have i3 : (3 : Int) < (l.length : Int) := by omega
  have i0 : (0 : Int) < (l.length : Int) := by omega
  have HV : Hid _ := hv
  clear hv hr
  rw [HV.out]
  go_enter Try.func95, Try.ntmps95
  go_wp2_with fail
  go_region
  go_wp2_with fail
  go_ret
  exact ⟨ret_int (by omega), (Below.refl _ _).drew⟩
end Go.Proofs.Ytlpjdfgknmfmnaa
