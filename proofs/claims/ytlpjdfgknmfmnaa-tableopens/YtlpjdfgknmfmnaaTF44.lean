/- TN9 TTB TTC TL0, joined. -/
import Derived.Test.YtlpjdfgknmfmnaaTZ0
import Derived.Test.YtlpjdfgknmfmnaaTF2
import Derived.Test.YtlpjdfgknmfmnaaTF8
import Derived.Test.YtlpjdfgknmfmnaaTF18
import Derived.Test.YtlpjdfgknmfmnaaTF43
import Derived.Lib.SmallJoins
/- The mark of a constant text. -/
namespace Go.Proofs.Ytlpjdfgknmfmnaa
open Go.RowKit

/-- What is kept from one operation of a region to the next. -/
structure Rm (w w' : World) : Prop where
  s : w.heap.size ≤ w'.heap.size
  c : ∀ a v, w.cell? a = some v → w'.cell? a = some v
  h : ∀ g s, w.shape? g = some s → w'.shape? g = some s
theorem Reads.rm {w w' : World} {v : Value} {l : List UInt8} (h : Reads w v l) (r : Rm w w') : Reads w' v l := by
  rcases h with h | ⟨b, off, cap, h1, h2, h3, h4, h5, h6⟩
  · exact .inl h
  · exact .inr ⟨b, off, cap, h1, h2, h3, h4, Nat.lt_of_lt_of_le h5 r.s, fun j hj => r.c _ _ (h6 j hj)⟩
def frz : Obj → Obj
  | .cells c e (lo, hi) => .cells c e (if (lo == hi) = true then (1, 2) else (min lo 1, max hi 2))
  | o => o
theorem freeze_heap (w : World) (g k : Nat) : (w.freeze ⟨g, 1, none⟩ 1).heap[k]? = if g = k then (w.heap[k]?).map frz else w.heap[k]? := by
  unfold World.freeze
  rw [if_neg (by decide)]
  show (w.heap.modify g _)[k]? = _
  rw [Array.getElem?_modify]
  rfl
/-- The mark of a constant text's bytes. -/
theorem run_mark {w : World} {g : Nat} (h : w.shape? g = some (5, 1)) : ∃ w', (convert 25 25 (.slice (some ⟨g, 0, none⟩) 1 1)).run Try.prog w = .ok (.slice (some ⟨g, 0, none⟩) 1 1) w' ∧ Rm w w' ∧ ∀ B, B ≤ g → Below B w w' := by
  refine ⟨w.freeze ⟨g, 1, none⟩ 1, ?_, ?_, ?_⟩
  · simp [convert, run_underlying Try.underlying25, run_underlying Try.underlying5, markStringish, h]
  · refine ⟨by simp [World.freeze], fun a v q => ?_, fun k s q => ?_⟩
    · unfold World.cell? at q ⊢
      rw [freeze_heap]
      cases hk : w.heap[a.block]? with
      | none => rw [hk] at q; cases q
      | some o =>
        rw [hk] at q
        by_cases e : g = a.block
        · rw [if_pos e]
          cases o with
          | cells c el fr =>
            obtain ⟨f1, f2⟩ := fr
            exact q
          | _ => cases q
        · rw [if_neg e]; exact q
    · unfold World.shape? at q ⊢
      rw [freeze_heap]
      cases hk : w.heap[k]? with
      | none => rw [hk] at q; cases q
      | some o =>
        rw [hk] at q
        by_cases e : g = k
        · rw [if_pos e]
          cases o with
          | cells c el fr =>
            obtain ⟨f1, f2⟩ := fr
            exact q
          | _ => cases q
        · rw [if_neg e]; exact q
  · intro B hB
    exact ⟨rfl, rfl, rfl, by simp [World.freeze], fun k hk => by rw [freeze_heap, if_neg (by omega)]⟩
end Go.Proofs.Ytlpjdfgknmfmnaa

/- table: Seek, All, Ends, Get, May, Len of an open table. -/
namespace Go.Proofs.Ytlpjdfgknmfmnaa
open Go.RowKit

theorem elemTp : Try.prog.elem 71 = 73 := by kernel_rfl
theorem undTp : Try.prog.underlying 71 = some (.slice (Try.prog.elem 71)) := by rw [elemTp]; exact Try.underlying71
theorem sizeTp (w : World) : (sizeOf 73).run Try.prog w = .ok 2 w := by
  simp [sizeOf]
  rfl
theorem PReads.drop {w : World} {g n : Nat} {L : List Pr} (h : PReads w (.slice (some ⟨g, 0, none⟩) n n) L) {c : Nat} (hc : c ≤ n) : PReads w (Go.sliced (some ⟨g, 0, none⟩) c n n 2) (L.drop c) := by
  obtain ⟨a', cap', he, h1, h2, h3⟩ := h
  simp only [Value.slice.injEq] at he
  obtain ⟨rfl, rfl, rfl⟩ := he
  have hl : (L.drop c).length = L.length - c := by simp
  unfold Go.sliced
  by_cases e : L.length = c
  · rw [if_pos e]
    exact ⟨_, L.length - c, by rw [hl], by rw [hl]; exact Nat.le_refl _, by omega, .inl (List.drop_eq_nil_of_le (by omega))⟩
  · rw [if_neg e]
    refine ⟨_, L.length - c, by rw [hl], by rw [hl]; exact Nat.le_refl _, by omega, .inr ?_⟩
    rcases h3 with rfl | ⟨b, off, h4, h5, h6⟩
    · simp at hc; simp at e; omega
    · simp only [Option.some.injEq, Addr.mk.injEq, and_true] at h4
      obtain ⟨rfl, rfl⟩ := h4
      refine ⟨g, c * 2, by simp [Addr.add]; omega, h5, fun j hj => ?_⟩
      rw [hl] at hj
      obtain ⟨kv, vv, g1, g2, g3, g4⟩ := h6 (c + j) (by omega)
      have e2 : (L.drop c)[j]'(by rw [hl]; exact hj) = L[c + j]'(by omega) := by simp
      rw [e2]
      exact ⟨kv, vv, by rw [show c * 2 + j * 2 = 0 + (c + j) * 2 by omega]; exact g1, by rw [show c * 2 + j * 2 + 1 = 0 + (c + j) * 2 + 1 by omega]; exact g2, g3, g4⟩
theorem row_mono {w : World} {base base' : Nat} {e : TypeId} {size : Nat} {v : Value} {n : Nat} {xs : List Value} (h : w.ownsRow base e size v n xs) (hb : base' ≤ base) : w.ownsRow base' e size v n xs := by
  obtain ⟨h1, h2⟩ := h
  refine ⟨h1, ?_⟩
  rcases h2 with h2 | ⟨g, cap, cur, hv, hg, r⟩
  · exact .inl h2
  · exact .inr ⟨g, cap, cur, hv, Nat.le_trans hb hg, r⟩
theorem TOwn.mono {W : World} {base base' : Nat} {v : Value} {xs : List Ee} (h : TOwn W base v xs) (hb : base' ≤ base) : TOwn W base' v xs := ⟨row_mono h.1 hb, fun x hx => ⟨(h.2 x hx).1.mono hb, (h.2 x hx).2⟩⟩
theorem Tb.pieces {w : World} {lo B : Nat} {l : List Et} (h : Tb w lo B l) : ∃ g fv, w.heap[B]? = some (.cells #[.slice (some ⟨g, 0, none⟩) (tK l.length) (tK l.length), fv, .int .i64 (l.length : Int)] 84) ∧ lo ≤ g ∧ TpC w lo g (tK l.length) (tLast l) (tRow l) ∧ Fil w lo fv 6 (rmD l.length l) ∧ PReads w (.slice (some ⟨g, 0, none⟩) (tK l.length) (tK l.length)) ((List.range (tK l.length)).map fun j => (tLast l j, tRow l j)) := by
  obtain ⟨g, fv, h1, h2, h3, h4⟩ := h.p
  exact ⟨g, fv, h1, h2, h3, h4, h3.reads (by have := h.ok.n; unfold maxLen tK; omega)⟩
theorem tlen_any {w : World} {lo B : Nat} {l : List Et} (h : Tb w lo B l) : Calls Try.prog 13 #[.pointer (some ⟨B, 0, none⟩)] w fun e w' => e = .returned (.int .i64 (l.length : Int)) ∧ w' = w := by
  obtain ⟨g, fv, hB, _⟩ := h.p
  have z2 : w.cell? ⟨B, 2, none⟩ = some (.int .i64 (l.length : Int)) := by simp [World.cell?, hB]
  go_enter Try.func13, Try.ntmps13
  go_wp2_with fail
  go_ret
  exact ⟨rfl, rfl⟩
/-- May, plainly. -/
def tmyF (l : List Et) (key : List UInt8) : Bool := myF (rmD l.length l) (plc key (8 * (rmD l.length l).length) 6)
theorem tmay_any {w : World} {lo B : Nat} {l : List Et} (h : Tb w lo B l) (kv : Value) (key : List UInt8) (hR : Reads w kv key) : Calls Try.prog 14 #[.pointer (some ⟨B, 0, none⟩), kv] w fun e w' => e = .returned (.bool (tmyF l key)) ∧ Below w.heap.size w w' := by
  obtain ⟨g, fv, hB, _, _, hF⟩ := h.p
  have hM := may_any fv kv 6 (rmD l.length l) key w lo hF hR
  obtain ⟨B2, hv⟩ := hF.ptr
  subst hv
  have z1 : w.cell? ⟨B, 1, none⟩ = some (.pointer (some ⟨B2, 0, none⟩)) := by simp [World.cell?, hB]
  obtain ⟨ka, kc, rfl, _⟩ := hR.form
  have HM : Hid (Calls Try.prog 47 #[.pointer (some ⟨B2, 0, none⟩), .slice ka key.length kc] w fun e w' => e = .returned (.bool (tmyF l key)) ∧ Below w.heap.size w w') := hM
  obtain ⟨R, HR⟩ := hid_ex (tmyF l key)
  rw [← HR.out] at HM ⊢
  clear hM hF hR hB
  go_enter Try.func14, Try.ntmps14
  go_wp2_with fail
  refine HM.out.mono ?_
  rintro e w1 ⟨rfl, hb⟩
  go_wp2_with fail
  go_ret
  exact ⟨rfl, hb⟩
set_option maxRecDepth 100000 in
set_option maxHeartbeats 2000000 in
/-- The closure of Seek. -/
theorem seek1_any {w : World} {lo B : Nat} {l : List Et} (h : Tb w lo B l) (x y : Nat) (kv : Value) (key : List UInt8) (hR : Reads w kv key) (hx : w.cell? ⟨x, 0, none⟩ = some (.pointer (some ⟨B, 0, none⟩))) (hy : w.cell? ⟨y, 0, none⟩ = some kv) (i : Nat) (hi : i < tK l.length) :
    Calls Try.prog 79 #[.int .i64 (i : Int), .pointer (some ⟨x, 0, none⟩), .pointer (some ⟨y, 0, none⟩)] w fun e w' => e = .returned (.bool (pS l key i)) ∧ Below w.heap.size w w' := by
  obtain ⟨g, fv, hB, _, _, _, hP⟩ := h.pieces
  have z0 : w.cell? ⟨B, 0, none⟩ = some (.slice (some ⟨g, 0, none⟩) (tK l.length) (tK l.length)) := by simp [World.cell?, hB]
  obtain ⟨b, off, lv, rv, hb, hbw, c0, _, r0, _⟩ := hP.atP (j := i) (by simpa using hi) rfl
  simp only [Option.some.injEq, Addr.mk.injEq, and_true] at hb
  obtain ⟨rfl, rfl⟩ := hb
  simp only [List.getElem_map, List.getElem_range, Nat.zero_add] at c0 r0
  have hC := cmp_any lv kv (tLast l i) key w r0 hR
  obtain ⟨la, lc, rfl, hlm⟩ := r0.form
  obtain ⟨ka, kc, rfl, hkm⟩ := hR.form
  unfold maxLen at hlm hkm
  have hK : tK l.length ≤ 256 := by have := h.ok.n; unfold tK; omega
  obtain ⟨K, HK⟩ : ∃ n, Hid (tK l.length = n) := ⟨_, rfl⟩
  rw [HK.out] at z0 hi hK
  obtain ⟨LL, HLL⟩ : ∃ n, Hid ((tLast l i).length = n) := ⟨_, rfl⟩
  obtain ⟨KL, HKL⟩ : ∃ n, Hid (key.length = n) := ⟨_, rfl⟩
  rw [HLL.out] at c0 hC hlm
  rw [HKL.out] at hy hC hkm
  obtain ⟨C, HC⟩ := hid_ex (Lib.compareBytes (tLast l i) key)
  rw [← HC.out] at hC
  have HE : Hid (pS l key i = decide (0 ≤ C)) := by unfold Hid pS; rw [HC.out]
  have hi' : (i : Int) < (K : Int) := by omega
  have HCm : Hid (∀ n, Calls Try.prog 49 #[.slice la LL lc, .slice ka KL kc] (w.drewN n) fun e w' => e = .returned (.int .i64 C) ∧ w' = w.drewN n) := fun n => by
    have := cmp_any (.slice la LL lc) (.slice ka KL kc) (tLast l i) key (w.drewN n) (by rw [← HLL.out]; exact r0.below (below_drewN (Below.refl _ _) _)) (by rw [← HKL.out]; exact hR.below (below_drewN (Below.refl _ _) _))
    rw [← HC.out] at this
    exact this
  clear hB hP hbw hR hC h r0
  go_enter Try.func79, Try.ntmps79
  go_wp2_with fail
  go_quiet ((go_at_call 49; exact Calls.quiet_of_same (HCm.out _)))
  go_wp2_with fail
  go_ret
  exact ⟨by rw [HE.out]; rfl, below_drewN (Below.refl _ _) _⟩
/-- Seek: a bound that is no count tells nothing. -/
theorem tseek_no (p : Option Addr) (a : Option Addr) (n c : Nat) (m : Int) (hm : m < 1) (w : World) : Calls Try.prog 44 #[.pointer p, .slice a n c, .int .i64 m] w (FiP w []) := by
  cases p with
  | none =>
    go_enter Try.func44, Try.ntmps44
    go_wp2_with fail
    go_ret
    exact FiP.of (xs := []) rfl (TOwn.nil _ _) (((Below.refl _ _).alloc (Nat.le_refl _) _).alloc (by simp) _)
  | some p =>
    have hp : (decide (some p = (none : Option Addr))) = false := by simp
    go_enter Try.func44, Try.ntmps44
    go_wp2_with fail
    go_ret
    exact FiP.of (xs := []) rfl (TOwn.nil _ _) (((Below.refl _ _).alloc (Nat.le_refl _) _).alloc (by simp) _)
set_option maxRecDepth 100000 in
set_option maxHeartbeats 4000000 in
theorem tseek_any {w : World} {lo B : Nat} {l : List Et} (h : Tb w lo B l) (kv : Value) (key : List UInt8) (hR : Reads w kv key) (m : Nat) (hm0 : 1 ≤ m) (hm1 : m ≤ 9223372036854775807) :
    Calls Try.prog 44 #[.pointer (some ⟨B, 0, none⟩), kv, .int .i64 (m : Int)] w (FiP w (skT l key m)) := by
  obtain ⟨ka, kc, rfl, hkm⟩ := hR.form
  unfold maxLen at hkm
  obtain ⟨KL, HKL⟩ : ∃ n, Hid (key.length = n) := ⟨_, rfl⟩
  rw [HKL.out] at hR hkm ⊢
  have hm0' : ¬ (m : Int) < 1 := by omega
  obtain ⟨w1, HW1⟩ := hid_ex ((w.alloc (.cells #[.pointer (some ⟨B, 0, none⟩)] 30)).alloc (.cells #[.slice ka KL kc] 25))
  have hb1 : Below w.heap.size w w1 := by rw [HW1.out]; exact ((Below.refl _ _).alloc (Nat.le_refl _) _).alloc (by simp) _
  have HB1 : Hid (Below w.heap.size w w1) := hb1
  have HT1 : Hid (Tb w1 lo B l) := h.below hb1
  have HK1 : Hid (Reads w1 (.slice ka KL kc) key) := hR.below hb1
  have HX1 : Hid (Boxed w1 w.heap.size 30 (.pointer (some ⟨B, 0, none⟩))) := by unfold Hid; rw [HW1.out]; exact (Boxed.new w _ _).alloc _
  have HY1 : Hid (Boxed w1 (w.heap.size + 1) 25 (.slice ka KL kc)) := by
    unfold Hid; rw [HW1.out]
    have := Boxed.new (w.alloc (.cells #[.pointer (some ⟨B, 0, none⟩)] 30)) 25 (.slice ka KL kc)
    rw [World.size_alloc] at this
    exact this
  obtain ⟨g, fv, hB, _, _, _, _⟩ := HT1.out.pieces
  have z0 : w1.cell? ⟨B, 0, none⟩ = some (.slice (some ⟨g, 0, none⟩) (tK l.length) (tK l.length)) := by simp [World.cell?, hB]
  have hx1 := HX1.out.cell
  have hy1 := HY1.out.cell
  have HSe : Hid (Calls Try.prog 78 #[.int .i64 ((tK l.length : Nat) : Int), .func (.func 79) #[] #[.pointer (some ⟨w.heap.size, 0, none⟩), .pointer (some ⟨w.heap.size + 1, 0, none⟩)]] w1 _) :=
    search_any (tK l.length) (by have := h.ok.n; unfold tK; omega) _ _ (pS l key) w1 (fun i W hi hb => seek1_any (HT1.out.below hb) _ _ _ key (HK1.out.below hb) ((hb.cell (p := ⟨w.heap.size, 0, none⟩) HX1.out.lt).trans hx1) ((hb.cell (p := ⟨w.heap.size + 1, 0, none⟩) HY1.out.lt).trans hy1) i hi) (pS_mono h.ok key)
  have hK : tK l.length ≤ 256 := by have := h.ok.n; unfold tK; omega
  obtain ⟨KK, HK⟩ : ∃ n, Hid (tK l.length = n) := ⟨_, rfl⟩
  rw [HK.out] at z0 HSe hK
  have HOk : Hid (TOk l ∧ ∀ x ∈ l, AgOk x.2) := ⟨h.ok, h.ag⟩
  clear h hR hb1 hB
  go_enter Try.func44, Try.ntmps44
  have z1 := z0
  rw [HW1.out] at z1
  go_wp2_with fail
  rw [← HW1.out]
  refine HSe.out.mono ?_
  clear HSe z1 HW1
  rintro e w2 ⟨r, rfl, hr, hr1, _, hb2⟩
  have HB2 : Hid (Below w.heap.size w w2.drew) := (HB1.out.trans (hb2.mono HB1.out.size)).drew
  have HT2 : Hid (Tb w2.drew lo B l) := (HT1.out.below hb2).below (Below.refl _ _).drew
  have HK2 : Hid (Reads w2.drew (.slice ka KL kc) key) := (HK1.out.below hb2).below (Below.refl _ _).drew
  have HX2 : Hid (Boxed w2.drew w.heap.size 30 (.pointer (some ⟨B, 0, none⟩))) := (hb2.block _ HX1.out.lt).trans HX1.out
  have HY2 : Hid (Boxed w2.drew (w.heap.size + 1) 25 (.slice ka KL kc)) := (hb2.block _ HY1.out.lt).trans HY1.out
  have hc0 : w2.drew.cell? ⟨B, 0, none⟩ = some (.slice (some ⟨g, 0, none⟩) KK KK) := (hb2.cell (p := ⟨B, 0, none⟩) (cell_block z0).1).trans z0
  obtain ⟨g', fv', hB', _, _, _, hP⟩ := HT2.out.pieces
  have hg : g' = g := by
    have : w2.drew.cell? ⟨B, 0, none⟩ = some (.slice (some ⟨g', 0, none⟩) (tK l.length) (tK l.length)) := by simp [World.cell?, hB']
    rw [this] at hc0
    simp only [Option.some.injEq, Value.slice.injEq, Addr.mk.injEq, and_true] at hc0
    exact hc0.1
  subst hg
  obtain ⟨PL, HPL⟩ := hid_ex ((List.range (tK l.length)).map fun j => (tLast l j, tRow l j))
  have HPl : Hid (PL.length = KK) := by unfold Hid; rw [HPL.out, List.length_map, List.length_range, HK.out]
  have HPr : Hid ((PL.drop r).map (·.2) = (tRows l).drop r) := by unfold Hid; rw [HPL.out, List.map_drop, List.map_map]; rfl
  have HPb : Hid (∀ x ∈ PL, x.2.length ≤ 1000000) := fun x hx => by
    rw [HPL.out] at hx
    obtain ⟨j, _, rfl⟩ := List.mem_map.1 hx
    have := tRow_len HOk.out.1 j
    show (tRow l j).length ≤ _; omega
  rw [← HPL.out, HK.out] at hP
  have hD := hP.drop (c := r) hr
  have hgr := take_rows HOk.out.1 HOk.out.2 r (by rw [HK.out]; exact hr) key hr1
  have hsl : ∀ w', (Instr.slice 71 (.slice (some ⟨g', 0, none⟩) KK KK) (some (.int .i64 (r : Int))) none none).run Try.prog w' = .ok (Go.sliced (some ⟨g', 0, none⟩) r KK KK 2) w' := fun w' => by
    rw [run_slice_l _ _ _ _ _ undTp _ _ (by omega) (by omega), elemTp, sizeTp]; rfl
  have HFi := first_any _ _ (.slice ka KL kc) key m w2.drew hD HK2.out hm0 hm1 (by rw [List.length_drop, HPl.out]; omega) (fun x hx => HPb.out x (List.mem_of_mem_drop hx)) (by
    rw [HPr.out, hgr]
    have := geF_le key l
    have := HOk.out.1.n
    omega)
  rw [show firF ((PL.drop r).map (·.2)) key m = skT l key m from by unfold firF skT; rw [HPr.out, hgr]] at HFi
  have HFi' : Hid (Calls Try.prog 33 #[Go.sliced (some ⟨g', 0, none⟩) r KK KK 2, .slice ka KL kc, .int .i64 (m : Int)] w2.drew _) := HFi
  obtain ⟨sa, sn, sc, hs⟩ : ∃ a n c, Go.sliced (some ⟨g', 0, none⟩) r KK KK 2 = .slice a n c := ⟨_, _, _, rfl⟩
  rw [hs] at HFi' hsl
  have hx2 := HX2.out.cell
  have hy2 := HY2.out.cell
  obtain ⟨SK, HSK⟩ := hid_ex (skT l key m)
  rw [← HSK.out] at HFi'
  clear HFi hD hP hB' hs hb2 hr1 hgr HT1 HK1 HX1 HY1 HB1 z0 hx1 hy1 HPL HPl HPr HPb
  go_wp2_with fail
  refine wp_region_noPanic ?_
  refine wp_region_held_drew (S := fun w' => w'.cell? ⟨w.heap.size, 0, none⟩ = some (.pointer (some ⟨B, 0, none⟩)) ∧ w'.cell? ⟨w.heap.size + 1, 0, none⟩ = some (.slice ka KL kc) ∧ w'.cell? ⟨B, 0, none⟩ = some (.slice (some ⟨g', 0, none⟩) KK KK)) (by kernel_rfl) ?_ (fun hHeld => ?_)
  · exact ⟨hx2, hy2, hc0⟩
  refine tk (i := 0) (v := .pointer (some ⟨B, 0, none⟩)) rfl ?_ ?_
  · intro w1 hSw; go_simp
  simp only [za, zc, Act.put, zd, ze, zf]
  refine tk (i := 1) (v := .pointer (some ⟨B, 0, none⟩)) rfl ?_ ?_
  · intro w1 hSw; go_simp
  simp only [za, zb, zc, Act.put, zd, ze, zf]
  refine tk (i := 2) (v := .pointer (some ⟨B, 0, none⟩)) rfl ?_ ?_
  · intro w1 hSw; go_simp
  simp only [za, zb, zc, Act.put, zd, ze, zf]
  refine tk (i := 3) (v := .pointer (some ⟨B, 0, none⟩)) rfl ?_ ?_
  · intro w1 hSw; go_simp
  simp only [za, zb, zc, Act.put, zd, ze, zf]
  refine tk (i := 4) (v := .slice (some ⟨g', 0, none⟩) KK KK) rfl ?_ ?_
  · intro w1 hSw; go_simp
  simp only [za, zb, zc, Act.put, zd, ze, zf]
  refine tk (i := 5) (v := .int .i64 (r : Int)) rfl ?_ ?_
  · intro w1 hSw; go_simp
  simp only [za, zb, zc, Act.put, zd, ze, zf]
  refine tk (i := 6) (v := .slice sa sn sc) rfl ?_ ?_
  · intro w1 hSw; go_simp
  simp only [za, zb, zc, Act.put, zd, ze, zf]
  refine tk (i := 7) (v := .slice ka KL kc) rfl ?_ ?_
  · intro w1 hSw; go_simp
  simp only [za, zb, zc, Act.put, zd, ze, zf]
  refine tk (i := 8) (v := .int .i64 (m : Int)) rfl ?_ ?_
  · intro w1 hSw; go_simp
  simp only [za, zb, zc, Act.put, zd, ze, zf]
  refine wpAnyH_ready (rs := [9]) (by kernel_rfl) (by simp) ?_
  refine AllReadyH.cons (o := _) rfl (fun K hK => ?_) AllReadyH.nil
  go_simp
  refine HFi'.out.mono ?_
  clear HFi'
  rintro e w3 ⟨v3, xs, rfl, hxs, hto, hb3⟩
  have HB3 : Hid (Below w.heap.size w w3) := HB2.out.trans (hb3.mono HB2.out.size)
  have HTo : Hid (TOwn w3 w.heap.size v3 xs) := hto.mono HB2.out.size
  obtain ⟨a3, c3, rfl, _⟩ := hto.form
  clear hto
  go_simp
  refine hK.out _ _ ?_ (fun hHeld => ?_)
  · exact ⟨(hb3.cell (p := ⟨w.heap.size, 0, none⟩) HX2.out.lt).trans hx2, (hb3.cell (p := ⟨w.heap.size + 1, 0, none⟩) HY2.out.lt).trans hy2, (hb3.cell (p := ⟨B, 0, none⟩) (cell_block hc0).1).trans hc0⟩
  clear hK K
  refine tk (i := 10) (v := .slice a3 xs.length c3) rfl ?_ ?_
  · intro w1 hSw; go_simp
  simp only [za, zb, zc, Act.put, zd, ze, zf]
  refine wpAnyH_done (by kernel_rfl) ?_ _
  refine NoPanic.normal ?_
  go_wp2_with fail
  go_ret
  exact FiP.of (by rw [hxs, HSK.out]) HTo.out HB3.out
end Go.Proofs.Ytlpjdfgknmfmnaa

/- table: Get, All of an open table. -/
namespace Go.Proofs.Ytlpjdfgknmfmnaa
open Go.RowKit

theorem tall_any {w : World} {lo B : Nat} {l : List Et} (h : Tb w lo B l) : Calls Try.prog 43 #[.pointer (some ⟨B, 0, none⟩)] w (FiP w l) := by
  have HL : Hid (Calls Try.prog 13 #[.pointer (some ⟨B, 0, none⟩)] w _) := tlen_any h
  have HS : Hid (Calls Try.prog 44 #[.pointer (some ⟨B, 0, none⟩), .slice none 0 0, .int .i64 (l.length : Int)] w (FiP w l)) := by
    by_cases h0 : l.length = 0
    · have e : l = [] := List.length_eq_zero_iff.1 h0
      rw [e]
      exact tseek_no _ _ _ _ _ (by simp) w
    · have hs := tseek_any h (.slice none 0 0) [] (.inl ⟨rfl, none, 0, rfl, fun _ => rfl⟩) l.length (by omega) (by have := h.ok.n; omega)
      have e : skT l [] l.length = l := by unfold skT; rw [geF_nil, List.take_length]
      rw [e] at hs
      exact hs
  obtain ⟨N, HN⟩ : ∃ n, Hid (l.length = n) := ⟨_, rfl⟩
  rw [HN.out] at HL HS
  clear h
  go_enter Try.func43, Try.ntmps43
  go_wp2_with fail
  refine HL.out.mono ?_
  rintro e w1 ⟨rfl, rfl⟩
  go_wp2_with fail
  refine HS.out.mono ?_
  rintro e w2 ⟨v, xs, rfl, h1, h2, h3⟩
  have H1 : Hid (xs.map Ee.e = l) := h1
  have H2 : Hid (TOwn w2 w1.heap.size v xs) := h2
  have H3 : Hid (Below w1.heap.size w1 w2) := h3
  clear h1 h2 h3
  go_wp2_with fail
  go_ret
  exact FiP.of H1.out H2.out H3.out
/-- Get, plainly. -/
def gtT (l : List Et) (key : List UInt8) : Option Ag := if tmyF l key = false then none else match skT l key 1 with | [] => none | x :: _ => if x.1 = key then some x.2 else none
def gtA (o : Option Ag) : Ag := o.getD aZ
theorem stW_full {w W : World} {g : Nat} {b0 : Array Value} {T : TypeId} {vs : List Value} (h : StW w W g 0 b0 T vs) (hb : b0.size = vs.length) : W.heap[g]? = some (.cells vs.toArray T) := by
  obtain ⟨cur, h1, h2, _, h4⟩ := h.c
  have e : cur = vs.toArray := by
    apply Array.ext (by simp; omega)
    intro i hi hj
    have := h4 i (by simpa using hj)
    rw [Nat.zero_add, Array.getElem?_eq_getElem hi] at this
    simpa using this
  rw [e] at h1
  exact h1
/-- What Get tells. -/
def GtP (w : World) (o : Option Ag) (e : Ending) (w' : World) : Prop := e = .returned (.tuple #[agV (gtA o), .bool o.isSome]) ∧ Below w.heap.size w w' ∧ AgOk (gtA o)
set_option maxRecDepth 100000 in
set_option maxHeartbeats 4000000 in
theorem tget_any {w : World} {lw B : Nat} {l : List Et} (h : Tb w lw B l) (kv : Value) (key : List UInt8) (hR : Reads w kv key) : Calls Try.prog 41 #[.pointer (some ⟨B, 0, none⟩), kv] w (GtP w (gtT l key)) := by
  obtain ⟨ka, kc, rfl, hkm⟩ := hR.form
  unfold maxLen at hkm
  obtain ⟨w1, HW1⟩ := hid_ex (w.alloc (.cells #[.int .u64 0, .bool false, .int .i64 0, .int .u64 0, .int .i64 0, .int .i64 0] 41))
  have hb1 : Below w.heap.size w w1 := by rw [HW1.out]; exact (Below.refl _ _).alloc (Nat.le_refl _) _
  have HB1 : Hid (Below w.heap.size w w1) := hb1
  have HX1 : Hid (w1.heap[w.heap.size]? = some (.cells #[.int .u64 0, .bool false, .int .i64 0, .int .u64 0, .int .i64 0, .int .i64 0] 41)) := by unfold Hid; rw [HW1.out]; exact heap_alloc_new _ _
  have HT1 : Hid (Tb w1 lw B l) := h.below hb1
  have HK1 : Hid (Reads w1 (.slice ka key.length kc) key) := hR.below hb1
  have HMy : Hid (Calls Try.prog 14 #[.pointer (some ⟨B, 0, none⟩), .slice ka key.length kc] w1 _) := tmay_any HT1.out _ key HK1.out
  obtain ⟨q, HQ⟩ := hid_ex (tmyF l key)
  rw [← HQ.out] at HMy
  have HG : Hid (gtT l key = if q = false then none else match skT l key 1 with | [] => none | x :: _ => if x.1 = key then some x.2 else none) := by unfold Hid gtT; rw [HQ.out]
  obtain ⟨R, HR⟩ := hid_ex (gtT l key)
  rw [← HR.out] at HG ⊢
  obtain ⟨KL, HKL⟩ : ∃ n, Hid (key.length = n) := ⟨_, rfl⟩
  rw [HKL.out] at HMy hkm HK1 ⊢
  clear h hR hb1 HR
  go_enter Try.func41, Try.ntmps41
  go_wp2_with fail
  rw [← HW1.out]
  refine HMy.out.mono ?_
  clear HMy HW1
  rintro e w2 ⟨rfl, hb2⟩
  have HB2 : Hid (Below w.heap.size w w2) := HB1.out.trans (hb2.mono HB1.out.size)
  have HT2 : Hid (Tb w2 lw B l) := HT1.out.below hb2
  have HK2 : Hid (Reads w2 (.slice ka KL kc) key) := HK1.out.below hb2
  have HX2 : Hid (w2.heap[w.heap.size]? = some (.cells #[.int .u64 0, .bool false, .int .i64 0, .int .u64 0, .int .i64 0, .int .i64 0] 41)) := (hb2.block _ (Array.getElem?_eq_some_iff.1 HX1.out).1).trans HX1.out
  clear hb2 HB1 HT1 HK1 HX1
  cases q with
  | false =>
    have HRn : Hid (R = none) := by unfold Hid; rw [HG.out, if_pos rfl]
    go_wp2_with (refine stop_store 41 _ _ rfl ?_)
    refine Stop.of ?_
    refine wpList_storeN rfl _ _ _ rfl w.heap.size 0 [.int .u64 0, .bool false, .int .i64 0, .int .u64 0, .int .i64 0, .int .i64 0] rfl rfl _ _ HX2.out (by simp) (by kernel_rfl) (by kernel_rfl) ?_
    intro w3 hw3
    have HX3 : Hid (w3.heap[w.heap.size]? = some (.cells #[.int .u64 0, .bool false, .int .i64 0, .int .u64 0, .int .i64 0, .int .i64 0] 41)) := stW_full hw3 rfl
    have HB3 : Hid (Below w.heap.size w w3) := HB2.out.trans (hw3.b _ (Nat.le_refl _))
    clear hw3
    go_wp2_with fail
    rw [HRn.out]
    exact bodyPost_ret (res_rt rfl _ _ w.heap.size _ rfl (run_loadVar_row _ w.heap.size _ _ _ (0, 0) _ HX3.out Try.underlying41 rfl (by kernel_rfl))) rfl ⟨rfl, HB3.out, aZ_ok⟩
  | true =>
    have hSk := tseek_any HT2.out (.slice ka KL kc) key HK2.out 1 (by decide) (by decide)
    have HSk : Hid (Calls Try.prog 44 #[.pointer (some ⟨B, 0, none⟩), .slice ka KL kc, .int .i64 1] w2 (FiP w2 (skT l key 1))) := hSk
    have HG2 : Hid (R = match skT l key 1 with | [] => none | x :: _ => if x.1 = key then some x.2 else none) := by unfold Hid; rw [HG.out, if_neg (by simp)]
    have HS1 : Hid ((skT l key 1).length ≤ 1) := by unfold Hid skT; rw [List.length_take]; omega
    obtain ⟨S, HS⟩ := hid_ex (skT l key 1)
    rw [← HS.out] at HSk HG2 HS1
    clear hSk HG
    go_wp2_with fail
    refine HSk.out.mono ?_
    clear HSk
    rintro e w4 ⟨v4, xs, rfl, hxs, hto, hb4⟩
    have HB4 : Hid (Below w.heap.size w w4) := HB2.out.trans (hb4.mono HB2.out.size)
    have HK4 : Hid (Reads w4 (.slice ka KL kc) key) := HK2.out.below hb4
    have HX4 : Hid (w4.heap[w.heap.size]? = some (.cells #[.int .u64 0, .bool false, .int .i64 0, .int .u64 0, .int .i64 0, .int .i64 0] 41)) := (hb4.block _ (Array.getElem?_eq_some_iff.1 HX2.out).1).trans HX2.out
    have hTr := hto.reads
    obtain ⟨a4, c4, rfl, _⟩ := hto.form
    have hl1 : xs.length ≤ 1 := by have := HS1.out; rw [← hxs, List.length_map] at this; exact this
    clear hb4 HB2 HT2 HK2 HX2 hto
    cases xs with
    | nil =>
      have HRn : Hid (R = none) := by unfold Hid; rw [HG2.out, ← hxs]; rfl
      simp only [List.length_nil]
      go_wp2_with (refine stop_store 41 _ _ rfl ?_)
      refine Stop.of ?_
      refine wpList_storeN rfl _ _ _ rfl w.heap.size 0 [.int .u64 0, .bool false, .int .i64 0, .int .u64 0, .int .i64 0, .int .i64 0] rfl rfl _ _ HX4.out (by simp) (by kernel_rfl) (by kernel_rfl) ?_
      intro w5 hw5
      have HX5 : Hid (w5.heap[w.heap.size]? = some (.cells #[.int .u64 0, .bool false, .int .i64 0, .int .u64 0, .int .i64 0, .int .i64 0] 41)) := stW_full hw5 rfl
      have HB5 : Hid (Below w.heap.size w w5) := HB4.out.trans (hw5.b _ (Nat.le_refl _))
      clear hw5
      go_wp2_with fail
      rw [HRn.out]
      exact bodyPost_ret (res_rt rfl _ _ w.heap.size _ rfl (run_loadVar_row _ w.heap.size _ _ _ (0, 0) _ HX5.out Try.underlying41 rfl (by kernel_rfl))) rfl ⟨rfl, HB5.out, aZ_ok⟩
    | cons x xs =>
      have hxe : xs = [] := by cases xs with | nil => rfl | cons y ys => simp at hl1
      subst hxe
      obtain ⟨xv, ⟨xk, xA⟩⟩ := x
      have HSx : Hid (S = [(xk, xA)]) := by unfold Hid; rw [← hxs]; rfl
      simp only [List.map_cons, List.map_nil] at hTr
      obtain ⟨b, off, kv', rfl, hbw, hcs, hrk, hag⟩ := hTr.at (j := 0) (by simp) rfl
      simp only [Nat.zero_mul, Nat.add_zero] at hcs
      simp only [List.getElem_cons_zero] at hcs hrk hag
      obtain ⟨ea, ec, rfl, _⟩ := hrk.form
      have HEq : Hid (Calls Try.prog 34 #[.slice ea xk.length ec, .slice ka KL kc] w4 _) := equal_any _ _ xk key w4 hrk HK4.out
      obtain ⟨EL, HEL⟩ : ∃ n, Hid (xk.length = n) := ⟨_, rfl⟩
      rw [HEL.out] at hcs HEq
      have c0 := hcs 0 (by decide)
      have c1 := hcs 1 (by decide)
      have c2 := hcs 2 (by decide)
      have c3 := hcs 3 (by decide)
      have c4 := hcs 4 (by decide)
      have c5 := hcs 5 (by decide)
      have c6 := hcs 6 (by decide)
      simp only [e7, List.getElem_cons_succ, List.getElem_cons_zero, Nat.add_zero] at c0 c1 c2 c3 c4 c5 c6
      have HAg : Hid (AgOk xA) := hag
      simp only [List.length_cons, List.length_nil, Nat.zero_add]
      by_cases hk : xk = key
      · have HRn : Hid (R = some xA) := by unfold Hid; rw [HG2.out, HSx.out]; simp [hk]
        rw [decide_eq_true hk] at HEq
        clear hcs hrk hag hk hTr hxs hl1 HSx HG2
        go_wp2_with fail
        refine HEq.out.mono ?_
        clear HEq
        rintro e w5 ⟨rfl, rfl⟩
        have HOn : Hid (([.int .u64 xA.c, .bool xA.o, .int .i64 (hi xA.s), .int .u64 (lo xA.s), .int .i64 xA.mn, .int .i64 xA.mx] : List Value).toArray.all (·.oneCell') = true) := by unfold Hid; kernel_rfl
        go_wp2_with (refine stop_store 41 _ _ rfl ?_)
        refine Stop.of ?_
        refine wpList_storeN rfl _ _ _ rfl w.heap.size 0 [.int .u64 xA.c, .bool xA.o, .int .i64 (hi xA.s), .int .u64 (lo xA.s), .int .i64 xA.mn, .int .i64 xA.mx] rfl rfl _ _ HX4.out (by simp) (by kernel_rfl) HOn.out ?_
        intro w6 hw6
        have HX6 : Hid (w6.heap[w.heap.size]? = some (.cells #[.int .u64 xA.c, .bool xA.o, .int .i64 (hi xA.s), .int .u64 (lo xA.s), .int .i64 xA.mn, .int .i64 xA.mx] 41)) := stW_full hw6 rfl
        have HB6 : Hid (Below w.heap.size w w6) := HB4.out.trans (hw6.b _ (Nat.le_refl _))
        clear hw6
        go_wp2_with fail
        rw [HRn.out]
        exact bodyPost_ret (res_rt rfl _ _ w.heap.size _ rfl (run_loadVar_row _ w.heap.size _ _ _ (0, 0) _ HX6.out Try.underlying41 rfl (by kernel_rfl))) rfl ⟨rfl, HB6.out, HAg.out⟩
      · have HRn : Hid (R = none) := by unfold Hid; rw [HG2.out, HSx.out]; simp [hk]
        rw [decide_eq_false hk] at HEq
        clear hcs hrk hag hk hTr hxs hl1 HSx HG2
        go_wp2_with fail
        refine HEq.out.mono ?_
        clear HEq
        rintro e w6 ⟨rfl, rfl⟩
        go_wp2_with (refine stop_store 41 _ _ rfl ?_)
        refine Stop.of ?_
        refine wpList_storeN rfl _ _ _ rfl w.heap.size 0 [.int .u64 0, .bool false, .int .i64 0, .int .u64 0, .int .i64 0, .int .i64 0] rfl rfl _ _ HX4.out (by simp) (by kernel_rfl) (by kernel_rfl) ?_
        intro w7 hw7
        have HX7 : Hid (w7.heap[w.heap.size]? = some (.cells #[.int .u64 0, .bool false, .int .i64 0, .int .u64 0, .int .i64 0, .int .i64 0] 41)) := stW_full hw7 rfl
        have HB7 : Hid (Below w.heap.size w w7) := HB4.out.trans (hw7.b _ (Nat.le_refl _))
        clear hw7
        go_wp2_with fail
        rw [HRn.out]
        exact bodyPost_ret (res_rt rfl _ _ w.heap.size _ rfl (run_loadVar_row _ w.heap.size _ _ _ (0, 0) _ HX7.out Try.underlying41 rfl (by kernel_rfl))) rfl ⟨rfl, HB7.out, aZ_ok⟩
end Go.Proofs.Ytlpjdfgknmfmnaa

/- law10: Great. -/
namespace Go.Proofs.Ytlpjdfgknmfmnaa
open Go.RowKit

end Go.Proofs.Ytlpjdfgknmfmnaa
