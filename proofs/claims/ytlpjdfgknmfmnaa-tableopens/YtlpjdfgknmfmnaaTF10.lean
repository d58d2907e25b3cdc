/- B4 B5 B6 LR, joined. -/
import Derived.Test.YtlpjdfgknmfmnaaTF4
import Derived.Test.YtlpjdfgknmfmnaaTF9
import Derived.Laws.OwnMore
import Derived.Lib.SmallJoins
import Derived.Deep.Slices
/- The contract of a filter's May. -/
namespace Go.Proofs.Ytlpjdfgknmfmnaa
open Go.RowKit Go.Shelf
attribute [local go_sem] Oper.semAt_some

/-- What May knows between two rounds. -/
def IMay (w : World) (B : Nat) (D : List UInt8) (pre : List Nat) (W : World) : Prop := Boxed W w.heap.size 78 (.pointer (some ⟨B, 0, none⟩)) ∧ Boxed W (w.heap.size + 1) 4 (.bool false) ∧ Below w.heap.size w W ∧ ∀ p ∈ pre, gb D p = true
def XMay (w : World) (D : List UInt8) (c : Code) (pre : List Nat) (W : World) : Prop := c = .ret ∧ Boxed W (w.heap.size + 1) 4 (.bool false) ∧ Below w.heap.size w W ∧ ∃ p ∈ pre, gb D p = false
theorem four_boxes (w : World) (v1 v2 v3 v4 : Value) (t1 t2 t3 t4 : TypeId) :
    Hid (Below w.heap.size w ((((w.alloc (.cells #[v1] t1)).alloc (.cells #[v2] t2)).alloc (.cells #[v3] t3)).alloc (.cells #[v4] t4))) ∧
    Hid (Boxed ((((w.alloc (.cells #[v1] t1)).alloc (.cells #[v2] t2)).alloc (.cells #[v3] t3)).alloc (.cells #[v4] t4)) w.heap.size t1 v1) ∧
    Hid (Boxed ((((w.alloc (.cells #[v1] t1)).alloc (.cells #[v2] t2)).alloc (.cells #[v3] t3)).alloc (.cells #[v4] t4)) (w.heap.size + 1) t2 v2) ∧
    Hid (Boxed ((((w.alloc (.cells #[v1] t1)).alloc (.cells #[v2] t2)).alloc (.cells #[v3] t3)).alloc (.cells #[v4] t4)) (w.heap.size + 1 + 1) t3 v3) ∧
    Hid (Boxed ((((w.alloc (.cells #[v1] t1)).alloc (.cells #[v2] t2)).alloc (.cells #[v3] t3)).alloc (.cells #[v4] t4)) (w.heap.size + 1 + 1 + 1) t4 v4) := by
  refine ⟨((((Below.refl _ w).alloc (Nat.le_refl _) _).alloc (by simp) _).alloc (by simp; omega) _).alloc (by simp; omega) _, (((Boxed.new w _ _).alloc _).alloc _).alloc _, ?_, ?_, ?_⟩
  · have := ((Boxed.new (w.alloc (.cells #[v1] t1)) t2 v2).alloc (.cells #[v3] t3)).alloc (.cells #[v4] t4)
    rw [World.size_alloc] at this; exact this
  · have := (Boxed.new ((w.alloc (.cells #[v1] t1)).alloc (.cells #[v2] t2)) t3 v3).alloc (.cells #[v4] t4)
    rw [World.size_alloc, World.size_alloc] at this; exact this
  · have := Boxed.new (((w.alloc (.cells #[v1] t1)).alloc (.cells #[v2] t2)).alloc (.cells #[v3] t3)) t4 v4
    rw [World.size_alloc, World.size_alloc, World.size_alloc] at this; exact this
theorem results_box {fn : Func} {p : Tmp} {ty : TypeId} (h : fn.results = #[.cell p ty]) (tmps : Array Value) (w : World) (a : Addr) (v : Value)
    (hp : tmps.getD p undef = .pointer (some a)) (hc : w.cell? a = some v) (hag : (isAgg ty).run Try.prog w = .ok false w) : (results fn tmps).run Try.prog w = .ok v w := by
  have hp' : tmps[p]?.getD undef = .pointer (some a) := by simpa using hp
  simp [results, h, hp', asAddr, loadVar, go_sem, hag, hc]
theorem and8 (a : UInt8) (x : Nat) : bits .and .u8 ((a.toNat : Int) / 2 ^ (x % 8)) 1 = if a.toNat.testBit (x % 8) then 1 else 0 := by
  have e : ((a.toNat : Int) / 2 ^ (x % 8)) = ((a.toNat / 2 ^ (x % 8) : Nat) : Int) := by rw [Int.natCast_ediv, Int.natCast_pow]; rfl
  have hl : a.toNat / 2 ^ (x % 8) < 256 := Nat.lt_of_le_of_lt (Nat.div_le_self _ _) a.toNat_lt
  have := u8_and_nat _ 1 hl (by decide)
  rw [e]
  refine this.trans ?_
  rw [Nat.and_one_is_mod, Nat.testBit_eq_decide_div_mod_eq]
  rcases Nat.mod_two_eq_zero_or_one (a.toNat / 2 ^ (x % 8)) with h | h <;> simp [h]
set_option maxRecDepth 100000 in
set_option maxHeartbeats 2000000 in
theorem may_in (n : Nat) (hn : 5 ≤ n) (v kv : Value) (h : Nat) (D key : List UInt8) (w : World) (base : Nat) (hF : Fil w base v h D) (hR : Reads w kv key) :
    CallsIn Fence.wide n Try.prog 47 #[v, kv] w fun e W' => e = .returned (.bool (myF D (plc key (8 * D.length) h))) ∧ Below w.heap.size w W' := by
  have h1 : 1 ≤ n := by omega
  obtain ⟨ak, capk, rfl, _⟩ := hR.form
  obtain ⟨B, g, cap, rfl, hB, hc, hO, hBg, hh1, hh8, hD0, hD1⟩ := id hF
  have HF : Hid (Fil w base (.pointer (some ⟨B, 0, none⟩)) h D) := hF
  have HR : Hid (Reads w (.slice ak key.length capk) key) := hR
  have HC : Hid (w.heap[B]? = some (.cells #[.int .i64 (h : Int), .slice (some ⟨g, 0, none⟩) D.length cap] 125)) := hc
  have HO : Hid (Own w base (.slice (some ⟨g, 0, none⟩) D.length cap) D) := hO
  clear hF hR hc hO
  refine callsIn_of_wp_marks Try.func47 rfl trivial ?_ rfl
  simp only [Try.ntmps47, List.size_toArray, List.length_cons, List.length_nil, Nat.reduceAdd, Nat.reduceSub, Array.replicate_succ, Array.replicate_zero, List.push_toArray, List.append_toArray, List.nil_append, List.cons_append]
  gi_wp2_with fail
  refine ⟨trivial, ?_⟩
  refine (callsIn_wide.2 (made_any (HF.out.below (((Below.refl _ _).alloc (Nat.le_refl _) _).alloc (by simp) _)))).mono ?_
  rintro e w' ⟨rfl, hw⟩
  subst w'
  gi_wp2_with fail
  refine ⟨trivial, ?_⟩
  refine (places_in _ _ _ _ _ _).mono ?_
  rintro e w' ⟨rfl, rfl⟩
  simp only [World.size_alloc]
  gi_wp2_with fail
  obtain ⟨HB0, HX0, HX1, HX2, HX3⟩ := four_boxes w (.pointer (some ⟨B, 0, none⟩)) (.bool false) (.pointer (some ⟨B, 0, none⟩)) (.slice ak key.length capk) 78 4 78 25
  refine wpIn_range_x rfl h1 (gf := 98) (lb := #[.pointer (some ⟨w.heap.size + 1 + 1, 0, none⟩), .pointer (some ⟨w.heap.size + 1 + 1 + 1, 0, none⟩)]) rfl trivial (enters_of Try.func98 (by kernel_rfl) rfl) (encs := encP) (fun _ => rfl) (IMay w B D) (XMay w D) (PreP_B key (8 * D.length) h) (fun xs => xs = plc key (8 * D.length) h) (fun xs => ∃ k, k ≤ h ∧ xs = plc key (8 * D.length) k) w.heap.size HB0.out.size
    (fun l J Jx W hK hn₀ hJ _ hY h0 => (places1_in (n - 1) (by omega) l (w.heap.size + 1 + 1) (w.heap.size + 1 + 1 + 1) B h _ _ D key hD0 hD1 hh8 w.heap.size J Jx W hn₀ hJ hY (boxed_kc_B HX2.out hK).cell (boxed_kc_B HX3.out hK).cell
      (cell_of (hK.c _ _ _ _ ((HB0.out.block B (Array.getElem?_eq_some_iff.1 HC.out).1).trans HC.out)) 0 (by simp)) (cell_of (hK.c _ _ _ _ ((HB0.out.block B (Array.getElem?_eq_some_iff.1 HC.out).1).trans HC.out)) 1 (by simp)) ((HO.out.reads.below HB0.out).kcB hK) ((HR.out.below HB0.out).kcB hK) h0).mono ?_)
    (fun pre _ _ hI hk => ⟨boxed_kc_B hI.1 hk, boxed_kc_B hI.2.1 hk, hI.2.2.1.trans hk.b, hI.2.2.2⟩) (fun _ _ _ _ hI hk => ⟨hI.1, boxed_kc_B hI.2.1 hk, hI.2.2.1.trans hk.b, hI.2.2.2⟩) (fun _ _ _ _ hp _ => hp) ⟨HX0.out, HX1.out, HB0.out, fun _ h => by cases h⟩
    (fun x => { tmps := #[.pointer (some ⟨B, 0, none⟩), .slice ak key.length capk, .pointer (some ⟨w.heap.size, 0, none⟩), undef, .pointer (some ⟨w.heap.size + 1, 0, none⟩), .int .u32 (x : Int), .pointer (some ⟨B, 0, none⟩), .bool true, .bool false, .pointer (some ⟨B, 0, none⟩), .slice ak key.length capk, .func (.func 98) #[] #[.pointer (some ⟨w.heap.size + 1 + 1, 0, none⟩), .pointer (some ⟨w.heap.size + 1 + 1 + 1, 0, none⟩)], .int .u32 (x : Int), undef, undef, undef, undef, undef, undef, undef, undef, undef, undef, undef, undef, undef], defers := [] }) ?assign ?body ?done ?left
  · rintro e W' ⟨hv, hJ | hX⟩
    · exact ⟨hv, .inl ⟨_, rfl, hJ⟩⟩
    · exact ⟨hv, .inr hX⟩
  case assign =>
    intro l x W K hK
    dsimp only [encP]
    gi_wp2
    exact hK
  case body =>
    rintro l pre x W ⟨hX0, hX1, hBW, hall⟩ ⟨hp1, hp2, hp3⟩ hnW
    have hx : x < 8 * D.length := by rw [hp2]; exact Nat.mod_lt _ (by omega)
    have HCW : Hid (W.heap[B]? = some (.cells #[.int .i64 (h : Int), .slice (some ⟨g, 0, none⟩) D.length cap] 125)) := (hBW.block B (Array.getElem?_eq_some_iff.1 HC.out).1).trans HC.out
    have HOW : Hid (Own W base (.slice (some ⟨g, 0, none⟩) D.length cap) D) := HO.out.below hBW
    have hc0 := hX0.cell
    have hc1 := cell_of HCW.out 1 (by simp)
    simp at hc1
    have hj : x / 8 < D.length := by omega
    obtain ⟨hc2, _⟩ := HOW.out.at (x / 8) hj
    unfold bc at hc2
    have hb2 : D[x / 8].toNat < 256 := D[x / 8].toNat_lt
    have q1 : ((x : Int) / 8).toNat = x / 8 := by omega
    have q2 : ((x : Int) % 8).toNat = x % 8 := by omega
    have q3 : 0 ≤ (x : Int) / 8 := by omega
    have q4 : (x : Int) / 8 < (D.length : Int) := by omega
    have q5 := and8 D[x / 8] x
    have hc4 := hX1.cell
    have hf4 := hX1.frozen
    have HG : Hid (gb D x = D[x / 8].toNat.testBit (x % 8)) := by unfold Hid gb; simp [List.getD, hj]
    clear hp1 hp2 hp3
    cases hbit : D[x / 8].toNat.testBit (x % 8)
    · rw [hbit] at q5
      simp only [Bool.false_eq_true, if_false] at q5
      gi_wp2
      exact ⟨KeepsOthers.setCell _ _ _, rfl, hX1.set _, hBW.trans ((Below.refl _ _).setCell (by simp) _), x, by simp, by rw [HG.out]; exact hbit⟩
    · rw [hbit] at q5
      simp only [if_true] at q5
      gi_wp2
      refine ⟨KeepsOthers.refl _, Below.refl _ _, hX0, hX1, hBW, fun p hp => ?_⟩
      rcases List.mem_append.1 hp with hp | hp
      · exact hall p hp
      · simp at hp; subst hp; rw [HG.out]; exact hbit
  case done =>
    rintro D' ys W hD hS ⟨hX0, hX1, hBW, hall⟩ hK
    subst hS
    have hc4 := hX1.cell
    have hf4 := hX1.frozen
    gi_wp2
    have hK2 : (W.setCell ⟨w.heap.size + 1, 0, none⟩ (.bool true)).heap[D']? = some (.deferred (some [])) := (KeepsOthers.setCell W ⟨w.heap.size + 1, 0, none⟩ (.bool true)).same _ _ hK rfl
    refine ⟨by simp, .inl ⟨_, _, rfl, run_takeDeferred hK2, ?_⟩⟩
    have hsz := HB0.out.size
    have hpk := Kc.put (n := w.heap.size) (.deferred none) hK2 rfl (by omega)
    refine ⟨_, results_box rfl _ _ ⟨w.heap.size + 1, 0, none⟩ (.bool true) rfl (boxed_kc_B (hX1.set (.bool true)) hpk).cell (by simp [isAgg, go_sem]), ?_, (hBW.trans ((Below.refl _ _).setCell (by simp) _)).trans hpk.b⟩
    have : myF D (plc key (8 * D.length) h) = true := List.all_eq_true.2 hall
    rw [this]
  case left =>
    rintro D' ys c W hD ⟨k, hk, rfl⟩ ⟨rfl, hX1, hBW, hex⟩ hK
    have hc4 := hX1.cell
    gi_wp2
    refine ⟨by simp, .inl ⟨_, _, rfl, run_takeDeferred hK, ?_⟩⟩
    have hsz := HB0.out.size
    have hpk := Kc.put (n := w.heap.size) (.deferred none) hK rfl (by omega)
    refine ⟨_, results_box rfl _ _ ⟨w.heap.size + 1, 0, none⟩ (.bool false) rfl (boxed_kc_B hX1 hpk).cell (by simp [isAgg, go_sem]), ?_, hBW.trans hpk.b⟩
    have : myF D (plc key (8 * D.length) h) = false := by
      obtain ⟨p, hp, hg⟩ := hex
      rw [← plc_take _ _ _ _ hk] at hp
      exact List.all_eq_false.2 ⟨p, List.mem_of_mem_take hp, by simp [hg]⟩
    rw [this]
end Go.Proofs.Ytlpjdfgknmfmnaa

/- The contracts of bloom's New and Fit, and of a filter that no call made. -/
namespace Go.Proofs.Ytlpjdfgknmfmnaa
open Go.RowKit

theorem add_any_B (v kv : Value) (h : Nat) (D key : List UInt8) (w : World) (base : Nat) (hbase : base ≤ w.heap.size) (hF : Fil w base v h D) (hR : Reads w kv key) :
    Calls Try.prog 59 #[v, kv] w fun e W' => e = .returned (.int .i64 0) ∧ Fil W' base v h (adF D (plc key (8 * D.length) h)) ∧ Below base w W' ∧ Kf v w W' := callsIn_wide.1 (add_in 5 (by decide) v kv h D key w base hbase hF hR)
theorem may_any (v kv : Value) (h : Nat) (D key : List UInt8) (w : World) (base : Nat) (hF : Fil w base v h D) (hR : Reads w kv key) :
    Calls Try.prog 47 #[v, kv] w fun e W' => e = .returned (.bool (myF D (plc key (8 * D.length) h))) ∧ Below w.heap.size w W' := callsIn_wide.1 (may_in 5 (by decide) v kv h D key w base hF hR)
theorem Fil.ptr {w : World} {base : Nat} {v : Value} {h : Nat} {D : List UInt8} (hf : Fil w base v h D) : ∃ B, v = .pointer (some ⟨B, 0, none⟩) := by obtain ⟨B, _, _, rfl, _⟩ := hf; exact ⟨B, rfl⟩
theorem Fil.facts {w : World} {base : Nat} {v : Value} {h : Nat} {D : List UInt8} (hf : Fil w base v h D) : 1 ≤ h ∧ h ≤ 8 ∧ 0 < D.length ∧ D.length ≤ 8192 := by obtain ⟨B, _, _, _, _, _, _, _, h1, h2, h3, h4⟩ := hf; exact ⟨h1, h2, h3, h4⟩
theorem mayHash_any (h : Int) (w : World) : Calls Try.prog 72 #[.int .i64 h] w fun e w' => e = .returned (.bool (decide (1 ≤ h ∧ h ≤ 8))) ∧ w' = w := by
  by_cases h1 : 1 ≤ h
  · by_cases h2 : h ≤ 8
    · have e : decide (1 ≤ h ∧ h ≤ 8) = true := by simp [h1, h2]
      rw [e]
      go_enter Try.func72, Try.ntmps72
      go_wp2_with fail
      go_ret
      exact ⟨rfl, rfl⟩
    · have e : decide (1 ≤ h ∧ h ≤ 8) = false := by simp [h2]
      rw [e]
      go_enter Try.func72, Try.ntmps72
      go_wp2_with fail
      go_ret
      exact ⟨rfl, rfl⟩
  · have e : decide (1 ≤ h ∧ h ≤ 8) = false := by simp [h1]
    rw [e]
    go_enter Try.func72, Try.ntmps72
    go_wp2_with fail
    go_ret
    exact ⟨rfl, rfl⟩
/-- What New and Read make: nothing, or a filter. -/
def newOk (d h : Int) : Prop := 8 ≤ d ∧ d ≤ 65536 ∧ d % 8 = 0 ∧ 1 ≤ h ∧ h ≤ 8
theorem fil_new {w : World} {base g cap : Nat} {D : List UInt8} (h : Nat) (ho : Own w base (.slice (some ⟨g, 0, none⟩) D.length cap) D) (h1 : 1 ≤ h) (h8 : h ≤ 8) (hd : 0 < D.length) (hd8 : D.length ≤ 8192) :
    Fil (w.alloc (.cells #[.int .i64 (h : Int), .slice (some ⟨g, 0, none⟩) D.length cap] 125)) base (.pointer (some ⟨w.heap.size, 0, none⟩)) h D := by
  have hlt := World.ownsRow.lt ho g rfl
  exact ⟨w.heap.size, g, cap, rfl, by omega, World.alloc_heap_new _ _, ho.alloc _, by omega, h1, h8, hd, hd8⟩
theorem fil_new' {w : World} {base g n cap : Nat} {D : List UInt8} (h : Nat) (ho : Own w base (.slice (some ⟨g, 0, none⟩) n cap) D) (hn : n = D.length) (h1 : 1 ≤ h) (h8 : h ≤ 8) (hd : 0 < n) (hd8 : n ≤ 8192) :
    Fil (w.alloc (.cells #[.int .i64 (h : Int), .slice (some ⟨g, 0, none⟩) n cap] 125)) base (.pointer (some ⟨w.heap.size, 0, none⟩)) h D := by
  subst hn; exact fil_new h ho h1 h8 hd hd8
theorem tupA {x y z u : Int} (h : x = y) : Ending.returned (.tuple #[.int .i64 x, .int .i64 z, .int .i64 u]) = .returned (.tuple #[.int .i64 y, .int .i64 z, .int .i64 u]) := by rw [h]
theorem new_ok (d h : Nat) (hok : newOk (8 * d) h) (w : World) : Calls Try.prog 58 #[.int .i64 (8 * (d : Int)), .int .i64 (h : Int)] w fun e w' => ∃ v, e = .returned (.tuple #[v, .int .i64 0]) ∧ Fil w' w.heap.size v h (List.replicate d 0) ∧ Below w.heap.size w w' := by
  obtain ⟨h1, h2, h3, h4, h5⟩ := hok
  have hh := mayHash_any h
  have e : decide (1 ≤ (h : Int) ∧ (h : Int) ≤ 8) = true := by simp; omega
  rw [e] at hh
  have HH : Hid _ := hh
  clear hh e
  have i1 : ¬ 8 * (d : Int) < 8 := by omega
  have i2 : ¬ (65536 : Int) < 8 * (d : Int) := by omega
  have hq : (8 * (d : Int)).tdiv 8 = (d : Int) := by rw [Int.mul_tdiv_cancel_left _ (by decide)]
  have hr : (8 * (d : Int)).tmod 8 = 0 := by rw [Int.mul_tmod_right]
  obtain ⟨i0, hi, hz0, hz1, hz2⟩ := info_parts info5
  obtain ⟨w2, hrn, hown2, hg2⟩ := run_make_full (P := Try.prog) w w.heap.size 25 5 i0 (.int .u8 0) 1 Try.underlying25 hi hz0 hz1 .i64 .i64 d (by rw [hz2]; omega) (by unfold maxLen; omega) (Nat.le_refl _)
  have HB2 : Hid (Below w.heap.size w w2) := (Below.refl _ _).grown hg2 (Nat.le_refl _) (fun k hk => by cases hk)
  have HO2 : Hid (Own w2 w.heap.size (.slice (some ⟨w.heap.size, 0, none⟩) d d) (List.replicate d 0)) := by
    have e0 : (Value.int .u8 0).cells = #[.int .u8 0] := rfl
    rw [e0, toList_madeCells_one] at hown2
    unfold Hid Own; simpa [bc] using hown2
  clear hown2 hg2
  go_enter Try.func58, Try.ntmps58
  go_wp2_with fail
  refine (HH.out _).mono ?_
  rintro e w' ⟨rfl, hw⟩
  subst w'
  go_wp2_with fail
  go_ret2
  have hs2 := HB2.out.size
  exact ⟨_, rfl, fil_new' h HO2.out (by simp) (by omega) (by omega) (by omega) (by omega), HB2.out.alloc hs2 _⟩
theorem new_no (d h : Int) (hno : ¬ newOk d h) (w : World) : Calls Try.prog 58 #[.int .i64 d, .int .i64 h] w fun e w' => e = .returned (.tuple #[.pointer none, .int .i64 1]) ∧ w' = w := by
  have hh := mayHash_any h
  by_cases h1 : d < 8
  · go_enter Try.func58, Try.ntmps58
    go_wp2_with fail
    go_ret2
    exact ⟨rfl, rfl⟩
  · by_cases h2 : 65536 < d
    · go_enter Try.func58, Try.ntmps58
      go_wp2_with fail
      go_ret2
      exact ⟨rfl, rfl⟩
    · have et : d.tmod 8 = d % 8 := Int.tmod_eq_emod_of_nonneg (by omega)
      by_cases h3 : d % 8 = 0
      · have e : decide (1 ≤ h ∧ h ≤ 8) = false := by
          simp only [decide_eq_false_iff_not]
          intro hx
          exact hno ⟨by omega, by omega, h3, hx.1, hx.2⟩
        rw [e] at hh
        have HH : Hid _ := hh
        clear hh e hno
        have h4 : d.tmod 8 = 0 := by omega
        go_enter Try.func58, Try.ntmps58
        go_wp2_with fail
        refine (HH.out _).mono ?_
        rintro e w' ⟨rfl, hw⟩
        subst w'
        go_wp2_with fail
        go_ret2
        exact ⟨rfl, rfl⟩
      · have h4 : ¬ d.tmod 8 = 0 := by omega
        clear hno hh et
        go_enter Try.func58, Try.ntmps58
        go_wp2_with fail
        go_ret2
        exact ⟨rfl, rfl⟩
theorem new_any (d h : Int) (w : World) : Calls Try.prog 58 #[.int .i64 d, .int .i64 h] w fun e w' =>
    (∃ v, e = .returned (.tuple #[v, .int .i64 0]) ∧ newOk d h ∧ Fil w' w.heap.size v h.toNat (List.replicate (d / 8).toNat 0) ∧ Below w.heap.size w w') ∨ (e = .returned (.tuple #[.pointer none, .int .i64 1]) ∧ ¬ newOk d h ∧ w' = w) := by
  by_cases hok : newOk d h
  · obtain ⟨h1, h2, h3, h4, h5⟩ := id hok
    have hd : d = 8 * ((d / 8).toNat : Int) := by omega
    have hhn : h = (h.toNat : Int) := by omega
    have := new_ok (d / 8).toNat h.toNat (by rw [← hd, ← hhn]; exact hok) w
    rw [← hd, ← hhn] at this
    refine this.mono ?_
    rintro e w' ⟨v, rfl, hf, hb⟩
    exact .inl ⟨v, rfl, hok, hf, hb⟩
  · refine (new_no d h hok w).mono ?_
    rintro e w' ⟨rfl, rfl⟩
    exact .inr ⟨rfl, hok, rfl⟩
/-- How many digits are good. -/
def fitF (k : Int) : Int × Int × Int := if k < 0 then (0, 0, 1) else if 6553 < k then (65536, 6, 0) else (8 * max ((10 * k + 7) / 8) 1, 6, 0)
theorem fit_any (k : Int) (w : World) : Calls Try.prog 57 #[.int .i64 k] w fun e w' => e = .returned (.tuple #[.int .i64 (fitF k).1, .int .i64 (fitF k).2.1, .int .i64 (fitF k).2.2]) ∧ w' = w := by
  unfold fitF
  by_cases h1 : k < 0
  · rw [if_pos h1]
    go_enter Try.func57, Try.ntmps57
    go_wp2_with fail
    go_ret3
    exact ⟨rfl, rfl⟩
  · rw [if_neg h1]
    by_cases h2 : 6553 < k
    · rw [if_pos h2]
      go_enter Try.func57, Try.ntmps57
      go_wp2_with fail
      go_ret3
      exact ⟨rfl, rfl⟩
    · rw [if_neg h2]
      have et : (10 * k + 7).tdiv 8 = (10 * k + 7) / 8 := Int.tdiv_eq_ediv_of_nonneg (by omega)
      go_enter Try.func57, Try.ntmps57
      go_wp2_with fail
      all_goals (go_ret3; exact ⟨tupA (by omega), rfl⟩)
end Go.Proofs.Ytlpjdfgknmfmnaa

/- What the fixed calls of layer 7's 'alive' come to; lists that are too long. -/
namespace Go.Proofs.Ytlpjdfgknmfmnaa
open Go.RowKit Go.Joins

theorem gb_zero (d q : Nat) : gb (List.replicate d 0) q = false := by
  unfold gb
  have : (List.replicate d (0 : UInt8)).getD (q / 8) 0 = 0 := by
    simp only [List.getD, List.getElem?_replicate]; split <;> rfl
  rw [this]; exact Nat.zero_testBit _
theorem plc_in {key : List UInt8} {D : List UInt8} {h : Nat} (hd : 0 < D.length) : ∀ p ∈ plc key (8 * D.length) h, p / 8 < D.length := by
  intro p hp
  have := plc_lt (key := key) (n := 8 * D.length) (h := h) (by omega) p hp
  omega
end Go.Proofs.Ytlpjdfgknmfmnaa

/- Lists of slices of bytes, and as an argument. -/
namespace Go.Proofs.Ytlpjdfgknmfmnaa
open Go.RowKit Go.ChangeShapes Go.WideShapes Go.ChangeAt Go.Joins

/-- A slice of slices reads these. -/
def LReads_B (w : World) (v : Value) (L : List (List UInt8)) : Prop :=
  ∃ a cap, v = .slice a L.length cap ∧ L.length ≤ cap ∧ cap ≤ maxLen ∧ (L = [] ∨ ∃ b off, a = some ⟨b, off, none⟩ ∧ b < w.heap.size ∧ ∀ j (hj : j < L.length), ∃ vj, w.cell? ⟨b, off + j, none⟩ = some vj ∧ Reads w vj L[j])
theorem LReads_B.below {w w' : World} {v : Value} {L : List (List UInt8)} (h : LReads_B w v L) (hb : Below w.heap.size w w') : LReads_B w' v L := by
  obtain ⟨a, cap, rfl, h1, h2, h3⟩ := h
  refine ⟨a, cap, rfl, h1, h2, ?_⟩
  rcases h3 with h3 | ⟨b, off, h4, h5, h6⟩
  · exact .inl h3
  · refine .inr ⟨b, off, h4, Nat.lt_of_lt_of_le h5 hb.size, fun j hj => ?_⟩
    obtain ⟨vj, g1, g2⟩ := h6 j hj
    exact ⟨vj, (hb.cell (p := ⟨b, off + j, none⟩) h5).trans g1, g2.below hb⟩
theorem LReads_B.take {w : World} {a : Option Addr} {n cap : Nat} {L : List (List UInt8)} (h : LReads_B w (.slice a n cap) L) {c : Nat} (hc : c ≤ L.length) : LReads_B w (.slice a c cap) (L.take c) := by
  obtain ⟨a', cap', hv, h1, h2, h3⟩ := h
  simp at hv
  obtain ⟨rfl, rfl, rfl⟩ := hv
  refine ⟨_, _, by rw [List.length_take, Nat.min_eq_left hc], by simp; omega, h2, ?_⟩
  rcases h3 with rfl | ⟨b, off, h4, h5, h6⟩
  · exact .inl (by simp)
  · refine .inr ⟨b, off, h4, h5, fun j hj => ?_⟩
    obtain ⟨vj, g1, g2⟩ := h6 j (by simp at hj; omega)
    exact ⟨vj, g1, by simpa using g2⟩
end Go.Proofs.Ytlpjdfgknmfmnaa
