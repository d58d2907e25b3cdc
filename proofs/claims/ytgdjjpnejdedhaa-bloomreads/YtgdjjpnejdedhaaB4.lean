/- The contract of a filter's May. -/
import Derived.Test.YtgdjjpnejdedhaaB3
namespace Go.Proofs.Ytgdjjpnejdedhaa
open Go.RowKit Go.Shelf
attribute [local go_sem] Oper.semAt_some

/-- What May knows between two rounds. -/
def IMay (w : World) (B : Nat) (D : List UInt8) (pre : List Nat) (W : World) : Prop := Boxed W w.heap.size 25 (.pointer (some ⟨B, 0, none⟩)) ∧ Boxed W (w.heap.size + 1) 4 (.bool false) ∧ Below w.heap.size w W ∧ ∀ p ∈ pre, gb D p = true
def XMay (w : World) (D : List UInt8) (c : Code) (pre : List Nat) (W : World) : Prop := c = .ret ∧ Boxed W (w.heap.size + 1) 4 (.bool false) ∧ Below w.heap.size w W ∧ ∃ p ∈ pre, gb D p = false
theorem four_boxes (w : World) (v1 v2 v3 v4 : Value) (t1 t2 t3 t4 : TypeId) :
    Hid (Below w.heap.size w ((((w.alloc (.cells #[v1] t1)).alloc (.cells #[v2] t2)).alloc (.cells #[v3] t3)).alloc (.cells #[v4] t4))) ∧
    Hid (Boxed ((((w.alloc (.cells #[v1] t1)).alloc (.cells #[v2] t2)).alloc (.cells #[v3] t3)).alloc (.cells #[v4] t4)) w.heap.size t1 v1) ∧
    Hid (Boxed ((((w.alloc (.cells #[v1] t1)).alloc (.cells #[v2] t2)).alloc (.cells #[v3] t3)).alloc (.cells #[v4] t4)) (w.heap.size + 1) t2 v2) ∧
    Hid (Boxed ((((w.alloc (.cells #[v1] t1)).alloc (.cells #[v2] t2)).alloc (.cells #[v3] t3)).alloc (.cells #[v4] t4)) (w.heap.size + 1 + 1) t3 v3) ∧
    Hid (Boxed ((((w.alloc (.cells #[v1] t1)).alloc (.cells #[v2] t2)).alloc (.cells #[v3] t3)).alloc (.cells #[v4] t4)) (w.heap.size + 1 + 1 + 1) t4 v4) := by
  refine ⟨((((Below.refl _ w).alloc (Nat.le_refl _) _).alloc (by simp) _).alloc (by simp; omega) _).alloc (by simp; omega) _, (((Boxed.new w _ _).alloc _).alloc _).alloc _, ?_, ?_, ?_⟩
  · have := ((Boxed.new (w.alloc (.cells #[v1] t1)) t2 v2).alloc (.cells #[v3] t3)).alloc (.cells #[v4] t4)
    rw [World.size_alloc] at this; exact this
  · have := (Boxed.new ((w.alloc (.cells #[v1] t1)).alloc (.cells #[v2] t2)) t3 v3).alloc (.cells #[v4] t4)
    rw [World.size_alloc, World.size_alloc] at this; exact this
  · have := Boxed.new (((w.alloc (.cells #[v1] t1)).alloc (.cells #[v2] t2)).alloc (.cells #[v3] t3)) t4 v4
    rw [World.size_alloc, World.size_alloc, World.size_alloc] at this; exact this
theorem results_box {fn : Func} {p : Tmp} {ty : TypeId} (h : fn.results = #[.cell p ty]) (tmps : Array Value) (w : World) (a : Addr) (v : Value)
    (hp : tmps.getD p undef = .pointer (some a)) (hc : w.cell? a = some v) (hag : (isAgg ty).run Try.prog w = .ok false w) : (results fn tmps).run Try.prog w = .ok v w := by
  have hp' : tmps[p]?.getD undef = .pointer (some a) := by simpa using hp
  simp [results, h, hp', asAddr, loadVar, go_sem, hag, hc]
theorem and8 (a : UInt8) (x : Nat) : bits .and .u8 ((a.toNat : Int) / 2 ^ (x % 8)) 1 = if a.toNat.testBit (x % 8) then 1 else 0 := by
  have e : ((a.toNat : Int) / 2 ^ (x % 8)) = ((a.toNat / 2 ^ (x % 8) : Nat) : Int) := by rw [Int.natCast_ediv, Int.natCast_pow]; rfl
  have hl : a.toNat / 2 ^ (x % 8) < 256 := Nat.lt_of_le_of_lt (Nat.div_le_self _ _) a.toNat_lt
  have := u8_and_nat _ 1 hl (by decide)
  rw [e]
  refine this.trans ?_
  rw [Nat.and_one_is_mod, Nat.testBit_eq_decide_div_mod_eq]
  rcases Nat.mod_two_eq_zero_or_one (a.toNat / 2 ^ (x % 8)) with h | h <;> simp [h]
set_option maxRecDepth 100000 in
set_option maxHeartbeats 2000000 in
theorem may_in (n : Nat) (hn : 5 ≤ n) (v kv : Value) (h : Nat) (D key : List UInt8) (w : World) (base : Nat) (hF : Fil w base v h D) (hR : Reads w kv key) :
    CallsIn Fence.wide n Try.prog 15 #[v, kv] w fun e W' => e = .returned (.bool (myF D (plc key (8 * D.length) h))) ∧ Below w.heap.size w W' := by
  have h1 : 1 ≤ n := by omega
  obtain ⟨ak, capk, rfl, _⟩ := hR.form
  obtain ⟨B, g, cap, rfl, hB, hc, hO, hBg, hh1, hh8, hD0, hD1⟩ := id hF
  have HF : Hid (Fil w base (.pointer (some ⟨B, 0, none⟩)) h D) := hF
  have HR : Hid (Reads w (.slice ak key.length capk) key) := hR
  have HC : Hid (w.heap[B]? = some (.cells #[.int .i64 (h : Int), .slice (some ⟨g, 0, none⟩) D.length cap] 46)) := hc
  have HO : Hid (Own w base (.slice (some ⟨g, 0, none⟩) D.length cap) D) := hO
  clear hF hR hc hO
  refine callsIn_of_wp_marks Try.func15 rfl trivial ?_ rfl
  simp only [Try.ntmps15, List.size_toArray, List.length_cons, List.length_nil, Nat.reduceAdd, Nat.reduceSub, Array.replicate_succ, Array.replicate_zero, List.push_toArray, List.append_toArray, List.nil_append, List.cons_append]
  gi_wp2_with fail
  refine ⟨trivial, ?_⟩
  refine (callsIn_wide.2 (made_any (HF.out.below (((Below.refl _ _).alloc (Nat.le_refl _) _).alloc (by simp) _)))).mono ?_
  rintro e w' ⟨rfl, hw⟩
  subst w'
  gi_wp2_with fail
  refine ⟨trivial, ?_⟩
  refine (places_in _ _ _ _ _ _).mono ?_
  rintro e w' ⟨rfl, rfl⟩
  simp only [World.size_alloc]
  gi_wp2_with fail
  obtain ⟨HB0, HX0, HX1, HX2, HX3⟩ := four_boxes w (.pointer (some ⟨B, 0, none⟩)) (.bool false) (.pointer (some ⟨B, 0, none⟩)) (.slice ak key.length capk) 25 4 25 33
  refine wpIn_range_x rfl h1 (gf := 27) (lb := #[.pointer (some ⟨w.heap.size + 1 + 1, 0, none⟩), .pointer (some ⟨w.heap.size + 1 + 1 + 1, 0, none⟩)]) rfl trivial (enters_of Try.func27 (by kernel_rfl) rfl) (encs := encP) (fun _ => rfl) (IMay w B D) (XMay w D) (PreP key (8 * D.length) h) (fun xs => xs = plc key (8 * D.length) h) (fun xs => ∃ k, k ≤ h ∧ xs = plc key (8 * D.length) k) w.heap.size HB0.out.size
    (fun l J Jx W hK hn₀ hJ _ hY h0 => (places1_in (n - 1) (by omega) l (w.heap.size + 1 + 1) (w.heap.size + 1 + 1 + 1) B h _ _ D key hD0 hD1 hh8 w.heap.size J Jx W hn₀ hJ hY (boxed_kc HX2.out hK).cell (boxed_kc HX3.out hK).cell
      (cell_of (hK.c _ _ _ _ ((HB0.out.block B (Array.getElem?_eq_some_iff.1 HC.out).1).trans HC.out)) 0 (by simp)) (cell_of (hK.c _ _ _ _ ((HB0.out.block B (Array.getElem?_eq_some_iff.1 HC.out).1).trans HC.out)) 1 (by simp)) ((HO.out.reads.below HB0.out).kc hK) ((HR.out.below HB0.out).kc hK) h0).mono ?_)
    (fun pre _ _ hI hk => ⟨boxed_kc hI.1 hk, boxed_kc hI.2.1 hk, hI.2.2.1.trans hk.b, hI.2.2.2⟩) (fun _ _ _ _ hI hk => ⟨hI.1, boxed_kc hI.2.1 hk, hI.2.2.1.trans hk.b, hI.2.2.2⟩) (fun _ _ _ _ hp _ => hp) ⟨HX0.out, HX1.out, HB0.out, fun _ h => by cases h⟩
    (fun x => { tmps := #[.pointer (some ⟨B, 0, none⟩), .slice ak key.length capk, .pointer (some ⟨w.heap.size, 0, none⟩), undef, .pointer (some ⟨w.heap.size + 1, 0, none⟩), .int .u32 (x : Int), .pointer (some ⟨B, 0, none⟩), .bool true, .bool false, .pointer (some ⟨B, 0, none⟩), .slice ak key.length capk, .func (.func 27) #[] #[.pointer (some ⟨w.heap.size + 1 + 1, 0, none⟩), .pointer (some ⟨w.heap.size + 1 + 1 + 1, 0, none⟩)], .int .u32 (x : Int), undef, undef, undef, undef, undef, undef, undef, undef, undef, undef, undef, undef, undef], defers := [] }) ?assign ?body ?done ?left
  · rintro e W' ⟨hv, hJ | hX⟩
    · exact ⟨hv, .inl ⟨_, rfl, hJ⟩⟩
    · exact ⟨hv, .inr hX⟩
  case assign =>
    intro l x W K hK
    dsimp only [encP]
    gi_wp2
    exact hK
  case body =>
    rintro l pre x W ⟨hX0, hX1, hBW, hall⟩ ⟨hp1, hp2, hp3⟩ hnW
    have hx : x < 8 * D.length := by rw [hp2]; exact Nat.mod_lt _ (by omega)
    have HCW : Hid (W.heap[B]? = some (.cells #[.int .i64 (h : Int), .slice (some ⟨g, 0, none⟩) D.length cap] 46)) := (hBW.block B (Array.getElem?_eq_some_iff.1 HC.out).1).trans HC.out
    have HOW : Hid (Own W base (.slice (some ⟨g, 0, none⟩) D.length cap) D) := HO.out.below hBW
    have hc0 := hX0.cell
    have hc1 := cell_of HCW.out 1 (by simp)
    simp at hc1
    have hj : x / 8 < D.length := by omega
    obtain ⟨hc2, _⟩ := HOW.out.at (x / 8) hj
    unfold bc at hc2
    have hb2 : D[x / 8].toNat < 256 := D[x / 8].toNat_lt
    have q1 : ((x : Int) / 8).toNat = x / 8 := by omega
    have q2 : ((x : Int) % 8).toNat = x % 8 := by omega
    have q3 : 0 ≤ (x : Int) / 8 := by omega
    have q4 : (x : Int) / 8 < (D.length : Int) := by omega
    have q5 := and8 D[x / 8] x
    have hc4 := hX1.cell
    have hf4 := hX1.frozen
    have HG : Hid (gb D x = D[x / 8].toNat.testBit (x % 8)) := by unfold Hid gb; simp [List.getD, hj]
    clear hp1 hp2 hp3
    cases hbit : D[x / 8].toNat.testBit (x % 8)
    · rw [hbit] at q5
      simp only [Bool.false_eq_true, if_false] at q5
      gi_wp2
      exact ⟨KeepsOthers.setCell _ _ _, rfl, hX1.set _, hBW.trans ((Below.refl _ _).setCell (by simp) _), x, by simp, by rw [HG.out]; exact hbit⟩
    · rw [hbit] at q5
      simp only [if_true] at q5
      gi_wp2
      refine ⟨KeepsOthers.refl _, Below.refl _ _, hX0, hX1, hBW, fun p hp => ?_⟩
      rcases List.mem_append.1 hp with hp | hp
      · exact hall p hp
      · simp at hp; subst hp; rw [HG.out]; exact hbit
  case done =>
    rintro D' ys W hD hS ⟨hX0, hX1, hBW, hall⟩ hK
    subst hS
    have hc4 := hX1.cell
    have hf4 := hX1.frozen
    gi_wp2
    have hK2 : (W.setCell ⟨w.heap.size + 1, 0, none⟩ (.bool true)).heap[D']? = some (.deferred (some [])) := (KeepsOthers.setCell W ⟨w.heap.size + 1, 0, none⟩ (.bool true)).same _ _ hK rfl
    refine ⟨by simp, .inl ⟨_, _, rfl, run_takeDeferred hK2, ?_⟩⟩
    have hsz := HB0.out.size
    have hpk := Kc.put (n := w.heap.size) (.deferred none) hK2 rfl (by omega)
    refine ⟨_, results_box rfl _ _ ⟨w.heap.size + 1, 0, none⟩ (.bool true) rfl (boxed_kc (hX1.set (.bool true)) hpk).cell (by simp [isAgg, go_sem]), ?_, (hBW.trans ((Below.refl _ _).setCell (by simp) _)).trans hpk.b⟩
    have : myF D (plc key (8 * D.length) h) = true := List.all_eq_true.2 hall
    rw [this]
  case left =>
    rintro D' ys c W hD ⟨k, hk, rfl⟩ ⟨rfl, hX1, hBW, hex⟩ hK
    have hc4 := hX1.cell
    gi_wp2
    refine ⟨by simp, .inl ⟨_, _, rfl, run_takeDeferred hK, ?_⟩⟩
    have hsz := HB0.out.size
    have hpk := Kc.put (n := w.heap.size) (.deferred none) hK rfl (by omega)
    refine ⟨_, results_box rfl _ _ ⟨w.heap.size + 1, 0, none⟩ (.bool false) rfl (boxed_kc hX1 hpk).cell (by simp [isAgg, go_sem]), ?_, hBW.trans hpk.b⟩
    have : myF D (plc key (8 * D.length) h) = false := by
      obtain ⟨p, hp, hg⟩ := hex
      rw [← plc_take _ _ _ _ hk] at hp
      exact List.all_eq_false.2 ⟨p, List.mem_of_mem_take hp, by simp [hg]⟩
    rw [this]
end Go.Proofs.Ytgdjjpnejdedhaa
