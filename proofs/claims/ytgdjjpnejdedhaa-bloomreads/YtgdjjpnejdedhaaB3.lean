/- The contracts of a filter's Add and May. -/
import Derived.Test.YtgdjjpnejdedhaaB2
import Derived.RangeFuncBox
import Derived.Maps.AppendAt
import Derived.RegionIn
import Derived.BigRegion
namespace Go.Proofs.Ytgdjjpnejdedhaa
open Go.RowKit Go.Shelf
attribute [local go_sem] Oper.semAt_some

/-- A filter in memory, made since base. -/
def Fil (w : World) (base : Nat) (v : Value) (h : Nat) (D : List UInt8) : Prop :=
  ∃ B g cap, v = .pointer (some ⟨B, 0, none⟩) ∧ base ≤ B ∧ w.heap[B]? = some (.cells #[.int .i64 (h : Int), .slice (some ⟨g, 0, none⟩) D.length cap] 46) ∧ Own w base (.slice (some ⟨g, 0, none⟩) D.length cap) D ∧ B ≠ g ∧ 1 ≤ h ∧ h ≤ 8 ∧ 0 < D.length ∧ D.length ≤ 8192
theorem Own.kc {n : Nat} {A B : World} {base : Nat} {v : Value} {l : List UInt8} (h : Own A base v l) (hk : Kc n A B) : Own B base v l := by
  obtain ⟨h1, h2⟩ := h
  refine ⟨h1, ?_⟩
  rcases h2 with h2 | ⟨g, cap, cur, hv, hg, hw, r⟩
  · exact .inl h2
  · exact .inr ⟨g, cap, cur, hv, hg, hk.c _ _ _ _ hw, r⟩
theorem boxed_kc {n : Nat} {A B : World} {b : Nat} {t : TypeId} {v : Value} (h : Boxed A b t v) (hk : Kc n A B) : Boxed B b t v := hk.c _ _ _ _ h
theorem Fil.kc {n : Nat} {A B : World} {base : Nat} {v : Value} {h : Nat} {D : List UInt8} (hf : Fil A base v h D) (hk : Kc n A B) : Fil B base v h D := by
  obtain ⟨b, g, cap, h1, h2, h3, h4, h5⟩ := hf
  exact ⟨b, g, cap, h1, h2, hk.c _ _ _ _ h3, h4.kc hk, h5⟩
theorem Fil.below {A B : World} {base : Nat} {v : Value} {h : Nat} {D : List UInt8} (hf : Fil A base v h D) (hb : Below A.heap.size A B) : Fil B base v h D :=
  hf.kc (Kc.of_below hb (Nat.le_refl _))
theorem Fil.mono {A : World} {base base' : Nat} {v : Value} {h : Nat} {D : List UInt8} (hf : Fil A base v h D) (hb : base' ≤ base) : Fil A base' v h D := by
  obtain ⟨b, g, cap, h1, h2, h3, h4, h5⟩ := hf
  exact ⟨b, g, cap, h1, by omega, h3, h4.mono hb, h5⟩
theorem cell_of {w : World} {B : Nat} {cs : Array Value} {t : TypeId} {fr : Nat × Nat} (h : w.heap[B]? = some (.cells cs t fr)) (i : Nat) (hi : i < cs.size) : w.cell? ⟨B, i, none⟩ = some cs[i] := by
  simp [World.cell?, h, hi]
theorem Reads.kc {n : Nat} {A B : World} {v : Value} {l : List UInt8} (h : Reads A v l) (hk : Kc n A B) : Reads B v l := by
  rcases h with h | ⟨b, off, cap, h1, h2, h3, h4, h5, h6⟩
  · exact .inl h
  · have hs := hk.b.size
    have hc : ∀ (p : Addr) (x : Value), A.cell? p = some x → B.cell? p = some x := by
      intro p x hx
      unfold World.cell? at hx ⊢
      split at hx
      · rename_i cs t fr hb
        rw [hk.c _ _ _ _ hb]; exact hx
      · cases hx
    refine .inr ⟨b, off, cap, h1, h2, h3, h4, ?_, fun j hj => hc _ _ (h6 j hj)⟩
    have := hc _ _ (h6 0 h2)
    obtain ⟨o, ho, _⟩ := cells_of_cell this
    exact (Array.getElem?_eq_some_iff.1 ho).1
theorem grown_set (W : World) (b i : Nat) (v : Value) : W.grownBy (W.setCell ⟨b, i, none⟩ v) (some b) :=
  ⟨rfl, rfl, rfl, (KeepsWalks.setCell W _ v).size, fun k _ hk => Below.heap_setCell _ _ _ k (fun e => hk (by rw [e]))⟩
theorem sb_set (E : List UInt8) (x : Nat) (hj : x / 8 < E.length) : sb E x = E.set (x / 8) (E[x / 8] ||| UInt8.ofNat (2 ^ (x % 8))) := by
  unfold sb
  apply List.ext_getElem
  · simp
  · intro i h1 h2
    rw [List.getElem_modify, List.getElem_set]
    by_cases e : x / 8 = i
    · subst e; simp
    · simp [e]
theorem pow8 (x : Nat) : 2 ^ (x % 8) < 256 := by
  have : 2 ^ (x % 8) ≤ 2 ^ 7 := Nat.pow_le_pow_right (by decide) (by omega)
  omega
theorem or8 (a : UInt8) (x : Nat) : bits .or .u8 (a.toNat : Int) (2 ^ (x % 8) % 256) = (((a ||| UInt8.ofNat (2 ^ (x % 8))).toNat : Nat) : Int) := by
  have hp := pow8 x
  have e : ((2 : Int) ^ (x % 8) % 256) = ((2 ^ (x % 8) : Nat) : Int) := by
    have : ((2 ^ (x % 8) : Nat) : Int) = (2 : Int) ^ (x % 8) := by push_cast; rfl
    rw [← this]; exact Int.emod_eq_of_lt (Int.natCast_nonneg _) (by generalize 2 ^ (x % 8) = q at hp; omega)
  rw [e, u8_or_nat _ _ a.toNat_lt hp, UInt8.toNat_or, UInt8.toNat_ofNat', Nat.mod_eq_of_lt hp]
theorem made_any {w : World} {base : Nat} {v : Value} {h : Nat} {D : List UInt8} (hf : Fil w base v h D) : Calls Try.prog 24 #[v] w fun e w' => e = .returned (.bool true) ∧ w' = w := by
  obtain ⟨B, g, cap, rfl, hB, hc, hO, hBg, hh1, hh8, hD0, hD1⟩ := hf
  have c0 := cell_of hc 0 (by simp)
  simp at c0
  go_enter Try.func24, Try.ntmps24
  go_wp2_with fail
  go_ret
  exact ⟨by simp; omega, rfl⟩
theorem places_in (n : Nat) (p : Option Addr) (a : Option Addr) (len cap : Nat) (w : World) :
    CallsIn Fence.wide n Try.prog 25 #[.pointer p, .slice a len cap] w fun e w' => e = .returned (.func (.func 27) #[] #[.pointer (some ⟨w.heap.size, 0, none⟩), .pointer (some ⟨w.heap.size + 1, 0, none⟩)]) ∧ w' = (w.alloc (.cells #[.pointer p] 25)).alloc (.cells #[.slice a len cap] 33) := by
  refine callsIn_of_wp Try.func25 rfl trivial ?_ rfl
  simp only [Try.ntmps25, List.size_toArray, List.length_cons, List.length_nil, Nat.reduceAdd, Nat.reduceSub, Array.replicate_succ, Array.replicate_zero, List.push_toArray, List.append_toArray, List.nil_append, List.cons_append]
  gi_wp2
  go_ret
  exact ⟨rfl, rfl⟩
/-- All cells but those of one block stand. -/
def Kx (g : Nat) (A B : World) : Prop := ∀ (k : Nat) (cs : Array Value) (t : TypeId) (fr : Nat × Nat), k ≠ g → A.heap[k]? = some (Obj.cells cs t fr) → B.heap[k]? = some (Obj.cells cs t fr)
/-- All cells but those of a filter's digits stand. -/
def Kf (v : Value) (A W : World) : Prop := ∀ (B g n cap : Nat) (x : Value), v = .pointer (some ⟨B, 0, none⟩) → A.heap[B]? = some (.cells #[x, .slice (some ⟨g, 0, none⟩) n cap] 46) → Kx g A W
/-- What Add knows between two rounds. -/
def IAdd (w : World) (base : Nat) (v : Value) (h : Nat) (D : List UInt8) (g : Nat) (pre : List Nat) (W : World) : Prop := Fil W base v h (adF D pre) ∧ Boxed W w.heap.size 25 v ∧ Below base w W ∧ Kx g w W ∧ ∃ B, v = .pointer (some ⟨B, 0, none⟩) ∧ W.heap[B]? = w.heap[B]?
set_option maxRecDepth 100000 in
set_option maxHeartbeats 2000000 in
theorem add_in (n : Nat) (hn : 5 ≤ n) (v kv : Value) (h : Nat) (D key : List UInt8) (w : World) (base : Nat) (hbase : base ≤ w.heap.size) (hF : Fil w base v h D) (hR : Reads w kv key) :
    CallsIn Fence.wide n Try.prog 13 #[v, kv] w fun e W' => e = .returned (.int .i64 0) ∧ Fil W' base v h (adF D (plc key (8 * D.length) h)) ∧ Below base w W' ∧ Kf v w W' := by
  have h1 : 1 ≤ n := by omega
  obtain ⟨ak, capk, rfl, _⟩ := hR.form
  obtain ⟨B, g, cap, rfl, hB, hc, hO, hBg, hh1, hh8, hD0, hD1⟩ := id hF
  have HF : Hid (Fil w base (.pointer (some ⟨B, 0, none⟩)) h D) := hF
  have HR : Hid (Reads w (.slice ak key.length capk) key) := hR
  have HC : Hid (w.heap[B]? = some (.cells #[.int .i64 (h : Int), .slice (some ⟨g, 0, none⟩) D.length cap] 46)) := hc
  have HO : Hid (Own w base (.slice (some ⟨g, 0, none⟩) D.length cap) D) := hO
  clear hF hR hc hO
  refine callsIn_of_wp_marks Try.func13 rfl trivial ?_ rfl
  simp only [Try.ntmps13, List.size_toArray, List.length_cons, List.length_nil, Nat.reduceAdd, Nat.reduceSub, Array.replicate_succ, Array.replicate_zero, List.push_toArray, List.append_toArray, List.nil_append, List.cons_append]
  gi_wp2_with fail
  refine ⟨trivial, ?_⟩
  refine (callsIn_wide.2 (made_any (HF.out.below ((Below.refl _ _).alloc (Nat.le_refl _) _)))).mono ?_
  rintro e w' ⟨rfl, hw⟩
  subst w'
  gi_wp2_with fail
  refine ⟨trivial, ?_⟩
  refine (places_in _ _ _ _ _ _).mono ?_
  rintro e w' ⟨rfl, rfl⟩
  simp only [World.size_alloc]
  have HB0 : Hid (Below w.heap.size w (((w.alloc (.cells #[.pointer (some ⟨B, 0, none⟩)] 25)).alloc (.cells #[.pointer (some ⟨B, 0, none⟩)] 25)).alloc (.cells #[.slice ak key.length capk] 33))) := (((Below.refl _ w).alloc (Nat.le_refl _) _).alloc (by simp) _).alloc (by simp; omega) _
  have HX0 : Hid (Boxed (((w.alloc (.cells #[.pointer (some ⟨B, 0, none⟩)] 25)).alloc (.cells #[.pointer (some ⟨B, 0, none⟩)] 25)).alloc (.cells #[.slice ak key.length capk] 33)) w.heap.size 25 (.pointer (some ⟨B, 0, none⟩))) := ((Boxed.new w _ _).alloc _).alloc _
  have HX1 : Hid (Boxed (((w.alloc (.cells #[.pointer (some ⟨B, 0, none⟩)] 25)).alloc (.cells #[.pointer (some ⟨B, 0, none⟩)] 25)).alloc (.cells #[.slice ak key.length capk] 33)) (w.heap.size + 1) 25 (.pointer (some ⟨B, 0, none⟩))) := by
    have := (Boxed.new (w.alloc (.cells #[.pointer (some ⟨B, 0, none⟩)] 25)) 25 (.pointer (some ⟨B, 0, none⟩))).alloc (.cells #[.slice ak key.length capk] 33)
    rw [World.size_alloc] at this; exact this
  have HX2 : Hid (Boxed (((w.alloc (.cells #[.pointer (some ⟨B, 0, none⟩)] 25)).alloc (.cells #[.pointer (some ⟨B, 0, none⟩)] 25)).alloc (.cells #[.slice ak key.length capk] 33)) (w.heap.size + 1 + 1) 33 (.slice ak key.length capk)) := by
    have := (Boxed.new ((w.alloc (.cells #[.pointer (some ⟨B, 0, none⟩)] 25)).alloc (.cells #[.pointer (some ⟨B, 0, none⟩)] 25)) 33 (.slice ak key.length capk))
    rw [World.size_alloc, World.size_alloc] at this; exact this
  gi_wp2_with fail
  refine wpIn_range_x rfl h1 (gf := 27) (lb := #[.pointer (some ⟨w.heap.size + 1, 0, none⟩), .pointer (some ⟨w.heap.size + 1 + 1, 0, none⟩)]) rfl trivial (enters_of Try.func27 (by kernel_rfl) rfl) (encs := encP) (fun _ => rfl) (IAdd w base (.pointer (some ⟨B, 0, none⟩)) h D g) (fun _ _ _ => False) (PreP key (8 * D.length) h) (fun xs => xs = plc key (8 * D.length) h) (fun xs => ∃ k, k ≤ h ∧ xs = plc key (8 * D.length) k) base (by simp; omega)
    (fun l J Jx W hK hn₀ hJ _ hY h0 => (places1_in (n - 1) (by omega) l (w.heap.size + 1) (w.heap.size + 1 + 1) B h _ _ D key hD0 hD1 hh8 base J Jx W hn₀ hJ hY (boxed_kc HX1.out hK).cell (boxed_kc HX2.out hK).cell
      (cell_of (hK.c _ _ _ _ ((HB0.out.block B (Array.getElem?_eq_some_iff.1 HC.out).1).trans HC.out)) 0 (by simp)) (cell_of (hK.c _ _ _ _ ((HB0.out.block B (Array.getElem?_eq_some_iff.1 HC.out).1).trans HC.out)) 1 (by simp)) ((HO.out.reads.below HB0.out).kc hK) ((HR.out.below HB0.out).kc hK) h0).mono ?_)
    (fun pre _ _ hI hk => ⟨hI.1.kc hk, boxed_kc hI.2.1 hk, hI.2.2.1.trans hk.b, fun k cs t fr hne hc => hk.c _ _ _ _ (hI.2.2.2.1 k cs t fr hne hc), B, rfl, by obtain ⟨_, e, hh⟩ := hI.2.2.2.2; cases e; rw [HC.out] at hh ⊢; exact hk.c _ _ _ _ hh⟩) (fun _ _ _ _ h _ => h) (fun _ _ _ _ hp _ => hp) ⟨HF.out.below HB0.out, HX0.out, HB0.out.mono hbase, fun k cs t fr _ hc => (HB0.out.block k (Array.getElem?_eq_some_iff.1 hc).1).trans hc, B, rfl, HB0.out.block B (Array.getElem?_eq_some_iff.1 HC.out).1⟩
    (fun x => { tmps := #[.pointer (some ⟨B, 0, none⟩), .slice ak key.length capk, .pointer (some ⟨w.heap.size, 0, none⟩), undef, .int .i64 0, .int .u32 (x : Int), .pointer (some ⟨B, 0, none⟩), .bool true, .bool false, .pointer (some ⟨B, 0, none⟩), .slice ak key.length capk, .func (.func 27) #[] #[.pointer (some ⟨w.heap.size + 1, 0, none⟩), .pointer (some ⟨w.heap.size + 1 + 1, 0, none⟩)], .int .u32 (x : Int), undef, undef, undef, undef, undef, undef, undef, undef, undef, undef, undef, undef, undef], defers := [] }) ?assign ?body ?done ?left
  · rintro e W' ⟨hv, hJ | hX⟩
    · exact ⟨hv, .inl ⟨_, rfl, hJ⟩⟩
    · exact ⟨hv, .inr hX⟩
  case assign =>
    intro l x W K hK
    dsimp only [encP]
    gi_wp2
    exact hK
  case body =>
    rintro l pre x W ⟨hFW, hXW, hBW, hKW, _, hBe0, hBW0⟩ ⟨hp1, hp2, hp3⟩ hnW
    cases hBe0
    obtain ⟨B', g', cap', hBe, hBB, hcW, hOW, hBgW, _, _, _, _⟩ := id hFW
    obtain rfl : B = B' := by simpa using hBe
    obtain rfl : g' = g := by
      rw [hcW, HC.out] at hBW0
      simp at hBW0
      exact hBW0.1
    have HBW0 : Hid (W.heap[B]? = w.heap[B]?) := hBW0
    have HKW : Hid (Kx g' w W) := hKW
    clear hBW0 hKW
    have hx : x < 8 * D.length := by rw [hp2]; exact Nat.mod_lt _ (by omega)
    have hEl := adF_len pre D
    obtain ⟨E, hE⟩ := hid_ex (adF D pre)
    rw [← hE.out] at hcW hOW hEl
    have hc0 := hXW.cell
    have hc1 := cell_of hcW 1 (by simp)
    simp at hc1
    have hj : x / 8 < E.length := by omega
    obtain ⟨hc2, hf2⟩ := hOW.at (x / 8) hj
    have HCW : Hid (W.heap[B]? = some (.cells #[.int .i64 (h : Int), .slice (some ⟨g', 0, none⟩) E.length cap'] 46)) := hcW
    have HOW : Hid (Own W base (.slice (some ⟨g', 0, none⟩) E.length cap') E) := hOW
    unfold bc at hc2
    have hb2 : E[x / 8].toNat < 256 := E[x / 8].toNat_lt
    have q1 : ((x : Int) / 8).toNat = x / 8 := by omega
    have q2 : ((x : Int) % 8).toNat = x % 8 := by omega
    have q3 : 0 ≤ (x : Int) / 8 := by omega
    have q4 : (x : Int) / 8 < (E.length : Int) := by omega
    clear hFW hBe hcW hOW hp1 hp2 hp3
    gi_wp2
    rw [or8]
    obtain ⟨hO3, hb3⟩ := HOW.out.stored (x / 8) (E[x / 8] ||| UInt8.ofNat (2 ^ (x % 8)))
    have hgr := grown_set W g' (x / 8) (bc (E[x / 8] ||| UInt8.ofNat (2 ^ (x % 8))))
    have hBlt := (Array.getElem?_eq_some_iff.1 HCW.out).1
    have hsl : (sb E x).length = E.length := sb_len E x
    rw [← sb_set E x hj] at hO3
    have hA : adF D (pre ++ [x]) = sb E x := by rw [adF_snoc, hE.out]
    refine ⟨KeepsOthers.setCell _ _ _, hb3, ⟨?_, hXW.kept hgr (hXW.not_row (by decide) HOW.out), hBW.trans hb3, fun k cs t fr hne hc => (hgr.block k (Nat.lt_of_lt_of_le (Array.getElem?_eq_some_iff.1 hc).1 hBW.size) (by simp; omega)).trans (HKW.out k cs t fr hne hc), B, rfl, (hgr.block B hBlt (by simpa using hBgW)).trans HBW0.out⟩⟩
    rw [hA]
    exact ⟨B, g', cap', rfl, hBB, by rw [hsl]; exact (hgr.block B hBlt (by simpa using hBgW)).trans HCW.out, by rw [hsl]; exact hO3, hBgW, hh1, hh8, by omega, by omega⟩
  case done =>
    rintro D' ys W hD hS ⟨hFW, hXW, hBW, hKW, hEW⟩ hK
    clear hEW
    subst hS
    gi_wp2
    refine ⟨by simp, .inl ⟨_, _, rfl, run_takeDeferred hK, ?_⟩⟩
    have hpk := Kc.put (n := base) (.deferred none) hK rfl (by simp at hD; omega)
    refine ⟨_, results_tmp rfl _ _ _, rfl, hFW.kc hpk, hBW.trans hpk.b, ?_⟩
    intro B2 g2 n2 cap2 x2 e1 e2
    cases e1
    rw [HC.out] at e2
    simp at e2
    obtain ⟨_, rfl, _, _⟩ := e2
    exact fun k cs t fr hne hc => hpk.c _ _ _ _ (hKW k cs t fr hne hc)
  case left => intro _ _ _ _ _ _ h; exact h.elim
end Go.Proofs.Ytgdjjpnejdedhaa
