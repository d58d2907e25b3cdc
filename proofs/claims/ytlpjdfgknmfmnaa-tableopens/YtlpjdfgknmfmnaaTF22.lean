/- BK6, joined. -/
import Derived.Test.YtlpjdfgknmfmnaaTZ0
import Derived.Test.YtlpjdfgknmfmnaaTF20
import Derived.Test.YtlpjdfgknmfmnaaTF21
import Derived.ScopeJumps
/- The contract of next. -/
namespace Go.Proofs.Ytlpjdfgknmfmnaa
open Go.RowKit

/-- What holds at each jump to 'none'. -/
def JNx (b : List UInt8) (i : Nat) (ah : Ks) (w : World) (a' : Act) (w' : World) : Prop := nx b i ah = none ∧ Below w.heap.size w w' ∧ (∃ x y, w'.heap[w.heap.size]? = some (.cells #[x, y] 53)) ∧ a'.defers = [] ∧ a'.tmps.size = 113 ∧ a'.tmps.getD 6 undef = .pointer (some ⟨w.heap.size, 0, none⟩)
theorem jump_ret' {l : Nat} {J : Act → World → Prop} {Q : Exit → Act → World → Prop} {a : Act} {w : World} : Exit.jump l J Q .ret a w = Q .ret a w := rfl
theorem results_rt {fn : Func} {p u : Tmp} {ty : TypeId} (h : fn.results = #[.cell p ty, .tmp u]) (tmps : Array Value) (w : World) (g : Nat) (cs : Array Value)
    (hp : tmps.getD p undef = .pointer (some ⟨g, 0, none⟩)) (hl : (loadVar ty ⟨g, 0, none⟩).run Try.prog w = .ok (.agg cs) w) :
    (results fn tmps).run Try.prog w = .ok (.tuple #[.agg cs, tmps.getD u undef]) w := by
  rw [results_cell_tmp h, hp]
  simp [asAddr, hl, Result.andThen]
theorem frozen_rw {w : World} {b : Nat} {cs : Array Value} {T : TypeId} (h : w.heap[b]? = some (.cells cs T)) (i : Nat) : w.frozen? ⟨b, i, none⟩ = false := by
  simp [World.frozen?, h]
theorem own_setB {W : World} {base B i : Nat} {T : TypeId} {cs : Array Value} {v : Value} {l : List UInt8} (u : Value) (h : Own W base v l) (hb : W.heap[B]? = some (.cells cs T)) (hT : T ≠ 5) : Own (W.setCell ⟨B, i, none⟩ u) base v l := by
  refine ⟨h.1, ?_⟩
  rcases h.2 with h2 | ⟨g, cap, cur, hv, hg, hw, r⟩
  · exact .inl h2
  · refine .inr ⟨g, cap, cur, hv, hg, ?_, r⟩
    rw [Go.heap_setCell_other]
    · exact hw
    · rintro rfl
      rw [hb] at hw
      simp at hw
      exact hT hw.2
theorem set2 {w : World} {b : Nat} {T : TypeId} {x0 x1 : Value} (h : w.heap[b]? = some (.cells #[x0, x1] T)) (v0 v1 : Value) :
    ((w.setCell ⟨b, 0, none⟩ v0).setCell ⟨b, 1, none⟩ v1).heap[b]? = some (.cells #[v0, v1] T) := by
  have h0 := Go.heap_setCell_same w b 0 _ _ v0 h
  have h1 := Go.heap_setCell_same _ b 1 _ _ v1 h0
  simpa using h1
theorem nx_cond {c s i : Nat} {a k : Ks} (h1 : c = s) (h2 : 0 < i → ltK a k) : ¬ (c ≠ s ∨ (0 < i ∧ ¬ ltK a k)) := by
  rintro (h | ⟨h, h'⟩)
  · exact h h1
  · exact h' (h2 h)
/-- What is read of the three numbers so far. -/
def St (b : List UInt8) : Nat → Nat → Nat → Nat → Nat → Prop
  | 0, T, c0, c1, c2 => T = 0 ∧ c0 = 0 ∧ c1 = 0 ∧ c2 = 0
  | 1, T, c0, c1, c2 => ¬ ((rsF b 0 0).2.2 ≠ 0 ∨ 4096 < (rsF b 0 0).1) ∧ T = (rsF b 0 0).2.1 ∧ c0 = (rsF b 0 0).1 ∧ c1 = 0 ∧ c2 = 0
  | 2, T, c0, c1, c2 => ¬ ((rsF b 0 0).2.2 ≠ 0 ∨ 4096 < (rsF b 0 0).1) ∧ ¬ ((rsF (b.drop (rsF b 0 0).2.1) 0 0).2.2 ≠ 0 ∨ 4096 < (rsF (b.drop (rsF b 0 0).2.1) 0 0).1) ∧ T = (rsF b 0 0).2.1 + (rsF (b.drop (rsF b 0 0).2.1) 0 0).2.1 ∧ c0 = (rsF b 0 0).1 ∧ c1 = (rsF (b.drop (rsF b 0 0).2.1) 0 0).1 ∧ c2 = 0
  | _, T, c0, c1, c2 => th3 b = some (c0, c1, c2, T)
/-- Whether a short number may stand there. -/
def okS (r : Nat × Nat × Int) : Prop := ¬ (r.2.2 ≠ 0 ∨ 4096 < r.1)
theorem st_no {b : List UInt8} {j T c0 c1 c2 : Nat} (hj : j < 3) (h : St b j T c0 c1 c2) (hn : ¬ okS (rsF (b.drop T) 0 0)) : th3 b = none := by
  have hn' : (rsF (b.drop T) 0 0).2.2 ≠ 0 ∨ 4096 < (rsF (b.drop T) 0 0).1 := Classical.byContradiction fun e => hn e
  unfold th3
  match j, hj with
  | 0, _ =>
    obtain ⟨rfl, _⟩ := h
    rw [List.drop_zero] at hn'
    dsimp only
    rw [if_pos hn']
  | 1, _ =>
    obtain ⟨h0, rfl, _⟩ := h
    dsimp only
    rw [if_neg h0, if_pos hn']
  | 2, _ =>
    obtain ⟨h0, h1, rfl, _⟩ := h
    dsimp only
    rw [if_neg h0, if_neg h1, if_pos hn']
theorem st_yes0 {b : List UInt8} {T c0 c1 c2 : Nat} (h : St b 0 T c0 c1 c2) (hn : okS (rsF (b.drop T) 0 0)) : St b 1 (T + (rsF (b.drop T) 0 0).2.1) (rsF (b.drop T) 0 0).1 c1 c2 := by
  obtain ⟨rfl, rfl, rfl, rfl⟩ := h
  rw [List.drop_zero] at *
  exact ⟨hn, by omega, rfl, rfl, rfl⟩
theorem st_yes1 {b : List UInt8} {T c0 c1 c2 : Nat} (h : St b 1 T c0 c1 c2) (hn : okS (rsF (b.drop T) 0 0)) : St b 2 (T + (rsF (b.drop T) 0 0).2.1) c0 (rsF (b.drop T) 0 0).1 c2 := by
  obtain ⟨h0, rfl, rfl, rfl, rfl⟩ := h
  exact ⟨h0, hn, rfl, rfl, rfl, rfl⟩
theorem st_yes2 {b : List UInt8} {T c0 c1 c2 : Nat} (h : St b 2 T c0 c1 c2) (hn : okS (rsF (b.drop T) 0 0)) : St b 3 (T + (rsF (b.drop T) 0 0).2.1) c0 c1 (rsF (b.drop T) 0 0).1 := by
  obtain ⟨h0, h1, rfl, rfl, rfl, rfl⟩ := h
  show th3 b = _
  unfold th3
  dsimp only
  rw [if_neg h0, if_neg h1, if_neg hn]
theorem st_T {b : List UInt8} {j T c0 c1 c2 : Nat} (hj : j ≤ 3) (h : St b j T c0 c1 c2) : T ≤ b.length := by
  match j, hj with
  | 0, _ => obtain ⟨rfl, _⟩ := h; omega
  | 1, _ => obtain ⟨h0, rfl, _⟩ := h; exact (rs_back h0).2.2.1
  | 2, _ =>
    obtain ⟨h0, h1, rfl, _⟩ := h
    have a := (rs_back h0).2.2.1
    have c := (rs_back h1).2.2.1
    rw [List.length_drop] at c
    omega
  | 3, _ => exact (th3_back h).2.2.2.2.1
set_option maxRecDepth 100000 in
set_option maxHeartbeats 4000000 in
theorem next_any (vb va : Value) (b : List UInt8) (i : Nat) (hi : i < 9223372036854775808) (ah : Ks) (hbl : b.length ≤ 1000000) (w : World) (hB : Reads w vb b) (hA : Reads w va ah) :
    Calls Try.prog 94 #[vb, .int .i64 (i : Int), va] w fun e w' => Below w.heap.size w w' ∧ match nx b i ah with
      | none => e = .returned (.tuple #[.agg #[.slice none 0 0, .slice none 0 0], .int .i64 0])
      | some (x, t) => ∃ kv vv, e = .returned (.tuple #[.agg #[kv, vv], .int .i64 (t : Int)]) ∧ Own w' w.heap.size kv x.1 ∧ Own w' w.heap.size vv x.2 := by
  have HB : Hid (Reads w vb b) := hB
  have HA : Hid (Reads w va ah) := hA
  obtain ⟨ab, cb, rfl, hmb⟩ := hB.form
  obtain ⟨aa, ca, rfl, hma⟩ := hA.form
  unfold maxLen at hmb hma
  clear hB hA
  obtain ⟨w1, HW1⟩ := hid_ex ((w.alloc (.cells #[.slice none 0 0, .slice none 0 0] 53)).alloc (.cells #[.int .i64 0, .int .i64 0, .int .i64 0] 104))
  have HB1 : Hid (Below w.heap.size w w1) := by rw [HW1.out]; exact ((Below.refl _ _).alloc (Nat.le_refl _) _).alloc (by simp) _
  have HP1 : Hid (w1.heap[w.heap.size]? = some (.cells #[.slice none 0 0, .slice none 0 0] 53)) := by
    rw [HW1.out]
    exact (((Below.refl (w.heap.size + 1) (w.alloc (.cells #[.slice none 0 0, .slice none 0 0] 53))).alloc (by simp) _).block w.heap.size (by omega)).trans (World.alloc_heap_new _ _)
  have HS1 : Hid (w1.heap[w.heap.size + 1]? = some (.cells #[.int .i64 0, .int .i64 0, .int .i64 0] 104)) := by
    rw [HW1.out]
    have := World.alloc_heap_new (w.alloc (.cells #[.slice none 0 0, .slice none 0 0] 53)) (.cells #[.int .i64 0, .int .i64 0, .int .i64 0] 104)
    rw [World.size_alloc] at this
    exact this
  go_enter Try.func94, Try.ntmps94
  go_wp2_with fail
  refine wp_scope_jumps 0 (JNx b i ah w) (fun _ _ => 0) rfl ?_ ?_
  · go_wp2_with fail
    rw [← HW1.out]
    go_loopw [7, 16] (fun t j wr => ∃ k T c0 c1 c2 : Nat, k ≤ 3 ∧ j = .int .i64 (k : Int) ∧ t = .int .i64 (T : Int) ∧ Hid (St b k T c0 c1 c2) ∧ Hid (Below w.heap.size w wr) ∧ Hid (wr.heap[w.heap.size]? = some (.cells #[.slice none 0 0, .slice none 0 0] 53)) ∧ Hid (wr.heap[w.heap.size + 1]? = some (.cells #[.int .i64 (c0 : Int), .int .i64 (c1 : Int), .int .i64 (c2 : Int)] 104))) (fun _ j _ => 3 - (intOf j).toNat)
    case atStart => exact ⟨0, 0, 0, 0, 0, by omega, rfl, rfl, ⟨rfl, rfl, rfl, rfl⟩, HB1, HP1, HS1⟩
    case round =>
      clear HB1 HP1 HS1 HW1
      obtain ⟨k, T, c0, c1, c2, hk, rfl, rfl, HST, HBr, HPr, HSr⟩ := hrel
      have hT : T ≤ b.length := st_T hk HST.out
      by_cases hk3 : k < 3
      · obtain ⟨ad, cd, hsl, hrd⟩ := sl_from HB.out hT
        have HRd : Hid (Reads w (.slice ad (b.length - T) cd) (b.drop T)) := hrd
        clear hrd
        have hk4 : (k : Int) < 3 := by omega
        go_wp2_with fail
        clear hsl
        refine (readShort_any _ (b.drop T) _ (HRd.out.below HBr.out)).mono ?_
        rintro e w2 ⟨rfl, hb2⟩
        have HB2 : Hid (Below w.heap.size w w2) := HBr.out.trans (hb2.mono HBr.out.size)
        have HP2 : Hid (w2.heap[w.heap.size]? = _) := (hb2.block _ (Array.getElem?_eq_some_iff.1 HPr.out).1).trans HPr.out
        have HS2 : Hid (w2.heap[w.heap.size + 1]? = _) := (hb2.block _ (Array.getElem?_eq_some_iff.1 HSr.out).1).trans HSr.out
        clear hb2 HBr HPr HSr HRd
        obtain ⟨r, HR⟩ := hid_ex (rsF (b.drop T) 0 0)
        rw [← HR.out]
        obtain ⟨rv, rn, re⟩ := r
        dsimp only
        by_cases g1 : re = 0
        · subst g1
          by_cases g2 : rv ≤ 4096
          · have HOK : Hid (okS (rsF (b.drop T) 0 0)) := by rw [← HR.out]; intro h; rcases h with h | h <;> simp at h; omega
            have hg2 : ¬ (4096 : Int) < (rv : Int) := by omega
            have hrn : rn ≤ b.length := by
              have := (rs_back HOK.out).2.2.1
              rw [← HR.out, List.length_drop] at this
              dsimp only at this
              omega
            obtain rfl | rfl | rfl : k = 0 ∨ k = 1 ∨ k = 2 := by omega
            · have f0 := frozen_rw HS2.out 0
              have z0 := cell_rw HS2.out 0 (by simp)
              simp only [List.getElem_toArray, List.getElem_cons_zero] at z0
              have HB3 : Hid (Below w.heap.size w (w2.setCell ⟨w.heap.size + 1, 0, none⟩ (.int .i64 (rv : Int)))) := HB2.out.setCell (by simp) _
              have HP3 : Hid ((w2.setCell ⟨w.heap.size + 1, 0, none⟩ (.int .i64 (rv : Int))).heap[w.heap.size]? = _) := (Go.heap_setCell_other w2 ⟨w.heap.size + 1, 0, none⟩ w.heap.size _ (by simp)).trans HP2.out
              have HS3 : Hid ((w2.setCell ⟨w.heap.size + 1, 0, none⟩ (.int .i64 (rv : Int))).heap[w.heap.size + 1]? = some (.cells #[.int .i64 (rv : Int), .int .i64 (c1 : Int), .int .i64 (c2 : Int)] 104)) := by
                have := Go.heap_setCell_same w2 (w.heap.size + 1) 0 _ _ (.int .i64 (rv : Int)) HS2.out
                unfold Hid; simpa using this
              have HST3 : Hid (St b 1 (T + rn) rv c1 c2) := by
                have := st_yes0 HST.out HOK.out
                rw [← HR.out] at this
                exact this
              clear HB2 HP2 HS2 HOK HR HST
              go_wp2_with fail
              clear f0 z0
              go_roundw
              case rel => exact ⟨1, T + rn, rv, c1, c2, by omega, by go_num, by go_num, HST3, HB3, HP3, HS3⟩
              case measure => simp [intOf]
            · have f0 := frozen_rw HS2.out 1
              have z0 := cell_rw HS2.out 1 (by simp)
              simp only [List.getElem_toArray, List.getElem_cons_succ, List.getElem_cons_zero] at z0
              have HB3 : Hid (Below w.heap.size w (w2.setCell ⟨w.heap.size + 1, 1, none⟩ (.int .i64 (rv : Int)))) := HB2.out.setCell (by simp) _
              have HP3 : Hid ((w2.setCell ⟨w.heap.size + 1, 1, none⟩ (.int .i64 (rv : Int))).heap[w.heap.size]? = _) := (Go.heap_setCell_other w2 ⟨w.heap.size + 1, 1, none⟩ w.heap.size _ (by simp)).trans HP2.out
              have HS3 : Hid ((w2.setCell ⟨w.heap.size + 1, 1, none⟩ (.int .i64 (rv : Int))).heap[w.heap.size + 1]? = some (.cells #[.int .i64 (c0 : Int), .int .i64 (rv : Int), .int .i64 (c2 : Int)] 104)) := by
                have := Go.heap_setCell_same w2 (w.heap.size + 1) 1 _ _ (.int .i64 (rv : Int)) HS2.out
                unfold Hid; simpa using this
              have HST3 : Hid (St b 2 (T + rn) c0 rv c2) := by
                have := st_yes1 HST.out HOK.out
                rw [← HR.out] at this
                exact this
              clear HB2 HP2 HS2 HOK HR HST
              go_wp2_with fail
              clear f0 z0
              go_roundw
              case rel => exact ⟨2, T + rn, c0, rv, c2, by omega, by go_num, by go_num, HST3, HB3, HP3, HS3⟩
              case measure => simp [intOf]
            · have f0 := frozen_rw HS2.out 2
              have z0 := cell_rw HS2.out 2 (by simp)
              simp only [List.getElem_toArray, List.getElem_cons_succ, List.getElem_cons_zero] at z0
              have HB3 : Hid (Below w.heap.size w (w2.setCell ⟨w.heap.size + 1, 2, none⟩ (.int .i64 (rv : Int)))) := HB2.out.setCell (by simp) _
              have HP3 : Hid ((w2.setCell ⟨w.heap.size + 1, 2, none⟩ (.int .i64 (rv : Int))).heap[w.heap.size]? = _) := (Go.heap_setCell_other w2 ⟨w.heap.size + 1, 2, none⟩ w.heap.size _ (by simp)).trans HP2.out
              have HS3 : Hid ((w2.setCell ⟨w.heap.size + 1, 2, none⟩ (.int .i64 (rv : Int))).heap[w.heap.size + 1]? = some (.cells #[.int .i64 (c0 : Int), .int .i64 (c1 : Int), .int .i64 (rv : Int)] 104)) := by
                have := Go.heap_setCell_same w2 (w.heap.size + 1) 2 _ _ (.int .i64 (rv : Int)) HS2.out
                unfold Hid; simpa using this
              have HST3 : Hid (St b 3 (T + rn) c0 c1 rv) := by
                have := st_yes2 HST.out HOK.out
                rw [← HR.out] at this
                exact this
              clear HB2 HP2 HS2 HOK HR HST
              go_wp2_with fail
              clear f0 z0
              go_roundw
              case rel => exact ⟨3, T + rn, c0, c1, rv, by omega, by go_num, by go_num, HST3, HB3, HP3, HS3⟩
              case measure => simp [intOf]
          · have hg2 : (4096 : Int) < (rv : Int) := by omega
            have HNX : Hid (nx b i ah = none) := by
              unfold Hid nx
              rw [st_no hk3 HST.out (by rw [← HR.out]; exact fun h => h (.inr (by dsimp only; omega)))]
            clear HR
            go_wp2_with fail
            go_step3
            exact And.intro (a := 0 = 0) rfl ⟨HNX.out, HB2.out, ⟨_, _, HP2.out⟩, rfl, rfl, rfl⟩
        · have HNX : Hid (nx b i ah = none) := by
            unfold Hid nx
            rw [st_no hk3 HST.out (by rw [← HR.out]; exact fun h => h (.inl g1))]
          clear HR
          go_wp2_with fail
          go_step3
          exact And.intro (a := 0 = 0) rfl ⟨HNX.out, HB2.out, ⟨_, _, HP2.out⟩, rfl, rfl, rfl⟩
      · obtain rfl : k = 3 := by omega
        obtain ⟨t1, t2, t3, t4, t5, -, -⟩ := th3_back (show th3 b = some (c0, c1, c2, T) from HST.out)
        have HTH : Hid (th3 b = some (c0, c1, c2, T)) := HST.out
        clear HST
        have z0 := cell_rw HSr.out 0 (by simp)
        have z1 := cell_rw HSr.out 1 (by simp)
        have z2 := cell_rw HSr.out 2 (by simp)
        simp only [List.getElem_toArray, List.getElem_cons_succ, List.getElem_cons_zero] at z0 z1 z2
        go_wp2_with fail
        go_quiet (fail)
        clear z0 z1 z2 HSr
        obtain ⟨w2, HW2⟩ := hid_ex (wr.drewN nq)
        have HB2 : Hid (Below w.heap.size w w2) := by rw [HW2.out]; exact below_drewN HBr.out nq
        have HP2 : Hid (w2.heap[w.heap.size]? = some (.cells #[.slice none 0 0, .slice none 0 0] 53)) := by rw [HW2.out]; exact HPr.out
        rw [← HW2.out]
        clear HW2 HBr HPr
        by_cases e1 : (ah.length : Int) < (c0 : Int)
        · have HNX : Hid (nx b i ah = none) := by unfold Hid nx; rw [HTH.out]; dsimp only; rw [if_pos (by omega)]
          go_wp2_with fail
          go_step3
          exact And.intro (a := 0 = 0) rfl ⟨HNX.out, HB2.out, ⟨_, _, HP2.out⟩, rfl, rfl, rfl⟩
        by_cases e2 : (4096 : Int) < (c0 : Int) + (c1 : Int)
        · have HNX : Hid (nx b i ah = none) := by unfold Hid nx; rw [HTH.out]; dsimp only; rw [if_pos (by omega)]
          go_wp2_with fail
          go_step3
          exact And.intro (a := 0 = 0) rfl ⟨HNX.out, HB2.out, ⟨_, _, HP2.out⟩, rfl, rfl, rfl⟩
        by_cases e3 : (b.length : Int) - (T : Int) < (c1 : Int) + (c2 : Int)
        · have HNX : Hid (nx b i ah = none) := by unfold Hid nx; rw [HTH.out]; dsimp only; rw [if_pos (by omega)]
          go_wp2_with fail
          go_step3
          exact And.intro (a := 0 = 0) rfl ⟨HNX.out, HB2.out, ⟨_, _, HP2.out⟩, rfl, rfl, rfl⟩
        obtain ⟨KK, HK⟩ := hid_ex (ah.take c0 ++ (b.drop T).take c1)
        obtain ⟨V, HV⟩ := hid_ex ((b.drop (T + c1)).take c2)
        have HNE : Hid (nx b i ah = if c0 ≠ svd i ah KK ∨ (0 < i ∧ ¬ ltK ah KK) then none else some ((KK, V), T + c1 + c2)) := by
          unfold Hid nx
          rw [HTH.out]
          dsimp only
          rw [if_neg (by omega), ← HK.out, ← HV.out]
        obtain ⟨D, hD⟩ : ∃ D : Nat, (T : Int) + (c1 : Int) = (D : Int) := ⟨T + c1, by omega⟩
        obtain ⟨D2, hD2⟩ : ∃ D2 : Nat, (D : Int) + (c2 : Int) = (D2 : Int) := ⟨D + c2, by omega⟩
        obtain ⟨a1, f1, hs1, hr1⟩ := sl_upto HA.out (d := c0) (by omega)
        obtain ⟨a2, f2, hs2, hr2⟩ := sl_part HB.out (c := T) (d := D) (by omega) (by omega)
        obtain ⟨a3, f3, hs3, hr3⟩ := sl_part HB.out (c := D) (d := D2) (by omega) (by omega)
        have HR1 : Hid (Reads w (.slice a1 c0 f1) (ah.take c0)) := hr1
        have HR2 : Hid (Reads w (.slice a2 (D - T) f2) ((b.drop T).take c1)) := by
          have e : (b.drop T).take c1 = (b.take D).drop T := by rw [List.drop_take]; congr 1; omega
          rw [e]; exact hr2
        have HR3 : Hid (Reads w (.slice a3 (D2 - D) f3) V) := by
          have e : V = (b.take D2).drop D := by rw [HV.out, List.drop_take, show D = T + c1 by omega]; congr 1; omega
          rw [e]; exact hr3
        clear hr1 hr2 hr3 HTH
        have f0 := frozen_rw HP2.out 0
        go_wp2_with fail
        refine wp_region_noPanic ?_
        refine wp_region_held_drew (S := (fun w' => Below w.heap.size w w')) (by kernel_rfl) ?_ (fun hHeld => ?_)
        · exact HB2.out.drew
        refine tk (i := 0) (v := .slice aa ah.length ca) rfl ?_ ?_
        · intro w1 hSw; go_simp
        simp only [za, zc, Act.put, zd, ze, zf]
        refine tk (i := 1) (v := .int .i64 (c0 : Int)) rfl ?_ ?_
        · intro w1 hSw; go_simp
        simp only [za, zb, zc, Act.put, zd, ze, zf]
        refine tk (i := 2) (v := .slice a1 c0 f1) rfl ?_ ?_
        · intro w1 hSw; go_simp
        simp only [za, zb, zc, Act.put, zd, ze, zf]
        refine tk (i := 3) (v := .slice ab b.length cb) rfl ?_ ?_
        · intro w1 hSw; go_simp
        simp only [za, zb, zc, Act.put, zd, ze, zf]
        refine tk (i := 4) (v := .int .i64 (T : Int)) rfl ?_ ?_
        · intro w1 hSw; go_simp
        simp only [za, zb, zc, Act.put, zd, ze, zf]
        refine tk (i := 5) (v := .int .i64 (T : Int)) rfl ?_ ?_
        · intro w1 hSw; go_simp
        simp only [za, zb, zc, Act.put, zd, ze, zf]
        refine tk (i := 6) (v := .int .i64 (c1 : Int)) rfl ?_ ?_
        · intro w1 hSw; go_simp
        simp only [za, zb, zc, Act.put, zd, ze, zf]
        refine tk (i := 7) (v := .int .i64 (D : Int)) rfl ?_ ?_
        · (intro w1 hSw; (try dsimp only at hSw); go_simp; (rw [IntKind.wrap_i64]; omega))
        simp only [za, zb, zc, Act.put, zd, ze, zf]
        refine tk (i := 8) (v := .slice a2 (D - T) f2) rfl ?_ ?_
        · intro w1 hSw; go_simp
        simp only [za, zb, zc, Act.put, zd, ze, zf]
        refine wpAnyH_ready (rs := [9]) (by kernel_rfl) (by simp) ?_
        refine AllReadyH.cons (o := _) rfl (fun K hK => ?_) AllReadyH.nil
        go_simp
        refine (joined_any _ _ (ah.take c0) ((b.drop T).take c1) (by simp; omega) _ (HR1.out.below HB2.out.drew) (HR2.out.below HB2.out.drew)).mono ?_
        rintro e w5 ⟨v5, rfl, ho5, hb5⟩
        rw [← HK.out] at ho5
        have HB5 : Hid (Below w.heap.size w w5) := HB2.out.drew.trans (hb5.mono HB2.out.size)
        have HP5 : Hid (w5.heap[w.heap.size]? = some (.cells #[.slice none 0 0, .slice none 0 0] 53)) := (hb5.block _ (Array.getElem?_eq_some_iff.1 HP2.out).1).trans HP2.out
        obtain ⟨a5, c5, rfl, hm5⟩ := ho5.form
        have HO5 : Hid (Own w5 w.heap.size (.slice a5 KK.length c5) KK) := ho5.mono HB2.out.size
        clear hb5 ho5 HB2 HP2 f0
        refine hK.out _ _ ?_ (fun hHeld => ?_)
        · exact HB5.out
        clear hK K
        refine tk (i := 10) (v := .pointer (some ⟨w.heap.size, 0, none⟩)) rfl ?_ ?_
        · intro w1 hSw; go_simp
        simp only [za, zb, zc, Act.put, zd, ze, zf]
        have f0 := frozen_rw HP5.out 0
        have z0 := cell_rw HP5.out 0 (by simp)
        simp only [List.getElem_toArray, List.getElem_cons_zero] at z0
        refine wpAnyH_ready (rs := [11]) (by kernel_rfl) (by simp) ?_
        refine AllReadyH.cons (o := _) rfl (fun K hK => ?_) AllReadyH.nil
        go_simp
        obtain ⟨w6, HW6⟩ := hid_ex (w5.setCell ⟨w.heap.size, 0, none⟩ (.slice a5 KK.length c5))
        have HB6 : Hid (Below w.heap.size w w6) := by rw [HW6.out]; exact HB5.out.setCell (by simp) _
        have HP6 : Hid (w6.heap[w.heap.size]? = some (.cells #[.slice a5 KK.length c5, .slice none 0 0] 53)) := by
          rw [HW6.out]
          have := Go.heap_setCell_same w5 w.heap.size 0 _ _ (.slice a5 KK.length c5) HP5.out
          unfold Hid; simpa using this
        have HO6 : Hid (Own w6 w.heap.size (.slice a5 KK.length c5) KK) := by rw [HW6.out]; exact own_setB _ HO5.out HP5.out (by decide)
        rw [← HW6.out]
        refine hK.out _ _ ?_ (fun hHeld => ?_)
        · exact HB6.out
        clear hK K
        clear hHeld z0 f0 HB5 HP5 HO5 HW6 HR1 HR2
        refine wpAnyH_done (by kernel_rfl) ?_ _
        refine NoPanic.normal ?_
        go_wp2_with fail
        refine (joined_any _ _ [] V (by simp [HV.out]; omega) _ (.inl ⟨rfl, _, _, rfl, fun _ => rfl⟩) (HR3.out.below HB6.out)).mono ?_
        rintro e w7 ⟨v7, rfl, ho7, hb7⟩
        rw [List.nil_append] at ho7
        have HB7 : Hid (Below w.heap.size w w7) := HB6.out.trans (hb7.mono HB6.out.size)
        have HP7 : Hid (w7.heap[w.heap.size]? = some (.cells #[.slice a5 KK.length c5, .slice none 0 0] 53)) := (hb7.block _ (Array.getElem?_eq_some_iff.1 HP6.out).1).trans HP6.out
        have HO7 : Hid (Own w7 w.heap.size (.slice a5 KK.length c5) KK) := HO6.out.below hb7
        obtain ⟨a7, c7, rfl, hm7⟩ := ho7.form
        have HU7 : Hid (Own w7 w.heap.size (.slice a7 V.length c7) V) := ho7.mono HB6.out.size
        clear hb7 ho7 HB6 HP6 HO6 hs1 hs2 hs3 HR3
        have f1 := frozen_rw HP7.out 1
        have z1 := cell_rw HP7.out 1 (by simp)
        have y0 := cell_rw HP7.out 0 (by simp)
        simp only [List.getElem_toArray, List.getElem_cons_succ, List.getElem_cons_zero] at z1 y0
        obtain ⟨w8, HW8⟩ := hid_ex (w7.setCell ⟨w.heap.size, 1, none⟩ (.slice a7 V.length c7))
        have HB8 : Hid (Below w.heap.size w w8) := by rw [HW8.out]; exact HB7.out.setCell (by simp) _
        have HP8 : Hid (w8.heap[w.heap.size]? = some (.cells #[.slice a5 KK.length c5, .slice a7 V.length c7] 53)) := by
          rw [HW8.out]
          have := Go.heap_setCell_same w7 w.heap.size 1 _ _ (.slice a7 V.length c7) HP7.out
          unfold Hid; simpa using this
        have HO8 : Hid (Own w8 w.heap.size (.slice a5 KK.length c5) KK) := by rw [HW8.out]; exact own_setB _ HO7.out HP7.out (by decide)
        have HU8 : Hid (Own w8 w.heap.size (.slice a7 V.length c7) V) := by rw [HW8.out]; exact own_setB _ HU7.out HP7.out (by decide)
        go_wp2_with fail
        rw [← HW8.out]
        clear f1 z1 y0 HB7 HP7 HO7 HU7 HW8
        refine (saved_any i hi _ _ ah KK _ (HA.out.below HB8.out) HO8.out.reads).mono ?_
        rintro e w9 ⟨rfl, hb9⟩
        have HB9 : Hid (Below w.heap.size w w9) := HB8.out.trans (hb9.mono HB8.out.size)
        have HP9 : Hid (w9.heap[w.heap.size]? = some (.cells #[.slice a5 KK.length c5, .slice a7 V.length c7] 53)) := (hb9.block _ (Array.getElem?_eq_some_iff.1 HP8.out).1).trans HP8.out
        have HO9 : Hid (Own w9 w.heap.size (.slice a5 KK.length c5) KK) := HO8.out.below hb9
        have HU9 : Hid (Own w9 w.heap.size (.slice a7 V.length c7) V) := HU8.out.below hb9
        clear hb9 HB8 HP8 HO8 HU8
        obtain ⟨sv, HSV⟩ := hid_ex (svd i ah KK)
        rw [← HSV.out] at HNE
        rw [← HSV.out]
        clear HSV HK HV
        have z0 := cell_rw HP9.out 0 (by simp)
        simp only [List.getElem_toArray, List.getElem_cons_zero] at z0
        by_cases hq : (c0 : Int) = (sv : Int)
        · by_cases hi0 : (0 : Int) < (i : Int)
          · go_wp2_with fail
            refine (cmp_any _ _ ah KK _ (HA.out.below HB9.out) HO9.out.reads).mono ?_
            rintro e w10 ⟨rfl, hw10⟩
            subst w10
            by_cases hlt : ltK ah KK
            · have hc : Lib.compareBytes ah KK = -1 := hlt
              rw [hc]
              have HNX : Hid (nx b i ah = some ((KK, V), D2)) := by
                unfold Hid; rw [HNE.out, if_neg (nx_cond (by omega) (fun h => by first | exact hlt | omega)), show T + c1 + c2 = D2 by omega]
              have z1 := cell_rw HP9.out 1 (by simp)
              have f0 := frozen_rw HP9.out 0
              have f1 := frozen_rw HP9.out 1
              simp only [List.getElem_toArray, List.getElem_cons_succ, List.getElem_cons_zero] at z1
              have HB10 : Hid (Below w.heap.size w ((w9.setCell ⟨w.heap.size, 0, none⟩ (.slice a5 KK.length c5)).setCell ⟨w.heap.size, 1, none⟩ (.slice a7 V.length c7))) := (HB9.out.setCell (by simp) _).setCell (by simp) _
              have HP10 : Hid _ := set2 HP9.out (.slice a5 KK.length c5) (.slice a7 V.length c7)
              have HO10 : Hid (Own ((w9.setCell ⟨w.heap.size, 0, none⟩ (.slice a5 KK.length c5)).setCell ⟨w.heap.size, 1, none⟩ (.slice a7 V.length c7)) w.heap.size (.slice a5 KK.length c5) KK) := own_setB _ (own_setB _ HO9.out HP9.out (by decide)) (Go.heap_setCell_same w9 w.heap.size 0 _ _ _ HP9.out) (by decide)
              have HU10 : Hid (Own ((w9.setCell ⟨w.heap.size, 0, none⟩ (.slice a5 KK.length c5)).setCell ⟨w.heap.size, 1, none⟩ (.slice a7 V.length c7)) w.heap.size (.slice a7 V.length c7) V) := own_setB _ (own_setB _ HU9.out HP9.out (by decide)) (Go.heap_setCell_same w9 w.heap.size 0 _ _ _ HP9.out) (by decide)
              go_wp2_with fail
              rw [jump_ret']
              exact bodyPost_ret (results_rt rfl _ _ w.heap.size _ rfl (run_loadVar_row _ w.heap.size _ _ _ (0, 0) _ HP10.out Try.underlying53 rfl (by kernel_rfl))) rfl ⟨HB10.out, by rw [HNX.out]; exact ⟨_, _, rfl, HO10.out, HU10.out⟩⟩
            · have hc : 0 ≤ Lib.compareBytes ah KK := cmp_ge.2 hlt
              have HNX : Hid (nx b i ah = none) := by unfold Hid; rw [HNE.out, if_pos (.inr ⟨by omega, hlt⟩)]
              go_wp2_with fail
              go_step3
              exact And.intro (a := 0 = 0) rfl ⟨HNX.out, HB9.out, ⟨_, _, HP9.out⟩, rfl, rfl, rfl⟩
          · have HNX : Hid (nx b i ah = some ((KK, V), D2)) := by
              unfold Hid; rw [HNE.out, if_neg (nx_cond (by omega) (fun h => by first | exact hlt | omega)), show T + c1 + c2 = D2 by omega]
            have z1 := cell_rw HP9.out 1 (by simp)
            have f0 := frozen_rw HP9.out 0
            have f1 := frozen_rw HP9.out 1
            simp only [List.getElem_toArray, List.getElem_cons_succ, List.getElem_cons_zero] at z1
            have HB10 : Hid (Below w.heap.size w ((w9.setCell ⟨w.heap.size, 0, none⟩ (.slice a5 KK.length c5)).setCell ⟨w.heap.size, 1, none⟩ (.slice a7 V.length c7))) := (HB9.out.setCell (by simp) _).setCell (by simp) _
            have HP10 : Hid _ := set2 HP9.out (.slice a5 KK.length c5) (.slice a7 V.length c7)
            have HO10 : Hid (Own ((w9.setCell ⟨w.heap.size, 0, none⟩ (.slice a5 KK.length c5)).setCell ⟨w.heap.size, 1, none⟩ (.slice a7 V.length c7)) w.heap.size (.slice a5 KK.length c5) KK) := own_setB _ (own_setB _ HO9.out HP9.out (by decide)) (Go.heap_setCell_same w9 w.heap.size 0 _ _ _ HP9.out) (by decide)
            have HU10 : Hid (Own ((w9.setCell ⟨w.heap.size, 0, none⟩ (.slice a5 KK.length c5)).setCell ⟨w.heap.size, 1, none⟩ (.slice a7 V.length c7)) w.heap.size (.slice a7 V.length c7) V) := own_setB _ (own_setB _ HU9.out HP9.out (by decide)) (Go.heap_setCell_same w9 w.heap.size 0 _ _ _ HP9.out) (by decide)
            go_wp2_with fail
            rw [jump_ret']
            exact bodyPost_ret (results_rt rfl _ _ w.heap.size _ rfl (run_loadVar_row _ w.heap.size _ _ _ (0, 0) _ HP10.out Try.underlying53 rfl (by kernel_rfl))) rfl ⟨HB10.out, by rw [HNX.out]; exact ⟨_, _, rfl, HO10.out, HU10.out⟩⟩
        · have HNX : Hid (nx b i ah = none) := by unfold Hid; rw [HNE.out, if_pos (.inl (by omega))]
          go_wp2_with fail
          go_step3
          exact And.intro (a := 0 = 0) rfl ⟨HNX.out, HB9.out, ⟨_, _, HP9.out⟩, rfl, rfl, rfl⟩
  · rintro ⟨tmps, df⟩ w' ⟨hnx, hbw, ⟨x, y, hz⟩, hd, hsz, h6⟩
    dsimp only at hd hsz h6
    subst hd
    obtain ⟨u0, u1, u2, u3, u4, u5, u6, u7, u8, u9, u10, u11, u12, u13, u14, u15, u16, u17, u18, u19, u20, u21, u22, u23, u24, u25, u26, u27, u28, u29, u30, u31, u32, u33, u34, u35, u36, u37, u38, u39, u40, u41, u42, u43, u44, u45, u46, u47, u48, u49, u50, u51, u52, u53, u54, u55, u56, u57, u58, u59, u60, u61, u62, u63, u64, u65, u66, u67, u68, u69, u70, u71, u72, u73, u74, u75, u76, u77, u78, u79, u80, u81, u82, u83, u84, u85, u86, u87, u88, u89, u90, u91, u92, u93, u94, u95, u96, u97, u98, u99, u100, u101, u102, u103, u104, u105, u106, u107, u108, u109, u110, u111, u112, rfl⟩ := arr113 hsz
    obtain rfl : u6 = .pointer (some ⟨w.heap.size, 0, none⟩) := h6
    have HNX : Hid (nx b i ah = none) := hnx
    have HBW : Hid (Below w.heap.size w w') := hbw
    have HZ : Hid (w'.heap[w.heap.size]? = _) := hz
    clear hnx hbw hz HB1 HP1 HS1 HW1
    have f0 := frozen_rw HZ.out 0
    have f1 := frozen_rw HZ.out 1
    have z0 := cell_rw HZ.out 0 (by simp)
    have z1 := cell_rw HZ.out 1 (by simp)
    simp only [List.getElem_toArray, List.getElem_cons_succ, List.getElem_cons_zero] at z0 z1
    go_wp2_with fail
    rw [jump_ret']
    have HB3 : Hid (Below w.heap.size w ((w'.setCell ⟨w.heap.size, 0, none⟩ (.slice none 0 0)).setCell ⟨w.heap.size, 1, none⟩ (.slice none 0 0))) := (HBW.out.setCell (by simp) _).setCell (by simp) _
    exact bodyPost_ret (results_rt rfl _ _ w.heap.size _ rfl (run_loadVar_row _ w.heap.size _ _ _ (0, 0) _ (set2 HZ.out _ _) Try.underlying53 rfl (by kernel_rfl))) rfl ⟨HB3.out, by rw [HNX.out]; rfl⟩
end Go.Proofs.Ytlpjdfgknmfmnaa
