/- The contract of the list's before. -/
import Derived.Test.YtbeemkcdpmbhmaaS3
namespace Go.Proofs.Ytbeemkcdpmbhmaa
open Go.RowKit

def ar8 (G : Nat → Value) : Array Value := #[G 0, G 1, G 2, G 3, G 4, G 5, G 6, G 7]
theorem ar8_set (G : Nat → Value) (k : Nat) (hk : k < 8) (v : Value) : (ar8 G).setIfInBounds k v = ar8 fun j => if j = k then v else G j := by
  match k, hk with
  | 0, _ | 1, _ | 2, _ | 3, _ | 4, _ | 5, _ | 6, _ | 7, _ => simp [ar8]
theorem ar8_congr {G H : Nat → Value} (h : ∀ k, k < 8 → G k = H k) : ar8 G = ar8 H := by
  unfold ar8
  rw [h 0 (by decide), h 1 (by decide), h 2 (by decide), h 3 (by decide), h 4 (by decide), h 5 (by decide), h 6 (by decide), h 7 (by decide)]
theorem ar8_at (G : Nat → Value) (k : Nat) (hk : k < 8) : (ar8 G)[k]? = some (G k) := by
  match k, hk with
  | 0, _ | 1, _ | 2, _ | 3, _ | 4, _ | 5, _ | 6, _ | 7, _ => simp [ar8]
theorem blk_inj {w : World} {base L0 : Nat} {N : List Nd} {F : Nat → Nat → Value} {m sz : Int} {fr : Bool} (h : SLm w base L0 N F m sz fr) : ∀ {p q : Nat}, p ≤ N.length → q ≤ N.length → blk L0 N p = blk L0 N q → p = q := by
  have h0 : ∀ i (hi : i < N.length), N[i].b ≠ L0 := by
    intro i hi e
    have h1 := h.nd i hi
    rw [e, h.hd] at h1
    simp at h1
  intro p q hp hq e
  cases p with
  | zero => cases q with
    | zero => rfl
    | succ q => rw [blk_at (by omega)] at e; exact absurd e.symm (h0 q (by omega))
  | succ p => cases q with
    | zero => rw [blk_at (by omega)] at e; exact absurd e (h0 p (by omega))
    | succ q =>
      rw [blk_at (by omega), blk_at (by omega)] at e
      have hn := List.pairwise_iff_getElem.1 h.ne
      rcases Nat.lt_trichotomy p q with h1 | h1 | h1
      · exact absurd (by rw [List.getElem_map, List.getElem_map]; exact e) (hn p q (by simp; omega) (by simp; omega) h1)
      · omega
      · exact absurd (by rw [List.getElem_map, List.getElem_map]; exact e.symm) (hn q p (by simp; omega) (by simp; omega) h1)
def pIdx (L0 : Nat) (N : List Nd) (v : Value) : Nat :=
  match v with
  | .pointer (some a) => ((List.range (N.length + 1)).find? fun q => blk L0 N q == a.block).getD 0
  | _ => 0
theorem pIdx_blk {w : World} {base L0 : Nat} {N : List Nd} {F : Nat → Nat → Value} {m sz : Int} {fr : Bool} (h : SLm w base L0 N F m sz fr) {p : Nat} (hp : p ≤ N.length) : pIdx L0 N (.pointer (some ⟨blk L0 N p, 0, none⟩)) = p := by
  unfold pIdx
  have e : (List.range (N.length + 1)).find? (fun q => blk L0 N q == blk L0 N p) = some p := by
    rw [List.find?_eq_some_iff_getElem]
    refine ⟨by simp, p, by simp; omega, by simp, fun j hj => ?_⟩
    simp
    intro e
    have := blk_inj h (by omega) hp e
    omega
  simp only [e]; rfl
def ArB (w : World) (b : Nat) (G : Nat → Value) : Prop := w.heap[b]? = some (.cells (ar8 G) 52)
theorem ArB.cell {w : World} {b : Nat} {G : Nat → Value} (h : ArB w b G) {k : Nat} (hk : k < 8) : w.cell? ⟨b, k, none⟩ = some (G k) ∧ w.frozen? ⟨b, k, none⟩ = false := by
  refine ⟨?_, by simp [World.frozen?, show w.heap[b]? = _ from h]⟩
  simp [World.cell?, show w.heap[b]? = _ from h, ar8_at G k hk]
theorem ArB.set {w : World} {b : Nat} {G : Nat → Value} (h : ArB w b G) {k : Nat} (hk : k < 8) (v : Value) : ArB (w.setCell ⟨b, k, none⟩ v) b fun j => if j = k then v else G j := by
  unfold ArB; rw [← ar8_set G k hk v]; exact Go.heap_setCell_same w b k _ _ v h
set_option maxRecDepth 100000 in
set_option maxHeartbeats 1000000 in
theorem before_any (L0 : Nat) (N : List Nd) (sz : Int) (fr : Bool) (kv : Value) (key : Ks) (w : World) (base : Nat) (hS : SL w base L0 N sz fr) (hR : Reads w kv key) :
    Calls Try.prog 21 #[.pointer (some ⟨L0, 0, none⟩), kv] w fun e w' => e = .returned (.agg (ar8 fun k => .pointer (some ⟨blk L0 N (bp N k (plK (N.map Nd.k) key)), 0, none⟩))) ∧ Below w.heap.size w w' := by
  have HS : Hid (SL w base L0 N sz fr) := hS
  have HR : Hid (Reads w kv key) := hR
  obtain ⟨ak, ck, rfl, _⟩ := hR.form
  clear hS hR
  obtain ⟨i, Hi⟩ := hid_ex (plK (N.map Nd.k) key)
  have hiN : i ≤ N.length := by rw [Hi.out]; have := plK_le (N.map Nd.k) key; simpa using this
  rw [← Hi.out]
  go_enter Try.func21, Try.ntmps21
  go_wp2_with fail
  go_step3
  go_wp2_with fail
  go_step3
  go_wp2_with fail
  have HA0 : Hid (ArB ((w.alloc (.cells #[.pointer none, .pointer none, .pointer none, .pointer none, .pointer none, .pointer none, .pointer none, .pointer none] 52)).alloc (.cells #[.pointer none, .pointer none, .pointer none, .pointer none, .pointer none, .pointer none, .pointer none, .pointer none] 52)) (w.heap.size + 1) fun _ => .pointer none) := by
    have := World.alloc_heap_new (w.alloc (.cells #[.pointer none, .pointer none, .pointer none, .pointer none, .pointer none, .pointer none, .pointer none, .pointer none] 52)) (.cells #[.pointer none, .pointer none, .pointer none, .pointer none, .pointer none, .pointer none, .pointer none, .pointer none] 52)
    rw [World.size_alloc] at this; exact this
  have HR0 : Hid (ArB ((w.alloc (.cells #[.pointer none, .pointer none, .pointer none, .pointer none, .pointer none, .pointer none, .pointer none, .pointer none] 52)).alloc (.cells #[.pointer none, .pointer none, .pointer none, .pointer none, .pointer none, .pointer none, .pointer none, .pointer none] 52)) w.heap.size fun _ => .pointer none) :=
    (((Below.refl (w.heap.size + 1) _).alloc (by simp) _).block w.heap.size (by omega)).trans (World.alloc_heap_new w _)
  have HB0 : Hid (Below w.heap.size w ((w.alloc (.cells #[.pointer none, .pointer none, .pointer none, .pointer none, .pointer none, .pointer none, .pointer none, .pointer none] 52)).alloc (.cells #[.pointer none, .pointer none, .pointer none, .pointer none, .pointer none, .pointer none, .pointer none, .pointer none] 52))) := ((Below.refl _ _).alloc (Nat.le_refl _) _).alloc (by simp) _
  go_loopw [6, 7] (fun a6 a7 wr => ∃ (m p : Nat) (G : Nat → Value), m ≤ 8 ∧ a7 = .int .i64 ((m : Int) - 1) ∧ a6 = .pointer (some ⟨blk L0 N p, 0, none⟩) ∧ p ≤ i ∧ m ≤ hgt N p ∧ Hid (∀ k, m ≤ k → k < 8 → G k = .pointer (some ⟨blk L0 N (bp N k i), 0, none⟩)) ∧ Hid (ArB wr (w.heap.size + 1) G) ∧ Hid (ArB wr w.heap.size fun _ => .pointer none) ∧ Hid (Below w.heap.size w wr)) (fun _ a7 _ => ((intOf a7) + 1).toNat)
  case atStart => exact ⟨8, 0, _, Nat.le_refl _, rfl, rfl, Nat.zero_le _, Nat.le_refl _, (fun k h1 h2 => by omega), HA0, HR0, HB0⟩
  case round =>
    clear HA0 HR0 HB0
    obtain ⟨m, p, G, hm, rfl, rfl, hp, hh, HG, HA, HR1, HB⟩ := hrel
    cases m with
    | zero =>
      have c0 := (HA.out.cell (k := 0) (by decide)).1
      rw [HG.out 0 (by omega) (by decide)] at c0
      obtain ⟨z0, f0⟩ := HR1.out.cell (k := 0) (by decide)
      have c1 := (HA.out.cell (k := 1) (by decide)).1
      rw [HG.out 1 (by omega) (by decide)] at c1
      obtain ⟨z1, f1⟩ := HR1.out.cell (k := 1) (by decide)
      have c2 := (HA.out.cell (k := 2) (by decide)).1
      rw [HG.out 2 (by omega) (by decide)] at c2
      obtain ⟨z2, f2⟩ := HR1.out.cell (k := 2) (by decide)
      have c3 := (HA.out.cell (k := 3) (by decide)).1
      rw [HG.out 3 (by omega) (by decide)] at c3
      obtain ⟨z3, f3⟩ := HR1.out.cell (k := 3) (by decide)
      have c4 := (HA.out.cell (k := 4) (by decide)).1
      rw [HG.out 4 (by omega) (by decide)] at c4
      obtain ⟨z4, f4⟩ := HR1.out.cell (k := 4) (by decide)
      have c5 := (HA.out.cell (k := 5) (by decide)).1
      rw [HG.out 5 (by omega) (by decide)] at c5
      obtain ⟨z5, f5⟩ := HR1.out.cell (k := 5) (by decide)
      have c6 := (HA.out.cell (k := 6) (by decide)).1
      rw [HG.out 6 (by omega) (by decide)] at c6
      obtain ⟨z6, f6⟩ := HR1.out.cell (k := 6) (by decide)
      have c7 := (HA.out.cell (k := 7) (by decide)).1
      rw [HG.out 7 (by omega) (by decide)] at c7
      obtain ⟨z7, f7⟩ := HR1.out.cell (k := 7) (by decide)
      have HAR : Hid _ := ((((((((HR1.out.set (k := 0) (by decide) (.pointer (some ⟨blk L0 N (bp N 0 i), 0, none⟩))).set (k := 1) (by decide) (.pointer (some ⟨blk L0 N (bp N 1 i), 0, none⟩))).set (k := 2) (by decide) (.pointer (some ⟨blk L0 N (bp N 2 i), 0, none⟩))).set (k := 3) (by decide) (.pointer (some ⟨blk L0 N (bp N 3 i), 0, none⟩))).set (k := 4) (by decide) (.pointer (some ⟨blk L0 N (bp N 4 i), 0, none⟩))).set (k := 5) (by decide) (.pointer (some ⟨blk L0 N (bp N 5 i), 0, none⟩))).set (k := 6) (by decide) (.pointer (some ⟨blk L0 N (bp N 6 i), 0, none⟩))).set (k := 7) (by decide) (.pointer (some ⟨blk L0 N (bp N 7 i), 0, none⟩)))
      have HBR : Hid _ := ((((((((HB.out.setCell (p := ⟨w.heap.size, 0, none⟩) (Nat.le_refl _) (.pointer (some ⟨blk L0 N (bp N 0 i), 0, none⟩))).setCell (p := ⟨w.heap.size, 1, none⟩) (Nat.le_refl _) (.pointer (some ⟨blk L0 N (bp N 1 i), 0, none⟩))).setCell (p := ⟨w.heap.size, 2, none⟩) (Nat.le_refl _) (.pointer (some ⟨blk L0 N (bp N 2 i), 0, none⟩))).setCell (p := ⟨w.heap.size, 3, none⟩) (Nat.le_refl _) (.pointer (some ⟨blk L0 N (bp N 3 i), 0, none⟩))).setCell (p := ⟨w.heap.size, 4, none⟩) (Nat.le_refl _) (.pointer (some ⟨blk L0 N (bp N 4 i), 0, none⟩))).setCell (p := ⟨w.heap.size, 5, none⟩) (Nat.le_refl _) (.pointer (some ⟨blk L0 N (bp N 5 i), 0, none⟩))).setCell (p := ⟨w.heap.size, 6, none⟩) (Nat.le_refl _) (.pointer (some ⟨blk L0 N (bp N 6 i), 0, none⟩))).setCell (p := ⟨w.heap.size, 7, none⟩) (Nat.le_refl _) (.pointer (some ⟨blk L0 N (bp N 7 i), 0, none⟩)))
      clear HG HA HR1 HB
      go_wp2_with fail
      rw [Exit.noGoto_ret]
      refine bodyPost_ret (results_cell_row rfl _ _ w.heap.size _ _ (0, 0) _ rfl HAR.out Try.underlying52 rfl (by kernel_rfl)) rfl ⟨?_, HBR.out⟩
      congr 2
    | succ m =>
      have em : ((m + 1 : Nat) : Int) - 1 = (m : Int) := by omega
      rw [em]
      clear em
      go_wp2_with fail
      rename World => wo
      go_loopw [6] (fun a6 wr => ∃ (p : Nat) (G : Nat → Value), a6 = .pointer (some ⟨blk L0 N p, 0, none⟩) ∧ p ≤ i ∧ m < hgt N p ∧ Hid (∀ k, m + 1 ≤ k → k < 8 → G k = .pointer (some ⟨blk L0 N (bp N k i), 0, none⟩)) ∧ Hid (ArB wr (w.heap.size + 1) G) ∧ Hid (ArB wr w.heap.size fun _ => .pointer none) ∧ Hid (Below w.heap.size w wr)) (fun a6 _ => i - pIdx L0 N a6)
      case atStart => exact ⟨p, G, rfl, hp, by omega, HG, HA, HR1, HB⟩
      case round =>
        clear HG HA HR1 HB hh hp
        obtain ⟨p, G, rfl, hp, hh, HG, HA, HR1, HB⟩ := hrel
        obtain ⟨cA, fA⟩ := HA.out.cell (k := m) (by omega)
        have HA2 : Hid _ := HA.out.set (k := m) (by omega) (.pointer (some ⟨blk L0 N p, 0, none⟩))
        have HB2 : Hid (Below w.heap.size w (wr.setCell ⟨w.heap.size + 1, m, none⟩ (.pointer (some ⟨blk L0 N p, 0, none⟩)))) := HB.out.setCell (by simp) _
        have HR2 : Hid (ArB (wr.setCell ⟨w.heap.size + 1, m, none⟩ (.pointer (some ⟨blk L0 N p, 0, none⟩))) w.heap.size fun _ => .pointer none) := (Below.heap_setCell _ _ _ _ (by simp)).trans HR1.out
        obtain ⟨cN, _, hbl⟩ := HS.out.1.blk_hd (p := p) (by omega) (k := m) (by omega)
        have cN2 := (HB2.out.cell (p := ⟨blk L0 N p, 7 + m, none⟩) hbl).trans cN
        rw [nxF, if_pos hh] at cN2
        have hkm : ∀ k, m ≤ k → k < 8 → (∀ j, p < j → j ≤ i → ¬ m < hgt N j) → (if k = m then (.pointer (some ⟨blk L0 N p, 0, none⟩) : Value) else G k) = .pointer (some ⟨blk L0 N (bp N k i), 0, none⟩) := by
          intro k h1 h2 h3
          by_cases e : k = m
          · subst e; rw [if_pos rfl, bp_spec hh i hp h3]
          · rw [if_neg e]; exact HG.out k (by omega) h2
        have HKM : Hid _ := hkm
        clear hkm HA HB HR1 cN
        rcases nxt_cases N p m with ⟨en, hno⟩ | ⟨j, hj, hpj, hmj, hno, en⟩
        · rw [en] at cN2
          have HGN : Hid (∀ k, m ≤ k → k < 8 → (if k = m then (.pointer (some ⟨blk L0 N p, 0, none⟩) : Value) else G k) = .pointer (some ⟨blk L0 N (bp N k i), 0, none⟩)) := fun k h1 h2 => HKM.out k h1 h2 (fun j h3 h4 h5 => by
            obtain ⟨j, rfl⟩ : ∃ j', j = j' + 1 := ⟨j - 1, by omega⟩
            rw [hgt_at (by omega)] at h5
            exact hno j (by omega) (by omega) h5)
          clear en HKM hno
          go_wp2_with fail
          go_roundw
          case rel => exact ⟨m, p, _, by omega, by go_num, rfl, hp, by omega, HGN, HA2, HR2, HB2⟩
          case measure => simp [intOf]
        · rw [en] at cN2
          obtain ⟨vk, Hvk⟩ := hid_ex N[j].kv
          obtain ⟨kk, Hkk⟩ := hid_ex N[j].k
          have hO := HS.out.1.ky j hj
          have hn := HS.out.1.nd j hj
          rw [← Hvk.out] at hO hn
          rw [← Hkk.out] at hO
          obtain ⟨bj, Hbj⟩ := hid_ex N[j].b
          rw [← Hbj.out] at hn cN2
          have hbj := (Array.getElem?_eq_some_iff.1 hn).1
          have ck0 : w.cell? ⟨bj, 0, none⟩ = some vk := by simp [World.cell?, hn, ndc]
          have ckk := (HB2.out.cell (p := ⟨bj, 0, none⟩) hbj).trans ck0
          obtain ⟨av, cv, rfl, _⟩ := hO.form
          have HRk : Hid (Reads (wr.setCell ⟨w.heap.size + 1, m, none⟩ (.pointer (some ⟨blk L0 N p, 0, none⟩))) (.slice av kk.length cv) kk) := hO.reads.below HB2.out
          have HRq : Hid (Reads (wr.setCell ⟨w.heap.size + 1, m, none⟩ (.pointer (some ⟨blk L0 N p, 0, none⟩))) (.slice ak key.length ck) key) := HR.out.below HB2.out
          clear hO hn ck0 en
          go_wp2_with fail
          refine (cmp_any _ _ kk key _ HRk.out HRq.out).mono ?_
          rintro e w5 ⟨rfl, hw5⟩
          subst w5
          by_cases hlt : ltK kk key
          · have hc : ¬ 0 ≤ Lib.compareBytes kk key := fun h => (cmp_ge.1 h) hlt
            have hji : j < i := by
              rcases Nat.lt_or_ge j i with h | h
              · exact h
              · exfalso
                have := plK_ge HS.out.2.so (k := key) (i := j) (by rw [← Hi.out]; exact h) (by simpa using hj)
                rw [List.getElem_map, ← Hkk.out] at this
                exact this hlt
            have HGN : Hid (∀ k, m + 1 ≤ k → k < 8 → (if k = m then (.pointer (some ⟨blk L0 N p, 0, none⟩) : Value) else G k) = .pointer (some ⟨blk L0 N (bp N k i), 0, none⟩)) := fun k h1 h2 => by rw [if_neg (by omega)]; exact HG.out k h1 h2
            have ebj : bj = blk L0 N (j + 1) := by rw [blk_at hj, Hbj.out]
            have HM1 : Hid (pIdx L0 N (.pointer (some ⟨blk L0 N p, 0, none⟩)) = p) := pIdx_blk HS.out.1 (by omega)
            have HM2 : Hid (pIdx L0 N (.pointer (some ⟨blk L0 N (j + 1), 0, none⟩)) = j + 1) := pIdx_blk HS.out.1 (by omega)
            have HHj : Hid (m < hgt N (j + 1)) := by unfold Hid; rw [hgt_at hj]; exact hmj
            clear HKM hno HRk HRq
            go_wp2_with fail
            subst ebj
            refine ⟨⟨j + 1, _, rfl, by omega, HHj.out, HGN, HA2, HR2, HB2⟩, ?_⟩
            rw [HM1.out, HM2.out]; omega
          · have hc : 0 ≤ Lib.compareBytes kk key := cmp_ge.2 hlt
            have hji : i ≤ j := by
              rcases Nat.lt_or_ge j i with h | h
              · exfalso
                have := plK_lt (N := N.map Nd.k) (k := key) (i := j) (by rw [← Hi.out]; exact h) (by simpa using hj)
                rw [List.getElem_map, ← Hkk.out] at this
                exact hlt this
              · exact h
            have HGN : Hid (∀ k, m ≤ k → k < 8 → (if k = m then (.pointer (some ⟨blk L0 N p, 0, none⟩) : Value) else G k) = .pointer (some ⟨blk L0 N (bp N k i), 0, none⟩)) := fun k h1 h2 => HKM.out k h1 h2 (fun j' h3 h4 h5 => by
              obtain ⟨j', rfl⟩ : ∃ j'', j' = j'' + 1 := ⟨j' - 1, by omega⟩
              rw [hgt_at (by omega)] at h5
              exact hno j' (by omega) (by omega) (by omega) h5)
            clear HKM hno HRk HRq hmj
            go_wp2_with fail
            go_roundw
            case rel => exact ⟨m, p, _, by omega, by go_num, rfl, hp, by omega, HGN, HA2, HR2, HB2⟩
            case measure => simp [intOf]
end Go.Proofs.Ytbeemkcdpmbhmaa
