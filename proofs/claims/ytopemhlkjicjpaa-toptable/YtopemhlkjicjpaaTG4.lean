/- S3 S4 S5 RS, joined. -/
import Derived.Test.YtopemhlkjicjpaaTG1
import Derived.Test.YtopemhlkjicjpaaTG3
import Derived.Laws.ResultCell
import Derived.Test.YtopemhlkjicjpaaRows
import Derived.WalkKit
import Derived.Deep.RegionHeld3
/- A list of towers in memory. -/
namespace Go.Proofs.Ytopemhlkjicjpaa
open Go.RowKit

/-- An entry in memory: its block, its key's slice, its key, what is known, how high its tower is. -/
structure Nd where
  b : Nat
  kv : Value
  k : Ks
  a : Ag
  h : Nat
instance : Inhabited Nd := ⟨⟨0, .bool false, [], ⟨0, false, 0, 0, 0⟩, 0⟩⟩
def ndc (kv : Value) (a : Ag) (f : Nat → Value) : Array Value := #[kv, .int .u64 a.c, .bool a.o, .int .i64 (hi a.s), .int .u64 (lo a.s), .int .i64 a.mn, .int .i64 a.mx, f 0, f 1, f 2, f 3, f 4, f 5, f 6, f 7]
def hdc (f : Nat → Value) (n sz : Int) (fr : Bool) : Array Value := #[.slice none 0 0, .int .u64 0, .bool false, .int .i64 0, .int .u64 0, .int .i64 0, .int .i64 0, f 0, f 1, f 2, f 3, f 4, f 5, f 6, f 7, .int .i64 n, .int .i64 sz, .bool fr]
/-- The first tower that is higher than a level. -/
def nxt (N : List Nd) (k : Nat) : Value := .pointer ((N.find? fun x => decide (k < x.h)).map fun x => ⟨x.b, 0, none⟩)
/-- Places: 0 is the head, then the entries. -/
def blk (L0 : Nat) (N : List Nd) : Nat → Nat
  | 0 => L0
  | p + 1 => (N.getD p default).b
def hgt (N : List Nd) : Nat → Nat
  | 0 => 8
  | p + 1 => (N.getD p default).h
def nxFS (N : List Nd) (p k : Nat) : Value := if k < hgt N p then nxt (N.drop p) k else .pointer none
/-- The last place up to i whose tower is higher than k. -/
def bp (N : List Nd) (k : Nat) : Nat → Nat
  | 0 => 0
  | i + 1 => if k < hgt N (i + 1) then i + 1 else bp N k i
theorem bp_le (N : List Nd) (k : Nat) : ∀ i, bp N k i ≤ i
  | 0 => Nat.le_refl _
  | i + 1 => by
    unfold bp; split
    · exact Nat.le_refl _
    · exact Nat.le_succ_of_le (bp_le N k i)
theorem bp_hgt (N : List Nd) (k : Nat) (hk : k < 8) : ∀ i, k < hgt N (bp N k i)
  | 0 => hk
  | i + 1 => by
    unfold bp; split
    · assumption
    · exact bp_hgt N k hk i
theorem bp_spec {N : List Nd} {k p : Nat} (hp : k < hgt N p) : ∀ i, p ≤ i → (∀ j, p < j → j ≤ i → ¬ k < hgt N j) → bp N k i = p
  | 0, h, _ => by simp [bp]; omega
  | i + 1, h, h2 => by
    unfold bp
    by_cases e : p = i + 1
    · subst e; rw [if_pos hp]
    · rw [if_neg (h2 (i + 1) (by omega) (Nat.le_refl _))]
      exact bp_spec hp i (by omega) (fun j h3 h4 => h2 j h3 (by omega))
theorem bp_none {N : List Nd} {k : Nat} : ∀ i j, bp N k i < j → j ≤ i → ¬ k < hgt N j
  | 0, j, h, h2 => by omega
  | i + 1, j, h, h2 => by
    unfold bp at h
    split at h
    · omega
    · rename_i hn
      by_cases e : j = i + 1
      · subst e; exact hn
      · exact bp_none i j h (by omega)
structure SLm (w : World) (base L0 : Nat) (N : List Nd) (F : Nat → Nat → Value) (n sz : Int) (fr : Bool) : Prop where
  hd : w.heap[L0]? = some (.cells (hdc (F 0) n sz fr) 57)
  nd : ∀ i (h : i < N.length), w.heap[N[i].b]? = some (.cells (ndc N[i].kv N[i].a (F (i + 1))) 55)
  ky : ∀ i (h : i < N.length), Own w base N[i].kv N[i].k
  b0 : base ≤ L0
  bs : ∀ x ∈ N, base ≤ x.b
  ne : (N.map Nd.b).Nodup
structure SLa (N : List Nd) (sz : Int) : Prop where
  so : (N.map Nd.k).Pairwise ltK
  ht : ∀ x ∈ N, 1 ≤ x.h ∧ x.h ≤ 8
  kl : ∀ x ∈ N, 1 ≤ x.k.length ∧ x.k.length ≤ 256
  ag : ∀ x ∈ N, 0 < x.a.c ∧ x.a.c < 18446744073709551616 ∧ rightB x.a = true
  sz : sz = ((N.map fun x => x.k.length + 41).sum : Nat)
  le : N.length ≤ 4096
/-- A list in memory. -/
def SL (w : World) (base L0 : Nat) (N : List Nd) (sz : Int) (fr : Bool) : Prop := SLm w base L0 N (nxFS N) N.length sz fr ∧ SLa N sz
theorem SLm.kc {n : Nat} {A B : World} {base L0 : Nat} {N : List Nd} {F : Nat → Nat → Value} {m sz : Int} {fr : Bool} (h : SLm A base L0 N F m sz fr) (hk : Kc n A B) : SLm B base L0 N F m sz fr := by
  refine ⟨hk.c _ _ _ _ h.hd, fun i hi => hk.c _ _ _ _ (h.nd i hi), fun i hi => ?_, h.b0, h.bs, h.ne⟩
  obtain ⟨h1, h2⟩ := h.ky i hi
  refine ⟨h1, ?_⟩
  rcases h2 with h2 | ⟨g, cap, cur, hv, hg, hw, r⟩
  · exact .inl h2
  · exact .inr ⟨g, cap, cur, hv, hg, hk.c _ _ _ _ hw, r⟩
theorem SL.kc {n : Nat} {A B : World} {base L0 : Nat} {N : List Nd} {sz : Int} {fr : Bool} (h : SL A base L0 N sz fr) (hk : Kc n A B) : SL B base L0 N sz fr := ⟨h.1.kc hk, h.2⟩
theorem SL.below {A B : World} {base L0 : Nat} {N : List Nd} {sz : Int} {fr : Bool} (h : SL A base L0 N sz fr) (hb : Below A.heap.size A B) : SL B base L0 N sz fr := h.kc (Kc.of_below hb (Nat.le_refl _))
theorem hgt_at {N : List Nd} {i : Nat} (h : i < N.length) : hgt N (i + 1) = N[i].h := by simp [hgt, List.getD, h]
theorem blk_at {L0 : Nat} {N : List Nd} {i : Nat} (h : i < N.length) : blk L0 N (i + 1) = N[i].b := by simp [blk, List.getD, h]
/-- What the first higher tower behind a place is. -/
theorem nxt_some {N : List Nd} {p k : Nat} {j : Nat} (hj : j < N.length) (hp : p ≤ j) (hk : k < N[j].h) (hno : ∀ i (h : i < N.length), p ≤ i → i < j → ¬ k < N[i].h) : nxt (N.drop p) k = .pointer (some ⟨N[j].b, 0, none⟩) := by
  unfold nxt
  have e : (N.drop p).find? (fun x => decide (k < x.h)) = some N[j] := by
    rw [List.find?_eq_some_iff_getElem]
    refine ⟨by simpa using hk, j - p, by simp; omega, by simp [show p + (j - p) = j by omega], fun i hi => ?_⟩
    have := hno (p + i) (by omega) (by omega) (by omega)
    simpa using this
  rw [e]; rfl
theorem nxt_none {N : List Nd} {p k : Nat} (hno : ∀ i (h : i < N.length), p ≤ i → ¬ k < N[i].h) : nxt (N.drop p) k = .pointer none := by
  unfold nxt
  have e : (N.drop p).find? (fun x => decide (k < x.h)) = none := by
    rw [List.find?_eq_none]
    intro x hx
    obtain ⟨i, hi, rfl⟩ := List.mem_iff_getElem.1 hx
    have := hno (p + i) (by simp at hi; omega) (by omega)
    simpa using this
  rw [e]; rfl
/-- Either there is none, or it is a first one. -/
theorem nxt_cases (N : List Nd) (p k : Nat) : (nxt (N.drop p) k = .pointer none ∧ ∀ i (h : i < N.length), p ≤ i → ¬ k < N[i].h) ∨ ∃ j, ∃ hj : j < N.length, p ≤ j ∧ k < N[j].h ∧ (∀ i (h : i < N.length), p ≤ i → i < j → ¬ k < N[i].h) ∧ nxt (N.drop p) k = .pointer (some ⟨N[j].b, 0, none⟩) := by
  cases hf : (N.drop p).find? (fun x => decide (k < x.h)) with
  | none =>
    left
    rw [List.find?_eq_none] at hf
    have hno : ∀ i (h : i < N.length), p ≤ i → ¬ k < N[i].h := by
      intro i hi hpi
      have := hf N[i] (by rw [List.mem_iff_getElem]; exact ⟨i - p, by simp; omega, by simp [show p + (i - p) = i by omega]⟩)
      simpa using this
    exact ⟨nxt_none hno, hno⟩
  | some x =>
    right
    rw [List.find?_eq_some_iff_getElem] at hf
    obtain ⟨h1, i, hi, h2, h3⟩ := hf
    simp at hi
    have hno : ∀ i' (h : i' < N.length), p ≤ i' → i' < p + i → ¬ k < N[i'].h := by
      intro i' hi' hpi hlt
      have := h3 (i' - p) (by omega)
      simpa [show p + (i' - p) = i' by omega] using this
    have h4 : k < (N[p + i]'(by omega)).h := by simp at h2; rw [h2]; simpa using h1
    exact ⟨p + i, by omega, by omega, h4, hno, nxt_some (by omega) (by omega) h4 hno⟩
theorem SLm.blk_hd {w : World} {base L0 : Nat} {N : List Nd} {F : Nat → Nat → Value} {m sz : Int} {fr : Bool} (h : SLm w base L0 N F m sz fr) {p : Nat} (hp : p ≤ N.length) {k : Nat} (hk : k < 8) : w.cell? ⟨blk L0 N p, 7 + k, none⟩ = some (F p k) ∧ w.frozen? ⟨blk L0 N p, 7 + k, none⟩ = false ∧ blk L0 N p < w.heap.size := by
  cases p with
  | zero =>
    have := h.hd
    refine ⟨?_, ?_, (Array.getElem?_eq_some_iff.1 this).1⟩
    · show w.cell? ⟨L0, 7 + k, none⟩ = _
      match k, hk with
      | 0, _ | 1, _ | 2, _ | 3, _ | 4, _ | 5, _ | 6, _ | 7, _ => simp [World.cell?, this, hdc]
    · show w.frozen? ⟨L0, 7 + k, none⟩ = _
      simp [World.frozen?, this]
  | succ p =>
    have := h.nd p (by omega)
    rw [blk_at (by omega)]
    refine ⟨?_, ?_, (Array.getElem?_eq_some_iff.1 this).1⟩
    · match k, hk with
      | 0, _ | 1, _ | 2, _ | 3, _ | 4, _ | 5, _ | 6, _ | 7, _ => simp [World.cell?, this, ndc]
    · simp [World.frozen?, this]
end Go.Proofs.Ytopemhlkjicjpaa

/- The contract of the list's before. -/
namespace Go.Proofs.Ytopemhlkjicjpaa
open Go.RowKit

def ar8 (G : Nat → Value) : Array Value := #[G 0, G 1, G 2, G 3, G 4, G 5, G 6, G 7]
theorem ar8_set (G : Nat → Value) (k : Nat) (hk : k < 8) (v : Value) : (ar8 G).setIfInBounds k v = ar8 fun j => if j = k then v else G j := by
  match k, hk with
  | 0, _ | 1, _ | 2, _ | 3, _ | 4, _ | 5, _ | 6, _ | 7, _ => simp [ar8]
theorem ar8_at (G : Nat → Value) (k : Nat) (hk : k < 8) : (ar8 G)[k]? = some (G k) := by
  match k, hk with
  | 0, _ | 1, _ | 2, _ | 3, _ | 4, _ | 5, _ | 6, _ | 7, _ => simp [ar8]
theorem blk_inj {w : World} {base L0 : Nat} {N : List Nd} {F : Nat → Nat → Value} {m sz : Int} {fr : Bool} (h : SLm w base L0 N F m sz fr) : ∀ {p q : Nat}, p ≤ N.length → q ≤ N.length → blk L0 N p = blk L0 N q → p = q := by
  have h0 : ∀ i (hi : i < N.length), N[i].b ≠ L0 := by
    intro i hi e
    have h1 := h.nd i hi
    rw [e, h.hd] at h1
    simp at h1
  intro p q hp hq e
  cases p with
  | zero => cases q with
    | zero => rfl
    | succ q => rw [blk_at (by omega)] at e; exact absurd e.symm (h0 q (by omega))
  | succ p => cases q with
    | zero => rw [blk_at (by omega)] at e; exact absurd e (h0 p (by omega))
    | succ q =>
      rw [blk_at (by omega), blk_at (by omega)] at e
      have hn := List.pairwise_iff_getElem.1 h.ne
      rcases Nat.lt_trichotomy p q with h1 | h1 | h1
      · exact absurd (by rw [List.getElem_map, List.getElem_map]; exact e) (hn p q (by simp; omega) (by simp; omega) h1)
      · omega
      · exact absurd (by rw [List.getElem_map, List.getElem_map]; exact e.symm) (hn q p (by simp; omega) (by simp; omega) h1)
def pIdx (L0 : Nat) (N : List Nd) (v : Value) : Nat :=
  match v with
  | .pointer (some a) => ((List.range (N.length + 1)).find? fun q => blk L0 N q == a.block).getD 0
  | _ => 0
theorem pIdx_blk {w : World} {base L0 : Nat} {N : List Nd} {F : Nat → Nat → Value} {m sz : Int} {fr : Bool} (h : SLm w base L0 N F m sz fr) {p : Nat} (hp : p ≤ N.length) : pIdx L0 N (.pointer (some ⟨blk L0 N p, 0, none⟩)) = p := by
  unfold pIdx
  have e : (List.range (N.length + 1)).find? (fun q => blk L0 N q == blk L0 N p) = some p := by
    rw [List.find?_eq_some_iff_getElem]
    refine ⟨by simp, p, by simp; omega, by simp, fun j hj => ?_⟩
    simp
    intro e
    have := blk_inj h (by omega) hp e
    omega
  simp only [e]; rfl
def ArB (w : World) (b : Nat) (G : Nat → Value) : Prop := w.heap[b]? = some (.cells (ar8 G) 52)
theorem ArB.cell {w : World} {b : Nat} {G : Nat → Value} (h : ArB w b G) {k : Nat} (hk : k < 8) : w.cell? ⟨b, k, none⟩ = some (G k) ∧ w.frozen? ⟨b, k, none⟩ = false := by
  refine ⟨?_, by simp [World.frozen?, show w.heap[b]? = _ from h]⟩
  simp [World.cell?, show w.heap[b]? = _ from h, ar8_at G k hk]
theorem ArB.set {w : World} {b : Nat} {G : Nat → Value} (h : ArB w b G) {k : Nat} (hk : k < 8) (v : Value) : ArB (w.setCell ⟨b, k, none⟩ v) b fun j => if j = k then v else G j := by
  unfold ArB; rw [← ar8_set G k hk v]; exact Go.heap_setCell_same w b k _ _ v h
set_option maxRecDepth 100000 in
set_option maxHeartbeats 1000000 in
theorem before_any (L0 : Nat) (N : List Nd) (sz : Int) (fr : Bool) (kv : Value) (key : Ks) (w : World) (base : Nat) (hS : SL w base L0 N sz fr) (hR : Reads w kv key) :
    Calls Try.prog 22 #[.pointer (some ⟨L0, 0, none⟩), kv] w fun e w' => e = .returned (.agg (ar8 fun k => .pointer (some ⟨blk L0 N (bp N k (plK (N.map Nd.k) key)), 0, none⟩))) ∧ Below w.heap.size w w' := by
  have HS : Hid (SL w base L0 N sz fr) := hS
  have HR : Hid (Reads w kv key) := hR
  obtain ⟨ak, ck, rfl, _⟩ := hR.form
  clear hS hR
  obtain ⟨i, Hi⟩ := hid_ex (plK (N.map Nd.k) key)
  have hiN : i ≤ N.length := by rw [Hi.out]; have := plK_le (N.map Nd.k) key; simpa using this
  rw [← Hi.out]
  go_enter Try.func22, Try.ntmps22
  go_wp2_with fail
  go_step3
  go_wp2_with fail
  go_step3
  go_wp2_with fail
  have HA0 : Hid (ArB ((w.alloc (.cells #[.pointer none, .pointer none, .pointer none, .pointer none, .pointer none, .pointer none, .pointer none, .pointer none] 52)).alloc (.cells #[.pointer none, .pointer none, .pointer none, .pointer none, .pointer none, .pointer none, .pointer none, .pointer none] 52)) (w.heap.size + 1) fun _ => .pointer none) := by
    have := World.alloc_heap_new (w.alloc (.cells #[.pointer none, .pointer none, .pointer none, .pointer none, .pointer none, .pointer none, .pointer none, .pointer none] 52)) (.cells #[.pointer none, .pointer none, .pointer none, .pointer none, .pointer none, .pointer none, .pointer none, .pointer none] 52)
    rw [World.size_alloc] at this; exact this
  have HR0 : Hid (ArB ((w.alloc (.cells #[.pointer none, .pointer none, .pointer none, .pointer none, .pointer none, .pointer none, .pointer none, .pointer none] 52)).alloc (.cells #[.pointer none, .pointer none, .pointer none, .pointer none, .pointer none, .pointer none, .pointer none, .pointer none] 52)) w.heap.size fun _ => .pointer none) :=
    (((Below.refl (w.heap.size + 1) _).alloc (by simp) _).block w.heap.size (by omega)).trans (World.alloc_heap_new w _)
  have HB0 : Hid (Below w.heap.size w ((w.alloc (.cells #[.pointer none, .pointer none, .pointer none, .pointer none, .pointer none, .pointer none, .pointer none, .pointer none] 52)).alloc (.cells #[.pointer none, .pointer none, .pointer none, .pointer none, .pointer none, .pointer none, .pointer none, .pointer none] 52))) := ((Below.refl _ _).alloc (Nat.le_refl _) _).alloc (by simp) _
  go_loopw [6, 7] (fun a6 a7 wr => ∃ (m p : Nat) (G : Nat → Value), m ≤ 8 ∧ a7 = .int .i64 ((m : Int) - 1) ∧ a6 = .pointer (some ⟨blk L0 N p, 0, none⟩) ∧ p ≤ i ∧ m ≤ hgt N p ∧ Hid (∀ k, m ≤ k → k < 8 → G k = .pointer (some ⟨blk L0 N (bp N k i), 0, none⟩)) ∧ Hid (ArB wr (w.heap.size + 1) G) ∧ Hid (ArB wr w.heap.size fun _ => .pointer none) ∧ Hid (Below w.heap.size w wr)) (fun _ a7 _ => ((intOf a7) + 1).toNat)
  case atStart => exact ⟨8, 0, _, Nat.le_refl _, rfl, rfl, Nat.zero_le _, Nat.le_refl _, (fun k h1 h2 => by omega), HA0, HR0, HB0⟩
  case round =>
    clear HA0 HR0 HB0
    obtain ⟨m, p, G, hm, rfl, rfl, hp, hh, HG, HA, HR1, HB⟩ := hrel
    cases m with
    | zero =>
      have c0 := (HA.out.cell (k := 0) (by decide)).1
      rw [HG.out 0 (by omega) (by decide)] at c0
      obtain ⟨z0, f0⟩ := HR1.out.cell (k := 0) (by decide)
      have c1 := (HA.out.cell (k := 1) (by decide)).1
      rw [HG.out 1 (by omega) (by decide)] at c1
      obtain ⟨z1, f1⟩ := HR1.out.cell (k := 1) (by decide)
      have c2 := (HA.out.cell (k := 2) (by decide)).1
      rw [HG.out 2 (by omega) (by decide)] at c2
      obtain ⟨z2, f2⟩ := HR1.out.cell (k := 2) (by decide)
      have c3 := (HA.out.cell (k := 3) (by decide)).1
      rw [HG.out 3 (by omega) (by decide)] at c3
      obtain ⟨z3, f3⟩ := HR1.out.cell (k := 3) (by decide)
      have c4 := (HA.out.cell (k := 4) (by decide)).1
      rw [HG.out 4 (by omega) (by decide)] at c4
      obtain ⟨z4, f4⟩ := HR1.out.cell (k := 4) (by decide)
      have c5 := (HA.out.cell (k := 5) (by decide)).1
      rw [HG.out 5 (by omega) (by decide)] at c5
      obtain ⟨z5, f5⟩ := HR1.out.cell (k := 5) (by decide)
      have c6 := (HA.out.cell (k := 6) (by decide)).1
      rw [HG.out 6 (by omega) (by decide)] at c6
      obtain ⟨z6, f6⟩ := HR1.out.cell (k := 6) (by decide)
      have c7 := (HA.out.cell (k := 7) (by decide)).1
      rw [HG.out 7 (by omega) (by decide)] at c7
      obtain ⟨z7, f7⟩ := HR1.out.cell (k := 7) (by decide)
      have HAR : Hid _ := ((((((((HR1.out.set (k := 0) (by decide) (.pointer (some ⟨blk L0 N (bp N 0 i), 0, none⟩))).set (k := 1) (by decide) (.pointer (some ⟨blk L0 N (bp N 1 i), 0, none⟩))).set (k := 2) (by decide) (.pointer (some ⟨blk L0 N (bp N 2 i), 0, none⟩))).set (k := 3) (by decide) (.pointer (some ⟨blk L0 N (bp N 3 i), 0, none⟩))).set (k := 4) (by decide) (.pointer (some ⟨blk L0 N (bp N 4 i), 0, none⟩))).set (k := 5) (by decide) (.pointer (some ⟨blk L0 N (bp N 5 i), 0, none⟩))).set (k := 6) (by decide) (.pointer (some ⟨blk L0 N (bp N 6 i), 0, none⟩))).set (k := 7) (by decide) (.pointer (some ⟨blk L0 N (bp N 7 i), 0, none⟩)))
      have HBR : Hid _ := ((((((((HB.out.setCell (p := ⟨w.heap.size, 0, none⟩) (Nat.le_refl _) (.pointer (some ⟨blk L0 N (bp N 0 i), 0, none⟩))).setCell (p := ⟨w.heap.size, 1, none⟩) (Nat.le_refl _) (.pointer (some ⟨blk L0 N (bp N 1 i), 0, none⟩))).setCell (p := ⟨w.heap.size, 2, none⟩) (Nat.le_refl _) (.pointer (some ⟨blk L0 N (bp N 2 i), 0, none⟩))).setCell (p := ⟨w.heap.size, 3, none⟩) (Nat.le_refl _) (.pointer (some ⟨blk L0 N (bp N 3 i), 0, none⟩))).setCell (p := ⟨w.heap.size, 4, none⟩) (Nat.le_refl _) (.pointer (some ⟨blk L0 N (bp N 4 i), 0, none⟩))).setCell (p := ⟨w.heap.size, 5, none⟩) (Nat.le_refl _) (.pointer (some ⟨blk L0 N (bp N 5 i), 0, none⟩))).setCell (p := ⟨w.heap.size, 6, none⟩) (Nat.le_refl _) (.pointer (some ⟨blk L0 N (bp N 6 i), 0, none⟩))).setCell (p := ⟨w.heap.size, 7, none⟩) (Nat.le_refl _) (.pointer (some ⟨blk L0 N (bp N 7 i), 0, none⟩)))
      clear HG HA HR1 HB
      go_wp2_with fail
      rw [Exit.noGoto_ret]
      refine bodyPost_ret (results_cell_row rfl _ _ w.heap.size _ _ (0, 0) _ rfl HAR.out Try.underlying52 rfl (by kernel_rfl)) rfl ⟨?_, HBR.out⟩
      congr 2
    | succ m =>
      have em : ((m + 1 : Nat) : Int) - 1 = (m : Int) := by omega
      rw [em]
      clear em
      go_wp2_with fail
      rename World => wo
      go_loopw [6] (fun a6 wr => ∃ (p : Nat) (G : Nat → Value), a6 = .pointer (some ⟨blk L0 N p, 0, none⟩) ∧ p ≤ i ∧ m < hgt N p ∧ Hid (∀ k, m + 1 ≤ k → k < 8 → G k = .pointer (some ⟨blk L0 N (bp N k i), 0, none⟩)) ∧ Hid (ArB wr (w.heap.size + 1) G) ∧ Hid (ArB wr w.heap.size fun _ => .pointer none) ∧ Hid (Below w.heap.size w wr)) (fun a6 _ => i - pIdx L0 N a6)
      case atStart => exact ⟨p, G, rfl, hp, by omega, HG, HA, HR1, HB⟩
      case round =>
        clear HG HA HR1 HB hh hp
        obtain ⟨p, G, rfl, hp, hh, HG, HA, HR1, HB⟩ := hrel
        obtain ⟨cA, fA⟩ := HA.out.cell (k := m) (by omega)
        have HA2 : Hid _ := HA.out.set (k := m) (by omega) (.pointer (some ⟨blk L0 N p, 0, none⟩))
        have HB2 : Hid (Below w.heap.size w (wr.setCell ⟨w.heap.size + 1, m, none⟩ (.pointer (some ⟨blk L0 N p, 0, none⟩)))) := HB.out.setCell (by simp) _
        have HR2 : Hid (ArB (wr.setCell ⟨w.heap.size + 1, m, none⟩ (.pointer (some ⟨blk L0 N p, 0, none⟩))) w.heap.size fun _ => .pointer none) := (Below.heap_setCell _ _ _ _ (by simp)).trans HR1.out
        obtain ⟨cN, _, hbl⟩ := HS.out.1.blk_hd (p := p) (by omega) (k := m) (by omega)
        have cN2 := (HB2.out.cell (p := ⟨blk L0 N p, 7 + m, none⟩) hbl).trans cN
        rw [nxFS, if_pos hh] at cN2
        have hkm : ∀ k, m ≤ k → k < 8 → (∀ j, p < j → j ≤ i → ¬ m < hgt N j) → (if k = m then (.pointer (some ⟨blk L0 N p, 0, none⟩) : Value) else G k) = .pointer (some ⟨blk L0 N (bp N k i), 0, none⟩) := by
          intro k h1 h2 h3
          by_cases e : k = m
          · subst e; rw [if_pos rfl, bp_spec hh i hp h3]
          · rw [if_neg e]; exact HG.out k (by omega) h2
        have HKM : Hid _ := hkm
        clear hkm HA HB HR1 cN
        rcases nxt_cases N p m with ⟨en, hno⟩ | ⟨j, hj, hpj, hmj, hno, en⟩
        · rw [en] at cN2
          have HGN : Hid (∀ k, m ≤ k → k < 8 → (if k = m then (.pointer (some ⟨blk L0 N p, 0, none⟩) : Value) else G k) = .pointer (some ⟨blk L0 N (bp N k i), 0, none⟩)) := fun k h1 h2 => HKM.out k h1 h2 (fun j h3 h4 h5 => by
            obtain ⟨j, rfl⟩ : ∃ j', j = j' + 1 := ⟨j - 1, by omega⟩
            rw [hgt_at (by omega)] at h5
            exact hno j (by omega) (by omega) h5)
          clear en HKM hno
          go_wp2_with fail
          go_roundw
          case rel => exact ⟨m, p, _, by omega, by go_num, rfl, hp, by omega, HGN, HA2, HR2, HB2⟩
          case measure => simp [intOf]
        · rw [en] at cN2
          obtain ⟨vk, Hvk⟩ := hid_ex N[j].kv
          obtain ⟨kk, Hkk⟩ := hid_ex N[j].k
          have hO := HS.out.1.ky j hj
          have hn := HS.out.1.nd j hj
          rw [← Hvk.out] at hO hn
          rw [← Hkk.out] at hO
          obtain ⟨bj, Hbj⟩ := hid_ex N[j].b
          rw [← Hbj.out] at hn cN2
          have hbj := (Array.getElem?_eq_some_iff.1 hn).1
          have ck0 : w.cell? ⟨bj, 0, none⟩ = some vk := by simp [World.cell?, hn, ndc]
          have ckk := (HB2.out.cell (p := ⟨bj, 0, none⟩) hbj).trans ck0
          obtain ⟨av, cv, rfl, _⟩ := hO.form
          have HRk : Hid (Reads (wr.setCell ⟨w.heap.size + 1, m, none⟩ (.pointer (some ⟨blk L0 N p, 0, none⟩))) (.slice av kk.length cv) kk) := hO.reads.below HB2.out
          have HRq : Hid (Reads (wr.setCell ⟨w.heap.size + 1, m, none⟩ (.pointer (some ⟨blk L0 N p, 0, none⟩))) (.slice ak key.length ck) key) := HR.out.below HB2.out
          clear hO hn ck0 en
          go_wp2_with fail
          refine (cmp_any _ _ kk key _ HRk.out HRq.out).mono ?_
          rintro e w5 ⟨rfl, hw5⟩
          subst w5
          by_cases hlt : ltK kk key
          · have hc : ¬ 0 ≤ Lib.compareBytes kk key := fun h => (cmp_ge.1 h) hlt
            have hji : j < i := by
              rcases Nat.lt_or_ge j i with h | h
              · exact h
              · exfalso
                have := plK_ge HS.out.2.so (k := key) (i := j) (by rw [← Hi.out]; exact h) (by simpa using hj)
                rw [List.getElem_map, ← Hkk.out] at this
                exact this hlt
            have HGN : Hid (∀ k, m + 1 ≤ k → k < 8 → (if k = m then (.pointer (some ⟨blk L0 N p, 0, none⟩) : Value) else G k) = .pointer (some ⟨blk L0 N (bp N k i), 0, none⟩)) := fun k h1 h2 => by rw [if_neg (by omega)]; exact HG.out k h1 h2
            have ebj : bj = blk L0 N (j + 1) := by rw [blk_at hj, Hbj.out]
            have HM1 : Hid (pIdx L0 N (.pointer (some ⟨blk L0 N p, 0, none⟩)) = p) := pIdx_blk HS.out.1 (by omega)
            have HM2 : Hid (pIdx L0 N (.pointer (some ⟨blk L0 N (j + 1), 0, none⟩)) = j + 1) := pIdx_blk HS.out.1 (by omega)
            have HHj : Hid (m < hgt N (j + 1)) := by unfold Hid; rw [hgt_at hj]; exact hmj
            clear HKM hno HRk HRq
            go_wp2_with fail
            subst ebj
            refine ⟨⟨j + 1, _, rfl, by omega, HHj.out, HGN, HA2, HR2, HB2⟩, ?_⟩
            rw [HM1.out, HM2.out]; omega
          · have hc : 0 ≤ Lib.compareBytes kk key := cmp_ge.2 hlt
            have hji : i ≤ j := by
              rcases Nat.lt_or_ge j i with h | h
              · exfalso
                have := plK_lt (N := N.map Nd.k) (k := key) (i := j) (by rw [← Hi.out]; exact h) (by simpa using hj)
                rw [List.getElem_map, ← Hkk.out] at this
                exact hlt this
              · exact h
            have HGN : Hid (∀ k, m ≤ k → k < 8 → (if k = m then (.pointer (some ⟨blk L0 N p, 0, none⟩) : Value) else G k) = .pointer (some ⟨blk L0 N (bp N k i), 0, none⟩)) := fun k h1 h2 => HKM.out k h1 h2 (fun j' h3 h4 h5 => by
              obtain ⟨j', rfl⟩ : ∃ j'', j' = j'' + 1 := ⟨j' - 1, by omega⟩
              rw [hgt_at (by omega)] at h5
              exact hno j' (by omega) (by omega) (by omega) h5)
            clear HKM hno HRk HRq hmj
            go_wp2_with fail
            go_roundw
            case rel => exact ⟨m, p, _, by omega, by go_num, rfl, hp, by omega, HGN, HA2, HR2, HB2⟩
            case measure => simp [intOf]
end Go.Proofs.Ytopemhlkjicjpaa

/- The contracts of the list's small functions. -/
namespace Go.Proofs.Ytopemhlkjicjpaa
open Go.RowKit

def agv (a : Ag) : Value := .agg #[.int .u64 a.c, .bool a.o, .int .i64 (hi a.s), .int .u64 (lo a.s), .int .i64 a.mn, .int .i64 a.mx]
def env (kv : Value) (a : Ag) : Value := .agg #[kv, .int .u64 a.c, .bool a.o, .int .i64 (hi a.s), .int .u64 (lo a.s), .int .i64 a.mn, .int .i64 a.mx]
theorem idx8 (G : Nat → Value) (k : Nat) (hk : k < 8) (w : World) : (Instr.index 52 (.agg (ar8 G)) (.int .i64 (k : Int))).run Try.prog w = .ok (G k) w := by
  simp [Instr.index, asIntOf, go_sem, part, ar8_at G k hk, hk]
theorem set6 {w : World} {b : Nat} {T : TypeId} {x0 x1 x2 x3 x4 x5 : Value} (h : w.heap[b]? = some (.cells #[x0, x1, x2, x3, x4, x5] T)) (v0 v1 v2 v3 v4 v5 : Value) :
    ((((((w.setCell ⟨b, 0, none⟩ v0).setCell ⟨b, 1, none⟩ v1).setCell ⟨b, 2, none⟩ v2).setCell ⟨b, 3, none⟩ v3).setCell ⟨b, 4, none⟩ v4).setCell ⟨b, 5, none⟩ v5).heap[b]? = some (.cells #[v0, v1, v2, v3, v4, v5] T) := by
  have h0 := Go.heap_setCell_same w b 0 _ _ v0 h
  have h1 := Go.heap_setCell_same _ b 1 _ _ v1 h0
  have h2 := Go.heap_setCell_same _ b 2 _ _ v2 h1
  have h3 := Go.heap_setCell_same _ b 3 _ _ v3 h2
  have h4 := Go.heap_setCell_same _ b 4 _ _ v4 h3
  have h5 := Go.heap_setCell_same _ b 5 _ _ v5 h4
  simpa using h5
theorem below6 {w0 w : World} {n b : Nat} (h : Below n w0 w) (hb : n ≤ b) (i : Nat) (v0 v1 v2 v3 v4 v5 : Value) :
    Below n w0 ((((((w.setCell ⟨b, i, none⟩ v0).setCell ⟨b, i + 1, none⟩ v1).setCell ⟨b, i + 2, none⟩ v2).setCell ⟨b, i + 3, none⟩ v3).setCell ⟨b, i + 4, none⟩ v4).setCell ⟨b, i + 5, none⟩ v5) := (((((h.setCell hb _).setCell hb _).setCell hb _).setCell hb _).setCell hb _).setCell hb _
theorem results_row_tmp {fn : Func} {p u : Tmp} {ty : TypeId} (h : fn.results = #[.cell p ty, .tmp u]) (tmps : Array Value) (w : World) (g : Nat) (cs : Array Value)
    (hp : tmps.getD p undef = .pointer (some ⟨g, 0, none⟩)) (hl : (loadVar ty ⟨g, 0, none⟩).run Try.prog w = .ok (.agg cs) w) :
    (results fn tmps).run Try.prog w = .ok (.tuple #[.agg cs, tmps.getD u undef]) w := by
  rw [results_cell_tmp h, hp]
  simp [asAddr, hl, Result.andThen]
theorem cell_row {w : World} {b : Nat} {cs : Array Value} {T : TypeId} (h : w.heap[b]? = some (.cells cs T)) (i : Nat) (hi : i < cs.size) : w.cell? ⟨b, i, none⟩ = some cs[i] ∧ w.frozen? ⟨b, i, none⟩ = false := by
  refine ⟨by simp [World.cell?, h, hi], by simp [World.frozen?, h]⟩
theorem has_none (kv : Value) (key : Ks) (w : World) (hR : Reads w kv key) : Calls Try.prog 23 #[.pointer none, kv] w fun e w' => e = .returned (.bool false) ∧ w' = w := by
  obtain ⟨ak, ck, rfl, _⟩ := hR.form
  clear hR
  go_enter Try.func23, Try.ntmps23
  go_wp2_with fail
  go_ret
  exact ⟨rfl, rfl⟩
theorem has_some (b : Nat) (kv0 : Value) (k : Ks) (kv : Value) (key : Ks) (w : World) (hc : w.cell? ⟨b, 0, none⟩ = some kv0) (h0 : Reads w kv0 k) (hR : Reads w kv key) : Calls Try.prog 23 #[.pointer (some ⟨b, 0, none⟩), kv] w fun e w' => e = .returned (.bool (decide (k = key))) ∧ w' = w := by
  have HR : Hid (Reads w kv key) := hR
  have H0 : Hid (Reads w kv0 k) := h0
  obtain ⟨ak, ck, rfl, _⟩ := hR.form
  obtain ⟨a0, c0, rfl, _⟩ := h0.form
  clear hR h0
  go_enter Try.func23, Try.ntmps23
  go_wp2_with fail
  refine (equal_any _ _ k key _ H0.out HR.out).mono ?_
  rintro e w' ⟨rfl, hw⟩
  subst w'
  obtain ⟨q, Hq⟩ := hid_ex (decide (k = key))
  rw [← Hq.out]
  go_wp2_with fail
  go_ret
  exact ⟨by rw [← Hq.out]; rfl, rfl⟩
theorem bp_zero {N : List Nd} (h : ∀ x ∈ N, 1 ≤ x.h ∧ x.h ≤ 8) {i : Nat} (hi : i ≤ N.length) : bp N 0 i = i := by
  cases i with
  | zero => rfl
  | succ i => unfold bp; rw [if_pos]; rw [hgt_at (by omega)]; have := h _ (List.getElem_mem (show i < N.length by omega)); omega
theorem nxF_zero {N : List Nd} (h : ∀ x ∈ N, 1 ≤ x.h ∧ x.h ≤ 8) {i : Nat} (hi : i ≤ N.length) : nxFS N i 0 = if h : i < N.length then .pointer (some ⟨N[i].b, 0, none⟩) else .pointer none := by
  have h0 : 0 < hgt N i := by
    cases i with
    | zero => exact (by decide : 0 < 8)
    | succ i => rw [hgt_at (by omega)]; have := h _ (List.getElem_mem (show i < N.length by omega)); omega
  unfold nxFS
  rw [if_pos h0]
  split
  · rename_i hlt
    exact nxt_some hlt (Nat.le_refl _) (by have := h _ (List.getElem_mem hlt); omega) (fun j hj h1 h2 => by omega)
  · exact nxt_none (fun j hj h1 => by omega)
/-- What is known of a key. -/
def gtF (N : List Nd) (key : Ks) : Option Ag := if h : plK (N.map Nd.k) key < N.length then (if N[plK (N.map Nd.k) key].k = key then some N[plK (N.map Nd.k) key].a else none) else none
def agZ : Ag := ⟨0, false, 0, 0, 0⟩
theorem agvZ : agv agZ = .agg #[.int .u64 0, .bool false, .int .i64 0, .int .u64 0, .int .i64 0, .int .i64 0] := by unfold agv agZ hi lo; simp
set_option maxRecDepth 100000 in
set_option maxHeartbeats 1000000 in
theorem get_any (L0 : Nat) (N : List Nd) (sz : Int) (fr : Bool) (kv : Value) (key : Ks) (w : World) (base : Nat) (hS : SL w base L0 N sz fr) (hR : Reads w kv key) :
    Calls Try.prog 14 #[.pointer (some ⟨L0, 0, none⟩), kv] w fun e w' => e = .returned (.tuple #[agv ((gtF N key).getD agZ), .bool (gtF N key).isSome]) ∧ Below w.heap.size w w' := by
  have HS : Hid (SL w base L0 N sz fr) := hS
  have HR : Hid (Reads w kv key) := hR
  obtain ⟨ak, ck, rfl, _⟩ := hR.form
  clear hS hR
  have hag := HS.out.2
  have HAl : Hid (Below w.heap.size w (w.alloc (.cells #[.int .u64 0, .bool false, .int .i64 0, .int .u64 0, .int .i64 0, .int .i64 0] 34))) := (Below.refl _ _).alloc (Nat.le_refl _) _
  obtain ⟨w0, HW0⟩ := hid_ex (w.alloc (.cells #[.int .u64 0, .bool false, .int .i64 0, .int .u64 0, .int .i64 0, .int .i64 0] 34))
  have HZ : Hid (w0.heap[w.heap.size]? = some (.cells #[.int .u64 0, .bool false, .int .i64 0, .int .u64 0, .int .i64 0, .int .i64 0] 34)) := by rw [HW0.out]; exact World.alloc_heap_new _ _
  have hs0 : w0.heap.size = w.heap.size + 1 := by rw [HW0.out]; simp
  rw [← HW0.out] at HAl
  obtain ⟨i, Hi⟩ := hid_ex (plK (N.map Nd.k) key)
  have hiN : i ≤ N.length := by rw [Hi.out]; have := plK_le (N.map Nd.k) key; simpa using this
  have HBR : Hid _ := before_any L0 N sz fr _ key w0 base (HS.out.below HAl.out) (HR.out.below HAl.out)
  rw [← Hi.out] at HBR
  obtain ⟨G, HG⟩ := hid_ex (fun k => (.pointer (some ⟨blk L0 N (bp N k i), 0, none⟩) : Value))
  rw [← HG.out] at HBR
  have HG0 : Hid (G 0 = .pointer (some ⟨blk L0 N i, 0, none⟩)) := by rw [HG.out]; unfold Hid; dsimp only; rw [bp_zero hag.ht hiN]
  unfold gtF
  rw [← Hi.out]
  clear hag
  by_cases hlt : i < N.length
  · obtain ⟨nd, Hnd⟩ := hid_ex N[i]
    rw [dif_pos hlt, ← Hnd.out]
    have HP : Hid (nxFS N i 0 = .pointer (some ⟨nd.b, 0, none⟩)) := by unfold Hid; rw [nxF_zero HS.out.2.ht hiN, dif_pos hlt, Hnd.out]
    have HN : Hid (w.heap[nd.b]? = some (.cells (ndc nd.kv nd.a (nxFS N (i + 1))) 55)) := by have := HS.out.1.nd i hlt; rw [← Hnd.out] at this; exact this
    have HKY : Hid (Reads w nd.kv nd.k) := by have := (HS.out.1.ky i hlt).reads; rw [← Hnd.out] at this; exact this
    by_cases hk : nd.k = key
    · rw [if_pos hk]
      go_enter Try.func14, Try.ntmps14
      go_wp2_with fail
      rw [← HW0.out]
      refine Calls.mono HBR.out ?_
      rintro e w1 ⟨rfl, hb1⟩
      have HB1 : Hid (Below w.heap.size w w1) := HAl.out.trans (hb1.mono HAl.out.size)
      have hix : (Instr.index 52 (.agg (ar8 G)) (.int .i64 0)).run Try.prog w1 = .ok (G 0) w1 := idx8 G 0 (by decide) w1
      rw [HG0.out] at hix
      obtain ⟨cN, _, hbl⟩ := HS.out.1.blk_hd (p := i) hiN (k := 0) (by decide)
      have cN2 := (HB1.out.cell (p := ⟨blk L0 N i, 7 + 0, none⟩) hbl).trans cN
      rw [HP.out] at cN2
      have hbn := (Array.getElem?_eq_some_iff.1 HN.out).1
      have HN1 : Hid (w1.heap[nd.b]? = some (.cells (ndc nd.kv nd.a (nxFS N (i + 1))) 55)) := (HB1.out.block _ hbn).trans HN.out
      have ck : w1.cell? ⟨nd.b, 0, none⟩ = some nd.kv := by simp [World.cell?, show w1.heap[nd.b]? = _ from HN1.out, ndc]
      have HCK : Hid _ := ck
      have a1 : w1.cell? ⟨nd.b, 1, none⟩ = some (.int .u64 nd.a.c) := by simp [World.cell?, show w1.heap[nd.b]? = _ from HN1.out, ndc]
      have a2 : w1.cell? ⟨nd.b, 2, none⟩ = some (.bool nd.a.o) := by simp [World.cell?, show w1.heap[nd.b]? = _ from HN1.out, ndc]
      have a3 : w1.cell? ⟨nd.b, 3, none⟩ = some (.int .i64 (hi nd.a.s)) := by simp [World.cell?, show w1.heap[nd.b]? = _ from HN1.out, ndc]
      have a4 : w1.cell? ⟨nd.b, 4, none⟩ = some (.int .u64 (lo nd.a.s)) := by simp [World.cell?, show w1.heap[nd.b]? = _ from HN1.out, ndc]
      have a5 : w1.cell? ⟨nd.b, 5, none⟩ = some (.int .i64 nd.a.mn) := by simp [World.cell?, show w1.heap[nd.b]? = _ from HN1.out, ndc]
      have a6 : w1.cell? ⟨nd.b, 6, none⟩ = some (.int .i64 nd.a.mx) := by simp [World.cell?, show w1.heap[nd.b]? = _ from HN1.out, ndc]
      have HZ1 : Hid (w1.heap[w.heap.size]? = some (.cells #[.int .u64 0, .bool false, .int .i64 0, .int .u64 0, .int .i64 0, .int .i64 0] 34)) := (hb1.block _ (by omega)).trans HZ.out
      obtain ⟨z0, f0⟩ := cell_row HZ1.out 0 (by simp)
      simp only [List.getElem_toArray, List.getElem_cons_zero] at z0
      obtain ⟨z1, f1⟩ := cell_row HZ1.out 1 (by simp)
      simp only [List.getElem_toArray, List.getElem_cons_succ, List.getElem_cons_zero] at z1
      obtain ⟨z2, f2⟩ := cell_row HZ1.out 2 (by simp)
      simp only [List.getElem_toArray, List.getElem_cons_succ, List.getElem_cons_zero] at z2
      obtain ⟨z3, f3⟩ := cell_row HZ1.out 3 (by simp)
      simp only [List.getElem_toArray, List.getElem_cons_succ, List.getElem_cons_zero] at z3
      obtain ⟨z4, f4⟩ := cell_row HZ1.out 4 (by simp)
      simp only [List.getElem_toArray, List.getElem_cons_succ, List.getElem_cons_zero] at z4
      obtain ⟨z5, f5⟩ := cell_row HZ1.out 5 (by simp)
      simp only [List.getElem_toArray, List.getElem_cons_succ, List.getElem_cons_zero] at z5
      have HBZ : Hid (Below w.heap.size w _) := below6 HB1.out (Nat.le_refl _) 0 (.int .u64 nd.a.c) (.bool nd.a.o) (.int .i64 (hi nd.a.s)) (.int .u64 (lo nd.a.s)) (.int .i64 nd.a.mn) (.int .i64 nd.a.mx)
      clear hb1 cN
      go_wp2_with fail
      refine (has_some nd.b nd.kv nd.k _ key _ HCK.out (HKY.out.below HB1.out) (HR.out.below HB1.out)).mono ?_
      rintro e w2 ⟨rfl, hw2⟩
      subst w2
      rw [decide_eq_true hk]
      go_wp2_with fail
      exact bodyPost_ret (results_row_tmp rfl _ _ w.heap.size _ rfl (run_loadVar_row _ w.heap.size _ _ _ (0, 0) _ (set6 HZ1.out _ _ _ _ _ _) Try.underlying34 rfl (by kernel_rfl))) rfl ⟨rfl, HBZ.out⟩
    · rw [if_neg hk]
      go_enter Try.func14, Try.ntmps14
      go_wp2_with fail
      rw [← HW0.out]
      refine Calls.mono HBR.out ?_
      rintro e w1 ⟨rfl, hb1⟩
      have HB1 : Hid (Below w.heap.size w w1) := HAl.out.trans (hb1.mono HAl.out.size)
      have hix : (Instr.index 52 (.agg (ar8 G)) (.int .i64 0)).run Try.prog w1 = .ok (G 0) w1 := idx8 G 0 (by decide) w1
      rw [HG0.out] at hix
      obtain ⟨cN, _, hbl⟩ := HS.out.1.blk_hd (p := i) hiN (k := 0) (by decide)
      have cN2 := (HB1.out.cell (p := ⟨blk L0 N i, 7 + 0, none⟩) hbl).trans cN
      rw [HP.out] at cN2
      have hbn := (Array.getElem?_eq_some_iff.1 HN.out).1
      have HN1 : Hid (w1.heap[nd.b]? = some (.cells (ndc nd.kv nd.a (nxFS N (i + 1))) 55)) := (HB1.out.block _ hbn).trans HN.out
      have ck : w1.cell? ⟨nd.b, 0, none⟩ = some nd.kv := by simp [World.cell?, show w1.heap[nd.b]? = _ from HN1.out, ndc]
      have HCK : Hid _ := ck
      have HZ1 : Hid (w1.heap[w.heap.size]? = some (.cells #[.int .u64 0, .bool false, .int .i64 0, .int .u64 0, .int .i64 0, .int .i64 0] 34)) := (hb1.block _ (by omega)).trans HZ.out
      obtain ⟨z0, f0⟩ := cell_row HZ1.out 0 (by simp)
      simp only [List.getElem_toArray, List.getElem_cons_zero] at z0
      obtain ⟨z1, f1⟩ := cell_row HZ1.out 1 (by simp)
      simp only [List.getElem_toArray, List.getElem_cons_succ, List.getElem_cons_zero] at z1
      obtain ⟨z2, f2⟩ := cell_row HZ1.out 2 (by simp)
      simp only [List.getElem_toArray, List.getElem_cons_succ, List.getElem_cons_zero] at z2
      obtain ⟨z3, f3⟩ := cell_row HZ1.out 3 (by simp)
      simp only [List.getElem_toArray, List.getElem_cons_succ, List.getElem_cons_zero] at z3
      obtain ⟨z4, f4⟩ := cell_row HZ1.out 4 (by simp)
      simp only [List.getElem_toArray, List.getElem_cons_succ, List.getElem_cons_zero] at z4
      obtain ⟨z5, f5⟩ := cell_row HZ1.out 5 (by simp)
      simp only [List.getElem_toArray, List.getElem_cons_succ, List.getElem_cons_zero] at z5
      have HBZ : Hid (Below w.heap.size w _) := below6 HB1.out (Nat.le_refl _) 0 (.int .u64 0) (.bool false) (.int .i64 0) (.int .u64 0) (.int .i64 0) (.int .i64 0)
      clear hb1 cN
      go_wp2_with fail
      refine (has_some nd.b nd.kv nd.k _ key _ HCK.out (HKY.out.below HB1.out) (HR.out.below HB1.out)).mono ?_
      rintro e w2 ⟨rfl, hw2⟩
      subst w2
      rw [decide_eq_false hk]
      go_wp2_with fail
      exact bodyPost_ret (results_row_tmp rfl _ _ w.heap.size _ rfl (run_loadVar_row _ w.heap.size _ _ _ (0, 0) _ (set6 HZ1.out _ _ _ _ _ _) Try.underlying34 rfl (by kernel_rfl))) rfl ⟨by show Ending.returned (Value.tuple #[Value.agg #[_, _, _, _, _, _], Value.bool false]) = Ending.returned (Value.tuple #[agv agZ, Value.bool false]); rw [agvZ], HBZ.out⟩
  · rw [dif_neg hlt]
    have HP3 : Hid (nxFS N i 0 = .pointer none) := by unfold Hid; rw [nxF_zero HS.out.2.ht hiN, dif_neg hlt]
    go_enter Try.func14, Try.ntmps14
    go_wp2_with fail
    rw [← HW0.out]
    refine Calls.mono HBR.out ?_
    rintro e w1 ⟨rfl, hb1⟩
    have HB1 : Hid (Below w.heap.size w w1) := HAl.out.trans (hb1.mono HAl.out.size)
    have hix : (Instr.index 52 (.agg (ar8 G)) (.int .i64 0)).run Try.prog w1 = .ok (G 0) w1 := idx8 G 0 (by decide) w1
    rw [HG0.out] at hix
    obtain ⟨cN, _, hbl⟩ := HS.out.1.blk_hd (p := i) hiN (k := 0) (by decide)
    have cN2 := (HB1.out.cell (p := ⟨blk L0 N i, 7 + 0, none⟩) hbl).trans cN
    rw [HP3.out] at cN2
    have HZ1 : Hid (w1.heap[w.heap.size]? = some (.cells #[.int .u64 0, .bool false, .int .i64 0, .int .u64 0, .int .i64 0, .int .i64 0] 34)) := (hb1.block _ (by omega)).trans HZ.out
    obtain ⟨z0, f0⟩ := cell_row HZ1.out 0 (by simp)
    simp only [List.getElem_toArray, List.getElem_cons_zero] at z0
    obtain ⟨z1, f1⟩ := cell_row HZ1.out 1 (by simp)
    simp only [List.getElem_toArray, List.getElem_cons_succ, List.getElem_cons_zero] at z1
    obtain ⟨z2, f2⟩ := cell_row HZ1.out 2 (by simp)
    simp only [List.getElem_toArray, List.getElem_cons_succ, List.getElem_cons_zero] at z2
    obtain ⟨z3, f3⟩ := cell_row HZ1.out 3 (by simp)
    simp only [List.getElem_toArray, List.getElem_cons_succ, List.getElem_cons_zero] at z3
    obtain ⟨z4, f4⟩ := cell_row HZ1.out 4 (by simp)
    simp only [List.getElem_toArray, List.getElem_cons_succ, List.getElem_cons_zero] at z4
    obtain ⟨z5, f5⟩ := cell_row HZ1.out 5 (by simp)
    simp only [List.getElem_toArray, List.getElem_cons_succ, List.getElem_cons_zero] at z5
    have HBZ : Hid (Below w.heap.size w _) := below6 HB1.out (Nat.le_refl _) 0 (.int .u64 0) (.bool false) (.int .i64 0) (.int .u64 0) (.int .i64 0) (.int .i64 0)
    clear hb1 cN
    go_wp2_with fail
    refine (has_none _ key _ (HR.out.below HB1.out)).mono ?_
    rintro e w2 ⟨rfl, hw2⟩
    subst w2
    go_wp2_with fail
    exact bodyPost_ret (results_row_tmp rfl _ _ w.heap.size _ rfl (run_loadVar_row _ w.heap.size _ _ _ (0, 0) _ (set6 HZ1.out _ _ _ _ _ _) Try.underlying34 rfl (by kernel_rfl))) rfl ⟨by show Ending.returned (Value.tuple #[Value.agg #[_, _, _, _, _, _], Value.bool false]) = Ending.returned (Value.tuple #[agv agZ, Value.bool false]); rw [agvZ], HBZ.out⟩
end Go.Proofs.Ytopemhlkjicjpaa

/- A drawn region's walk may hold on to more, as it goes on. -/
namespace Go.Proofs.Ytopemhlkjicjpaa
open Go.RowKit

end Go.Proofs.Ytopemhlkjicjpaa
