/- TT0 FG TN1 TN2, joined. -/
import Derived.Test.YtlpjdfgknmfmnaaTF6
import Derived.Test.YtlpjdfgknmfmnaaTF8
import Derived.Test.YtlpjdfgknmfmnaaTF11
import Derived.Test.YtlpjdfgknmfmnaaTF13
import Derived.Test.YtlpjdfgknmfmnaaTF17
import Derived.RangeFuncRecord
/- table: plain words: what Write makes of entries. -/
namespace Go.Proofs.Ytlpjdfgknmfmnaa
open Go.RowKit

/-- Entries that may be a table's. -/
structure TOk (l : List Et) : Prop where
  n : l.length ≤ 4096
  k : ∀ x ∈ l, 1 ≤ x.1.length ∧ x.1.length ≤ 256
  a : ∀ x ∈ l, x.2.c ≠ 0 ∧ rightB x.2 = true
  s : (l.map (·.1)).Pairwise ltK
theorem tmB_zero : ∀ (l : List Et) (p : List UInt8), tmB p l = 0 → (∀ x ∈ l, 1 ≤ x.1.length ∧ x.1.length ≤ 256) ∧ (∀ x ∈ l, x.2.c ≠ 0 ∧ rightB x.2 = true) ∧ (p :: l.map (·.1)).Pairwise ltK
  | [], p, _ => by simp
  | x :: l, p, h => by
    rw [tmB] at h
    by_cases h1 : x.1.length < 1 ∨ 256 < x.1.length
    · rw [if_pos h1] at h; simp at h
    · rw [if_neg h1] at h
      by_cases h2 : x.2.c = 0 ∨ rightB x.2 = false
      · rw [if_pos h2] at h; simp at h
      · rw [if_neg h2] at h
        by_cases h3 : 0 ≤ Lib.compareBytes p x.1
        · rw [if_pos h3] at h; simp at h
        · rw [if_neg h3] at h
          obtain ⟨g1, g2, g3⟩ := tmB_zero l x.1 h
          have hp : ltK p x.1 := by rw [cmp_ge] at h3; exact Decidable.not_not.1 h3
          refine ⟨fun y hy => ?_, fun y hy => ?_, ?_⟩
          · rcases List.mem_cons.1 hy with rfl | hy
            · omega
            · exact g1 y hy
          · rcases List.mem_cons.1 hy with rfl | hy
            · exact ⟨fun e => h2 (.inl e), by cases hq : rightB y.2 with | true => rfl | false => exact absurd (.inr hq) h2⟩
            · exact g2 y hy
          · rw [List.map_cons, List.pairwise_cons]
            refine ⟨fun y hy => ?_, g3⟩
            rcases List.mem_cons.1 hy with rfl | hy
            · exact hp
            · exact ltK_trans hp ((List.pairwise_cons.1 g3).1 y hy)
theorem lt_nil : ∀ (a : Ks), 1 ≤ a.length → ltK [] a
  | [], h => by simp at h
  | _ :: _, _ => rfl
theorem tmB_of : ∀ (l : List Et) (p : List UInt8), (∀ x ∈ l, 1 ≤ x.1.length ∧ x.1.length ≤ 256) → (∀ x ∈ l, x.2.c ≠ 0 ∧ rightB x.2 = true) → (p :: l.map (·.1)).Pairwise ltK → tmB p l = 0
  | [], _, _, _, _ => rfl
  | x :: l, p, h1, h2, h3 => by
    have a1 := h1 x List.mem_cons_self
    obtain ⟨a2, a3⟩ := h2 x List.mem_cons_self
    rw [List.map_cons, List.pairwise_cons] at h3
    have a4 := h3.1 x.1 List.mem_cons_self
    rw [tmB, if_neg (by omega), if_neg (by rw [a3]; simp [a2]), if_neg (by rw [cmp_ge]; exact fun h => h a4)]
    exact tmB_of l x.1 (fun y hy => h1 y (List.mem_cons_of_mem _ hy)) (fun y hy => h2 y (List.mem_cons_of_mem _ hy)) h3.2
theorem tm_ok {l : List Et} (h : tmF l = 0) : TOk l := by
  unfold tmF at h
  by_cases h1 : 4096 < l.length
  · rw [if_pos h1] at h; simp at h
  · rw [if_neg h1] at h
    obtain ⟨g1, g2, g3⟩ := tmB_zero l [] h
    exact ⟨by omega, g1, g2, (List.pairwise_cons.1 g3).2⟩
theorem tm_of {l : List Et} (h : TOk l) : tmF l = 0 := by
  unfold tmF
  rw [if_neg (by have := h.n; omega)]
  refine tmB_of l [] h.k h.a (List.pairwise_cons.2 ⟨fun y hy => ?_, h.s⟩)
  obtain ⟨x, hx, rfl⟩ := List.mem_map.1 hy
  exact lt_nil _ (h.k x hx).1

/-- Sixteen entries, and how many such there are. -/
def tCh (l : List Et) (j : Nat) : List Et := (l.drop (16 * j)).take 16
def tK (n : Nat) : Nat := (n + 15) / 16
def rowP (c : List Et) : List Pr := c.map fun x => (x.1, wrU x.2)
def tRow (l : List Et) (j : Nat) : List UInt8 := wrB (rowP (tCh l j))
def tRows (l : List Et) : List (List UInt8) := (List.range (tK l.length)).map (tRow l)
def tLast (l : List Et) (j : Nat) : Ks := match (tCh l j).getLast? with | none => [] | some x => x.1
def tIdx (l : List Et) : List Pr := (List.range (tK l.length)).map fun j => (tLast l j, u8s (en (tRows l) j))
def tFoot (l : List Et) : List UInt8 := u8s l.length ++ u8s (cat (tRows l)).length
def tabL (l : List Et) : List (List UInt8) := tRows l ++ [wrB (tIdx l), rmB l, tFoot l]
/-- What is wrong, and a table's bytes. -/
def twE (l : List Et) : Int := if tmF l ≠ 0 then tmF l else if 65535 < (wrB (tIdx l)).length then 2 else 0
def twB (l : List Et) : List UInt8 := if twE l = 0 then cat (tabL l) else []
theorem tK_lt {n j : Nat} : j < tK n ↔ 16 * j < n := by unfold tK; omega
theorem tRows_len (l : List Et) : (tRows l).length = tK l.length := by simp [tRows]
theorem tIdx_len (l : List Et) : (tIdx l).length = tK l.length := by simp [tIdx]
theorem tRows_at {l : List Et} {j : Nat} (h : j < (tRows l).length) : (tRows l)[j] = tRow l j := by simp [tRows]
theorem tIdx_at {l : List Et} {j : Nat} (h : j < (tIdx l).length) : (tIdx l)[j] = (tLast l j, u8s (en (tRows l) j)) := by simp [tIdx]
theorem tCh_len (l : List Et) (j : Nat) : (tCh l j).length = min 16 (l.length - 16 * j) := by simp [tCh]
theorem tCh_at {l : List Et} {j i : Nat} (h : i < (tCh l j).length) : (tCh l j)[i] = l[16 * j + i]'(by rw [tCh_len] at h; omega) := by simp [tCh]
theorem tCh_mem {l : List Et} {j : Nat} {x : Et} (h : x ∈ tCh l j) : x ∈ l := List.mem_of_mem_drop (List.mem_of_mem_take h)
theorem tLast_at {l : List Et} {j : Nat} (h : 16 * j < l.length) : tLast l j = (l[16 * j + ((tCh l j).length - 1)]'(by rw [tCh_len]; omega)).1 := by
  unfold tLast
  have h0 : (tCh l j).length - 1 < (tCh l j).length := by rw [tCh_len]; omega
  rw [List.getLast?_eq_getElem?, List.getElem?_eq_getElem h0, tCh_at h0]
theorem tLast_of {l : List Et} {j : Nat} {c : List Et} (hc : c = tCh l j) {E : Nat} (hE : c.length = E) (h0 : 0 < E) : tLast l j = (c[E - 1]'(by omega)).1 := by
  subst hc
  subst hE
  unfold tLast
  rw [List.getLast?_eq_getElem?, List.getElem?_eq_getElem (by omega)]
theorem tLast_mem {l : List Et} {j : Nat} (h : 16 * j < l.length) : ∃ x ∈ l, x.1 = tLast l j := by
  rw [tLast_at h]
  exact ⟨_, List.getElem_mem _, rfl⟩
/-- A row of pairs whose keys rise. -/
theorem rise_of : ∀ (l : List Pr) (i : Nat) (ah : Ks), (0 < i → ∀ x ∈ l, ltK ah x.1) → (l.map (·.1)).Pairwise ltK → rise i ah l
  | [], _, _, _, _ => trivial
  | x :: l, i, ah, h1, h2 => by
    rw [List.map_cons, List.pairwise_cons] at h2
    exact ⟨fun h => h1 h x List.mem_cons_self, rise_of l (i + 1) x.1 (fun _ y hy => h2.1 _ (List.mem_map_of_mem hy)) h2.2⟩
theorem wrU_len {a : Ag} (h : rightB a = true) : (wrU a).length = 41 := by rw [wrU, if_pos h, aggU_len]
theorem wrU_le (a : Ag) : (wrU a).length ≤ 41 := by unfold wrU; split <;> simp [aggU_len]
theorem rowP_keys (c : List Et) : (rowP c).map (·.1) = c.map (·.1) := by simp [rowP]
theorem rowP_ok {l : List Et} (h : TOk l) (j : Nat) : mbF (rowP (tCh l j)) = 0 := by
  refine mb_zero.2 ⟨?_, fun x hx => ?_, ?_⟩
  · simp only [rowP, List.length_map, tCh_len]; omega
  · obtain ⟨y, hy, rfl⟩ := List.mem_map.1 hx
    have := (h.k y (tCh_mem hy)).2
    have := wrU_le y.2
    exact ⟨by show y.1.length ≤ _; omega, by show (wrU y.2).length ≤ _; omega⟩
  · refine rise_of _ _ _ (fun h => by omega) ?_
    rw [rowP_keys]
    unfold tCh
    rw [List.map_take, List.map_drop]
    exact (h.s.drop).take
theorem wrB_of {l : List Pr} (h : mbF l = 0) : wrB l = wb l := by rw [wrB, if_pos h]
/-- A bound of a row's bytes. -/
theorem wbF_bd : ∀ (l : List Pr) (i : Nat) (ah : Ks), (∀ x ∈ l, okP x) → (wbF i ah l).length ≤ (l.map fun x => x.1.length + x.2.length + 6).sum
  | [], _, _, _ => by simp [wbF]
  | x :: l, i, ah, h => by
    have ih := wbF_bd l (i + 1) x.1 (fun y hy => h y (List.mem_cons_of_mem _ hy))
    have hp := pb_le (i := i) (ah := ah) (h x List.mem_cons_self)
    simp [wbF] at ih ⊢
    omega
theorem sum_le {α : Type} (f : α → Nat) (b : Nat) : ∀ l : List α, (∀ x ∈ l, f x ≤ b) → (l.map f).sum ≤ l.length * b
  | [], _ => by simp
  | x :: l, h => by
    have ih := sum_le f b l (fun y hy => h y (List.mem_cons_of_mem _ hy))
    have := h x List.mem_cons_self
    simp only [List.map_cons, List.sum_cons, List.length_cons, Nat.add_mul, Nat.one_mul]
    omega
theorem tRow_len {l : List Et} (h : TOk l) (j : Nat) : (tRow l j).length ≤ 4848 := by
  have h0 := rowP_ok h j
  unfold tRow
  rw [wrB_of h0]
  have h1 := wbF_bd (rowP (tCh l j)) 0 [] (mb_zero.1 h0).2.1
  have h2 := sum_le (fun x : Pr => x.1.length + x.2.length + 6) 303 (rowP (tCh l j)) (fun x hx => by
    obtain ⟨y, hy, rfl⟩ := List.mem_map.1 hx
    have a := (h.k y (tCh_mem hy)).2
    have b := wrU_le y.2
    show y.1.length + (wrU y.2).length + 6 ≤ 303
    omega)
  have h3 : (rowP (tCh l j)).length ≤ 16 := by simp only [rowP, List.length_map, tCh_len]; omega
  unfold wb
  omega
theorem cat_bd (b : Nat) : ∀ L : List (List UInt8), (∀ x ∈ L, x.length ≤ b) → (cat L).length ≤ L.length * (b + 8)
  | [], _ => by simp [cat]
  | x :: L, h => by
    have ih := cat_bd b L (fun y hy => h y (List.mem_cons_of_mem _ hy))
    have := h x List.mem_cons_self
    rw [cat, List.length_append, frm_len, List.length_cons, Nat.add_mul]
    omega
theorem tRows_bd {l : List Et} (h : TOk l) : ∀ x ∈ tRows l, x.length ≤ 4848 := by
  intro x hx
  obtain ⟨j, _, rfl⟩ := List.mem_map.1 hx
  exact tRow_len h j
theorem tCat_len {l : List Et} (h : TOk l) : (cat (tRows l)).length ≤ 1300000 := by
  have h1 := cat_bd 4848 (tRows l) (tRows_bd h)
  rw [tRows_len] at h1
  have := h.n
  have h2 : tK l.length ≤ 256 := by unfold tK; omega
  omega
theorem en_le (L : List (List UInt8)) (j : Nat) : en L j ≤ (cat L).length := by
  unfold en
  have : cat L = cat (L.take j) ++ cat (L.drop j) := by rw [← cat_append, List.take_append_drop]
  rw [this, List.length_append]
  omega
theorem tIdx_ok {l : List Et} (h : TOk l) : mbF (tIdx l) = 0 := by
  refine mb_zero.2 ⟨?_, fun x hx => ?_, ?_⟩
  · rw [tIdx_len]; have := h.n; unfold tK; omega
  · obtain ⟨j, hj, rfl⟩ := List.mem_map.1 hx
    obtain ⟨y, hy, e⟩ := tLast_mem (l := l) (tK_lt.1 (List.mem_range.1 hj))
    have := (h.k y hy).2
    refine ⟨?_, ?_⟩
    · show (tLast l j).length ≤ _
      rw [← e]; omega
    · show (u8s _).length ≤ _
      rw [u8s_len]; omega
  · refine rise_of _ _ _ (fun h => by omega) ?_
    rw [List.pairwise_iff_getElem]
    intro i j hi hj hij
    simp only [tIdx, List.length_map, List.length_range] at hi hj
    have g1 := tK_lt.1 hi
    have g2 := tK_lt.1 hj
    simp only [tIdx, List.getElem_map, List.getElem_range]
    rw [tLast_at g1, tLast_at g2]
    have hs := List.pairwise_iff_getElem.1 h.s
    have q1 := tCh_len l i
    have q2 := tCh_len l j
    have := hs (16 * i + ((tCh l i).length - 1)) (16 * j + ((tCh l j).length - 1)) (by rw [List.length_map]; omega) (by rw [List.length_map]; omega) (by omega)
    simpa using this
theorem tIdx_len_le {l : List Et} (h : TOk l) : (wrB (tIdx l)).length ≤ 256 * 270 := by
  have h0 := tIdx_ok h
  rw [wrB_of h0]
  have h1 := wbF_bd (tIdx l) 0 [] (mb_zero.1 h0).2.1
  have h2 := sum_le (fun x : Pr => x.1.length + x.2.length + 6) 270 (tIdx l) (fun x hx => by
    obtain ⟨j, hj, rfl⟩ := List.mem_map.1 hx
    obtain ⟨y, hy, e⟩ := tLast_mem (l := l) (tK_lt.1 (List.mem_range.1 hj))
    have a := (h.k y hy).2
    show (tLast l j).length + (u8s _).length + 6 ≤ 270
    rw [← e, u8s_len]; omega)
  have h3 : (tIdx l).length ≤ 256 := by rw [tIdx_len]; have := h.n; unfold tK; omega
  unfold wb
  have := Nat.mul_le_mul_right 270 h3
  omega
theorem rmB_len (l : List Et) : (rmB l).length = rmN l.length + 1 := by
  unfold rmB rmD
  rw [List.length_cons, rmD_len _ _ _ (by simp)]
theorem tFoot_len (l : List Et) : (tFoot l).length = 16 := by simp [tFoot, u8s_len]
end Go.Proofs.Ytlpjdfgknmfmnaa

/- A range over a function that reads boxes of its own: the rounds must leave them (G). -/
namespace Go.Proofs.Ytlpjdfgknmfmnaa
open Go.RowKit

variable {F : Fence} {n : Nat} {P : Program}
/-- What the function that is ranged over must do: it hands over what meets Pre, one behind the other, and in the end S. -/
def SeqG {α : Type} (F : Fence) (n : Nat) (P : Program) (g : Nat) (lb : Array Value) (encs : α → Array Value) (n₀ : Nat) (Pre : List α → α → World → Prop) (G : World → Prop) (S : List α → Prop) (w : World) : Prop :=
  ∀ (l : Nat) (J : List α → World → Prop) (W : World), Kc n₀ w W → n₀ ≤ W.heap.size → (∀ pre A B, J pre A → Below A.heap.size A B → J pre B) → (∀ pre A, J pre A → G A) →
    (∀ pre x W1, J pre W1 → Pre pre x W1 → n₀ ≤ W1.heap.size → YieldAt F (n - 1) P l (encs x) W1 fun e W' => e = .returned (.bool true) ∧ J (pre ++ [x]) W' ∧ Below n₀ W1 W') →
    J [] W → CallsIn F n P g (#[.func (.yield l) #[] #[]] ++ lb) W fun e W' => (∃ v, e = .returned v) ∧ ∃ xs, S xs ∧ J xs W'
theorem wpIn_range_g {α : Type} {g : Operand} {ps : Array Tmp} {assign body : Code} {Q : Exit → Act → World → Prop} {a : Act} {w : World}
    (hro : F.round = none) (h1 : 1 ≤ n) {gf : Nat} {lb : Array Value} (hg : a.eval g = .func (.func gf) #[] lb) (hFg : F.fn gf) (eg : ∀ args w, (callFunc gf args).run P w = .ok (.enter gf args) w)
    {encs : α → Array Value} (hps : ∀ x, (encs x).size = ps.size) (I : List α → World → Prop) (Pre : List α → α → World → Prop) (G : World → Prop) (S : List α → Prop)
    (n₀ : Nat) (hn₀ : n₀ ≤ w.heap.size) (hseq : SeqG F (n - 1) P gf lb encs n₀ Pre G S w)
    (hG : ∀ pre A, I pre A → G A) (hI : ∀ pre A B, I pre A → Kc n₀ A B → I pre B) (hP : ∀ pre x A B, Pre pre x A → Kc n₀ A B → Pre pre x B) (h0 : I [] w) (a₁ : α → Act)
    (hassign : ∀ (l : Nat) (x : α) (W : World) (K : Act → World → Prop), K (a₁ x) W →
      assign.wpIn (F.inRound l) (n - 1 - 1) P (Exit.then K (fun _ _ _ => False)) { tmps := (ps.zip (encs x)).foldl (fun t (p, v) => t.setIfInBounds p v) a.tmps, defers := [] } W)
    (hbody : ∀ (l : Nat) (pre : List α) (x : α) (W : World), I pre W → Pre pre x W → n₀ ≤ W.heap.size → body.wpIn (F.inRound l) (n - 1 - 1) P (postP n₀ I (pre ++ [x]) W) (a₁ x) W)
    (hdone : ∀ (D : Nat) (xs : List α) (W : World), w.heap.size ≤ D → S xs → I xs W → W.heap[D]? = some (.deferred (some [])) → Q .normal { a with defers := { target := .collected D, args := #[] } :: a.defers } W) :
    (Code.rangeFunc g ps assign body).wpIn F n P Q a w := by
  refine wpIn_rangeFunc ?_
  intro fn hfn
  rw [hro]
  have hen := run_enterLoop_outer (P := P) (w := w) fn a.tmps ps assign body
  generalize hd : w.heap.size = d at *
  generalize hr0 : ({ state := .ready, pending := none, fn := fn, tmps := a.tmps, params := ps, assign := assign, body := body, defers := d } : Loop) = r0 at *
  have e1 : r0.fn = fn := by rw [← hr0]
  have e2 : r0.params = ps := by rw [← hr0]
  have e3 : r0.state = .ready := by rw [← hr0]
  have e4 : r0.tmps = a.tmps := by rw [← hr0]
  have e5 : r0.assign = assign := by rw [← hr0]
  have e6 : r0.body = body := by rw [← hr0]
  have e7 : r0.pending = none := by rw [← hr0]
  generalize hW : (w.alloc (.deferred (some []))).alloc (.loop r0) = W0 at *
  have hB : Below d w W0 := by
    rw [← hW]
    exact ((Below.refl d w).alloc (by omega) _).alloc (by simp; omega) _
  have hz : W0.heap.size = d + 2 := by rw [← hW]; simp; omega
  have hD0 : W0.heap[d]? = some (.deferred (some [])) := by
    rw [← hW, Below.heap_alloc _ _ _ (by simp; omega), ← hd]; exact World.alloc_heap_new w _
  have hL0 : W0.heap[d + 1]? = some (.loop r0) := by
    have := World.alloc_heap_new (w.alloc (.deferred (some []))) (.loop r0)
    rw [World.size_alloc, hd, hW] at this
    exact this
  refine ⟨d + 1, _, W0, { target := .fn (.func gf) lb, args := #[.func (.yield (d + 1)) #[] #[]] }, W0, gf, #[.func (.yield (d + 1)) #[] #[]] ++ lb, W0, hen, ?_, ?_, ?_, fun _ => h1, ?_⟩
  · simp only [resolve, hg]; simp [go_sem]
  · intro f' hf'; simp [Target.leads] at hf'; subst hf'; exact hFg
  · simp [invoke, go_sem, eg]
  · have hKw : Kc n₀ w W0 := ⟨hB.mono hn₀, fun k _ _ _ hk => (hB.block k (by have := (Array.getElem?_eq_some_iff.1 hk).1; omega)).trans hk⟩
    have hI0 : I [] W0 := hI [] w W0 h0 hKw
    refine (hseq (d + 1) (fun pre W => I pre W ∧ W.heap[d + 1]? = some (.loop r0) ∧ W.heap[d]? = some (.deferred (some [])) ∧ d ≤ W.heap.size) W0 hKw (by omega) ?_ (fun pre A h => hG pre A h.1) ?_ ⟨hI0, hL0, hD0, by omega⟩).mono ?_
    · rintro pre A B ⟨q1, q2, q3, q4⟩ hb
      have hs := hb.size
      exact ⟨hI pre A B q1 (Kc.of_below hb (by omega)), (hb.block _ (Array.getElem?_eq_some_iff.1 q2).1).trans q2, (hb.block _ (Array.getElem?_eq_some_iff.1 q3).1).trans q3, by omega⟩
    · rintro pre x W ⟨q1, q2, q3, q4⟩ hpx hdw
      have hl := (Array.getElem?_eq_some_iff.1 q2).1
      have hy := run_yield (P := P) (args := encs x) q2 (by rw [e2]; exact hps x)
      rw [e1, e2, e4, e5, e6] at hy
      refine ⟨fn, _, assign, body, hy, roundIn_of_wpIn hfn (hassign _ x W _ ⟨_, run_beginRound q2 e3, ?_⟩)⟩
      have k1 := Kc.put (n := n₀) (.loop { r0 with state := .busy }) q2 rfl (by omega)
      have l1 : (W.putObj (d + 1) (.loop { r0 with state := .busy })).heap[d + 1]? = some (.loop { r0 with state := .busy }) := World.putObj_heap_same hl
      have d1 : (W.putObj (d + 1) (.loop { r0 with state := .busy })).heap[d]? = some (.deferred (some [])) := (World.putObj_heap_other (by omega)).trans q3
      refine wpIn_mono (hbody _ pre x _ (hI _ _ _ q1 k1) (hP _ _ _ _ hpx k1) (by simp; omega)) ?_
      intro e a3 W3 hp
      cases e with
      | normal =>
        obtain ⟨m1, m2, m3⟩ := hp
        have l3 := m1.same _ _ l1 rfl
        have d3 := m1.same _ _ d1 rfl
        have hend := run_endRound (P := P) none l3
        have hl3 := (Array.getElem?_eq_some_iff.1 l3).1
        have e9 : ({ ({ r0 with state := .busy } : Loop) with state := if (none : Option Code).isNone then .ready else .done, pending := none } : Loop) = r0 := by
          rw [← hr0]; rfl
        rw [e9] at hend
        have k3 := Kc.put (n := n₀) (.loop r0) l3 rfl (by omega)
        exact ⟨_, _, hend, rfl, ⟨hI _ _ _ m3 k3, World.putObj_heap_same hl3, (World.putObj_heap_other (by omega)).trans d3, by have := m1.size; simp at this ⊢; omega⟩, (k1.b.trans m2).trans k3.b⟩
      | ret => exact hp.elim
      | exit id => exact hp.elim
      | goto t => exact hp.elim
      | panic ch => exact hp.elim
      | outgrown => exact hp.elim
    · rintro e W2 ⟨⟨v, rfl⟩, xs, hS, q1, q2, q3, q4⟩
      have hend := run_endLoop (P := P) q2 (by rw [e3]; simp)
      rw [e7] at hend
      refine ⟨none, _, hend, ?_⟩
      exact hdone d xs _ (by omega) hS (hI _ _ _ q1 (Kc.put _ q2 rfl (by omega))) ((World.putObj_heap_other (by omega)).trans q3)
end Go.Proofs.Ytlpjdfgknmfmnaa

/- A table that is nil, or that no call made. -/
namespace Go.Proofs.Ytlpjdfgknmfmnaa
open Go.RowKit

end Go.Proofs.Ytlpjdfgknmfmnaa

/- What Write does with no entries: mayBe. -/
namespace Go.Proofs.Ytlpjdfgknmfmnaa
open Go.RowKit

set_option maxRecDepth 100000 in
theorem mayBe_nil (w : World) : Calls Try.prog 15 #[.slice none 0 0] w fun e w' => e = .returned (.int .i64 0) ∧ Below w.heap.size w w' := by
  go_enter Try.func15, Try.ntmps15
  go_wp2_with fail
  go_loopw [11] (fun i wr => wr = w ∧ i = .int .i64 0) (fun _ _ => 0)
  case atStart => exact ⟨rfl, rfl⟩
  case round =>
    obtain ⟨rfl, rfl⟩ := hrel
    go_wp2_with fail
    go_ret
    exact ⟨rfl, Below.refl _ _⟩
end Go.Proofs.Ytlpjdfgknmfmnaa
