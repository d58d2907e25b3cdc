/- FCt ML1 WN0 WIt MN1, joined. -/
import Derived.Test.YtilbffgpniomcaaGreatDoorOO1
import Derived.Test.YtilbffgpniomcaaGreatDoorOO4
import Derived.Test.YtilbffgpniomcaaGreatDoorOO15
import Derived.Test.YtilbffgpniomcaaGreatDoorOO17
import Derived.Lib.AtoiAll
import Derived.Lib.AtoiAllCases
import Derived.Lib.ItoaNum
import Derived.Lib.ItoaMem
import Derived.Shelf.LaysM
import Derived.Shelf.Strconv.Itoa3
import Derived.Test.YtilbffgpniomcaaGreatDoorRows
import Derived.Lib.AppendIntMem
/- Frames one behind the other, cut anywhere: the pure half of F6, for seats that have no list of slices. -/
namespace Go.Proofs.YtilbffgpniomcaaGreatDoor
open Go.RowKit

def cat : List (List UInt8) → List UInt8
  | [] => []
  | l :: L => frm l ++ cat L
def en (L : List (List UInt8)) (k : Nat) : Nat := (cat (L.take k)).length
def pr (l : List UInt8) : List UInt8 × Nat := (l, l.length + 8)
theorem en_zero (L : List (List UInt8)) : en L 0 = 0 := rfl
theorem en_cons (l : List UInt8) (L : List (List UInt8)) (k : Nat) : en (l :: L) (k + 1) = l.length + 8 + en L k := by
  unfold en; rw [List.take_succ_cons, cat, List.length_append, frm_len]
theorem cat_append (A B : List (List UInt8)) : cat (A ++ B) = cat A ++ cat B := by
  induction A with
  | nil => rfl
  | cons a A ih => rw [List.cons_append, cat, cat, ih, List.append_assoc]
theorem cat_snoc (L : List (List UInt8)) (k : Nat) (h : k < L.length) : cat (L.take (k + 1)) = cat (L.take k) ++ frm L[k] := by
  rw [List.take_add_one, List.getElem?_eq_getElem h, cat_append]
  simp [cat]
theorem en_snoc (L : List (List UInt8)) (k : Nat) (h : k < L.length) : en L (k + 1) = en L k + (L[k].length + 8) := by
  unfold en; rw [cat_snoc L k h, List.length_append, frm_len]
theorem en_ge (L : List (List UInt8)) : ∀ k, k ≤ L.length → 8 * k ≤ en L k := by
  intro k
  induction k with
  | zero => intro _; simp [en_zero]
  | succ k ih => intro h; rw [en_snoc L k (by omega)]; have := ih (by omega); omega
theorem nx_cut (l : List UInt8) (hl : l.length ≤ 65535) (c : Nat) (hc : c < l.length + 8) : (nxF ((frm l).take c)).2.2 ≠ 0 := by
  have hlen : ((frm l).take c).length = c := by rw [List.length_take, frm_len]; omega
  unfold nxF
  by_cases h4 : c < 4
  · rw [if_pos (by omega)]; simp
  · have e4 : ((frm l).take c).take 4 = four l.length := by
      rw [List.take_take, Nat.min_eq_left (by omega)]; unfold frm; rw [List.append_assoc]; rfl
    rw [e4, vle_four' _ (by omega), if_neg (by omega), if_neg (by omega), if_pos (by omega)]; simp
theorem alF_stop (f : Nat) (l : List UInt8) (h : (nxF l).2.2 ≠ 0) : alF f l = [] := by
  cases f with
  | zero => rfl
  | succ f => rw [alF, if_neg h]
theorem al_cut : ∀ (k : Nat) (L : List (List UInt8)) (c f : Nat), k ≤ L.length → (∀ l ∈ L, l.length ≤ 65535) → en L k ≤ c → (k = L.length ∨ c < en L (k + 1)) → k ≤ f → alF f ((cat L).take c) = (L.take k).map pr
  | 0, [], c, f, _, _, _, _, _ => by
    rw [cat, List.take_nil]; exact alF_stop _ _ (by simp [nxF])
  | 0, l :: L, c, f, _, hl, _, h, _ => by
    have hc : c < l.length + 8 := by
      rcases h with h | h
      · simp at h
      · rw [en_cons, en_zero] at h; omega
    rw [cat, List.take_append_of_le_length (by rw [frm_len]; omega)]
    exact alF_stop _ _ (nx_cut l (hl l (List.mem_cons_self ..)) c hc)
  | k + 1, [], _, _, h, _, _, _, _ => by simp at h
  | k + 1, l :: L, c, f, h1, hl, h2, h3, h4 => by
    obtain ⟨f, rfl⟩ : ∃ f', f = f' + 1 := ⟨f - 1, by omega⟩
    rw [en_cons] at h2
    rw [cat, List.take_append, List.take_of_length_le (by rw [frm_len]; omega), alF_frm f l _ (hl l (List.mem_cons_self ..)), frm_len, List.take_succ_cons, List.map_cons,
      al_cut k L (c - (l.length + 8)) f (by simpa using h1) (fun x hx => hl x (List.mem_cons_of_mem _ hx)) (by omega) (by
        rcases h3 with h3 | h3
        · exact .inl (by simpa using h3)
        · rw [en_cons] at h3; exact .inr (by omega)) (by omega)]
    rfl
end Go.Proofs.YtilbffgpniomcaaGreatDoor

/- manifest: what its files say, plainly. -/
namespace Go.Proofs.YtilbffgpniomcaaGreatDoor
open Go.RowKit Go.Shelf

theorem four_vle1 : ∀ (t : List UInt8), t.length = 4 → four (vle t) = t
  | [a, b, c, d], _ => by
    have ha := a.toNat_lt
    have hb := b.toNat_lt
    have hc := c.toNat_lt
    have hd := d.toNat_lt
    simp only [four, vle, List.cons.injEq, and_true]
    refine ⟨?_, ?_, ?_, ?_⟩ <;> (apply UInt8.toNat_inj.1; rw [UInt8.toNat_ofNat']; omega)
/-- The frames of bytes. -/
def fmS (b : List UInt8) : List (List UInt8) := (alF (b.length + 1) b).map (·.1)
theorem nxF_len {l : List UInt8} (h : (nxF l).2.2 = 0) : (nxF l).1.length ≤ l.length := by
  unfold nxF at h ⊢
  by_cases h1 : l.length < 4
  · rw [if_pos h1] at h; simp at h
  · rw [if_neg h1] at h ⊢
    by_cases h2 : 65535 < vle (l.take 4)
    · rw [if_pos h2] at h; simp at h
    · rw [if_neg h2] at h ⊢
      by_cases h3 : l.length < vle (l.take 4) + 8
      · rw [if_pos h3] at h; simp at h
      · rw [if_neg h3] at h ⊢
        by_cases h4 : vle ((l.drop (4 + vle (l.take 4))).take 4) ≠ mor 0 (l.take (4 + vle (l.take 4)))
        · rw [if_pos h4] at h; simp at h
        · rw [if_neg h4]; simp; omega
theorem alF_len : ∀ (k : Nat) (l : List UInt8), ∀ x ∈ alF k l, x.1.length ≤ l.length
  | 0, _, x, h => by simp [alF] at h
  | k + 1, l, x, h => by
    rw [alF] at h
    by_cases e : (nxF l).2.2 = 0
    · rw [if_pos e] at h
      rcases List.mem_cons.1 h with rfl | h
      · exact nxF_len e
      · have := alF_len k _ x h
        simp at this
        omega
    · rw [if_neg e] at h; simp at h
theorem alF_cnt : ∀ (k : Nat) (l : List UInt8), (alF k l).length ≤ k
  | 0, _ => by simp [alF]
  | k + 1, l => by
    rw [alF]
    split
    · have := alF_cnt k (l.drop (nxF l).2.1)
      simp only [List.length_cons]; omega
    · simp
theorem fmS_cnt (b : List UInt8) : (fmS b).length ≤ b.length + 1 := by unfold fmS; rw [List.length_map]; exact alF_cnt _ _
/-- The state ahead of all edits. -/
def st0 : St := ⟨[], 1, 2, 0⟩
theorem st0_ok : okSt st0 := by unfold okSt st0 okRs; simp
/-- What edits make of a state. -/
def rpF : List (List UInt8) → St → Bool → St × Bool
  | [], s, m => (s, m)
  | d :: ds, s, m => match edR d with
    | none => (s, m)
    | some x => match (apS s x).1 with
      | none => (s, m)
      | some t => rpF ds t true
theorem rpF_no {d : List UInt8} (ds : List (List UInt8)) (s : St) (m : Bool) (h : edR d = none) : rpF (d :: ds) s m = (s, m) := by rw [rpF, h]
theorem rpF_stop {d : List UInt8} (ds : List (List UInt8)) (s : St) (m : Bool) {x : Ed} (h : edR d = some x) (h2 : (apS s x).1 = none) : rpF (d :: ds) s m = (s, m) := by rw [rpF, h]; simp only; rw [h2]
theorem rpF_on {d : List UInt8} (ds : List (List UInt8)) (s : St) (m : Bool) {x : Ed} {t : St} (h : edR d = some x) (h2 : (apS s x).1 = some t) : rpF (d :: ds) s m = rpF ds t true := by rw [rpF, h]; simp only; rw [h2]
/-- The state that a log's bytes make. -/
def rpS (b : List UInt8) : Option St := if (rpF (fmS b) st0 false).2 = true then some (rpF (fmS b) st0 false).1 else none
/-- The number that a pointer's bytes name. -/
def ptF (b : List UInt8) : Option Int :=
  if 1 ≤ (rsF (nxF b).1 0 0).1 ∧ (rsF (nxF b).1 0 0).1 ≤ 1099511627776 ∧ frm (sh (rsF (nxF b).1 0 0).1) = b then some ((rsF (nxF b).1 0 0).1 : Int) else none
theorem nxF_frm {l : List UInt8} (h : (nxF l).2.2 = 0) : l.take (nxF l).2.1 = frm (nxF l).1 ∧ (nxF l).2.1 = (nxF l).1.length + 8 ∧ (nxF l).1.length ≤ 65535 := by
  unfold nxF at h ⊢
  by_cases h1 : l.length < 4
  · rw [if_pos h1] at h; simp at h
  · rw [if_neg h1] at h ⊢
    by_cases h2 : 65535 < vle (l.take 4)
    · rw [if_pos h2] at h; simp at h
    · rw [if_neg h2] at h ⊢
      by_cases h3 : l.length < vle (l.take 4) + 8
      · rw [if_pos h3] at h; simp at h
      · rw [if_neg h3] at h ⊢
        by_cases h4 : vle ((l.drop (4 + vle (l.take 4))).take 4) ≠ mor 0 (l.take (4 + vle (l.take 4)))
        · rw [if_pos h4] at h; simp at h
        · rw [if_neg h4]
          have h4' := Classical.byContradiction h4
          have f1 := four_vle1 (l.take 4) (by simp; omega)
          obtain ⟨n, hn⟩ : ∃ n, n = vle (l.take 4) := ⟨_, rfl⟩
          rw [← hn] at h2 h3 h4' f1 ⊢
          have dl : ((l.drop 4).take n).length = n := by simp; omega
          have f2 := four_vle1 ((l.drop (4 + n)).take 4) (by simp; omega)
          simp only
          refine ⟨?_, by rw [dl], by rw [dl]; omega⟩
          unfold frm
          rw [dl, f1]
          have e1 : l.take 4 ++ (l.drop 4).take n = l.take (4 + n) := by rw [List.take_add]
          rw [e1, ← h4', f2, show n + 8 = (4 + n) + 4 by omega, List.take_add (i := 4 + n)]
theorem pt_iff {b : List UInt8} {v : Int} : ptF b = some v ↔ 1 ≤ v ∧ v ≤ 1099511627776 ∧ b = frm (sh v.toNat) := by
  constructor
  · intro h
    unfold ptF at h
    split at h
    · rename_i c
      simp only [Option.some.injEq] at h
      subst h
      exact ⟨by omega, by omega, by rw [Int.toNat_natCast]; exact c.2.2.symm⟩
    · cases h
  · rintro ⟨h1, h2, rfl⟩
    obtain ⟨n, rfl⟩ : ∃ n : Nat, v = (n : Int) := ⟨v.toNat, by omega⟩
    rw [Int.toNat_natCast]
    have hl := sh_len10 (n := n) (by omega)
    have e0 : nxF (frm (sh n)) = (sh n, (sh n).length + 8, 0) := by
      have := nx_frm (sh n) [] (by omega)
      rwa [List.append_nil] at this
    have e := rsF_sh n [] 0 0 (by simp) (by simp; omega) (fun h => by omega)
    have e' : rsF (sh n) 0 0 = (n, (sh n).length, 0) := by simpa using e
    unfold ptF
    rw [e0]
    simp only
    rw [e', if_pos ⟨by omega, by omega, rfl⟩]
theorem pt_all {b : List UInt8} {v : Int} (h : ptF b = some v) : alF (b.length + 1) b = [(sh v.toNat, b.length)] ∧ rsF (sh v.toNat) 0 0 = (v.toNat, (sh v.toNat).length, 0) ∧ b.length ≤ 18 := by
  obtain ⟨h1, h2, rfl⟩ := pt_iff.1 h
  have hl := sh_len10 (n := v.toNat) (by omega)
  have e := rsF_sh v.toNat [] 0 0 (by simp) (by simp; omega) (fun h => by omega)
  refine ⟨?_, by simpa using e, by rw [frm_len]; omega⟩
  have e2 := alF_frm ((frm (sh v.toNat)).length) (sh v.toNat) [] (by omega)
  rw [List.append_nil] at e2
  rw [e2, frm_len]
  have e3 : alF ((sh v.toNat).length + 8) [] = [] := by
    rw [alF, if_neg (by simp [nxF])]
  rw [e3]
theorem pt_of {b d : List UInt8} {k V : Nat} (h : alF (b.length + 1) b = [(d, k)]) (hk : k = b.length) (hr : rsF d 0 0 = (V, d.length, 0)) (hV : V ≤ 1099511627776) : (ptF b).getD 0 = (V : Int) := by
  have h0 : (nxF b).2.2 = 0 := by
    apply Classical.byContradiction
    intro e
    rw [alF, if_neg e] at h
    cases h
  rw [alF, if_pos h0] at h
  simp only [List.cons.injEq, Prod.mk.injEq] at h
  obtain ⟨⟨g1, g2⟩, _⟩ := h
  obtain ⟨f1, _, _⟩ := nxF_frm h0
  rw [g1, g2, hk, List.take_length] at f1
  obtain ⟨u, q, r1, r2, r3, r4, r5, _, _⟩ := rsF_ok d 0 0 V d.length hr (by omega) (by simp)
  have e1 : d.length = q := by omega
  have e2 : V = u := by rw [r4]; simp
  have e3 : d = sh V := by rw [e2, r5, ← e1, List.take_length]
  by_cases hz : V = 0
  · cases hp : ptF b with
    | none => simp [hz]
    | some v =>
      exfalso
      obtain ⟨p1, p2, p3⟩ := pt_iff.1 hp
      have := pt_all hp
      rw [alF, if_pos h0] at this
      simp only [List.cons.injEq, Prod.mk.injEq] at this
      have e4 : d = sh v.toNat := by rw [← g1]; exact this.1.1.1
      have := this.2.1
      rw [← e4, hr] at this
      simp only [Prod.mk.injEq] at this
      omega
  · have : ptF b = some (V : Int) := pt_iff.2 ⟨by omega, by omega, by rw [Int.toNat_natCast, ← e3]; exact f1⟩
    rw [this]
    rfl
end Go.Proofs.YtilbffgpniomcaaGreatDoor

/- Numbers of files, in digits: no program in sight. -/
namespace Go.Proofs.YtilbffgpniomcaaGreatDoor
open Go.Lib

theorem pu_app : ∀ (l r : List UInt8) (a u : Nat), parseUint10 a l = .ok u → parseUint10 a (l ++ r) = parseUint10 u r
  | [], r, a, u, h => by simp only [parseUint10] at h; injection h with h; rw [h]; rfl
  | c :: l, r, a, u, h => by
    rw [List.cons_append, parseUint10]
    rw [parseUint10] at h
    by_cases h1 : 48 ≤ c.toNat ∧ c.toNat ≤ 57
    · rw [if_pos h1] at h ⊢
      by_cases h2 : 1844674407370955162 ≤ a
      · rw [if_pos h2] at h; cases h
      · rw [if_neg h2] at h ⊢
        by_cases h3 : 18446744073709551616 ≤ a * 10 + (c.toNat - 48)
        · rw [if_pos h3] at h; cases h
        · rw [if_neg h3] at h ⊢
          exact pu_app l r _ u h
    · rw [if_neg h1] at h; cases h
theorem pu_one {d a : Nat} (hd : d < 10) (ha : a < 1000000000000000) : parseUint10 a [UInt8.ofNat (48 + d)] = .ok (a * 10 + d) := by
  have e : (UInt8.ofNat (48 + d)).toNat = 48 + d := by simp; omega
  unfold parseUint10
  rw [e, if_pos (by omega), if_neg (by omega), if_neg (by omega)]
  simp only [parseUint10]
  congr 1
  omega
theorem pu_dec : ∀ (n : Nat), n < 1000000000000000 → parseUint10 0 (decDigits n) = .ok n := by
  intro n
  induction n using Nat.strongRecOn with
  | _ n ih =>
    intro h
    by_cases h1 : n < 10
    · rw [decDigits_one h1, pu_one h1 (by omega)]; simp
    · rw [decDigits, dif_neg h1, pu_app _ _ _ _ (ih (n / 10) (by omega) (by omega)), pu_one (by omega) (by omega)]
      congr 1; omega
theorem dec_digit (n : Nat) : ∀ c ∈ decDigits n, 48 ≤ c.toNat ∧ c.toNat ≤ 57 := by
  induction n using Nat.strongRecOn with
  | _ n ih =>
    intro c hc
    by_cases h1 : n < 10
    · rw [decDigits_one h1] at hc
      simp at hc
      rw [hc]; simp; omega
    · rw [decDigits, dif_neg h1] at hc
      rcases List.mem_append.1 hc with hc | hc
      · exact ih (n / 10) (by omega) c hc
      · simp at hc; rw [hc]; simp; omega
theorem dec_pos (n : Nat) : 0 < (decDigits n).length := by rw [decDigits_length]; exact nDigits_pos n
theorem atoi_dec {n : Nat} (h : n < 1000000000000000) : atoiAll (decDigits n) = .ok (n : Int) := by
  have hp := pu_dec n h
  have h0 := dec_pos n
  have hd := dec_digit n
  cases e : decDigits n with
  | nil => rw [e] at h0; simp at h0
  | cons c r =>
    rw [e] at hp hd
    have hc := hd c (List.mem_cons_self ..)
    rw [atoiAll_plain c r (by omega) (by omega)]
    unfold parseMag
    rw [if_neg (by simp), hp]
    unfold signless
    simp only
    rw [if_neg (by omega)]
/-- A file's name. -/
def nmF (p : List UInt8) (n : Int) : List UInt8 := if 1 ≤ n ∧ n ≤ 1099511627776 then p ++ itoa n else []
theorem nmF_yes {p : List UInt8} {n : Int} (h1 : 1 ≤ n) (h2 : n ≤ 1099511627776) : nmF p n = p ++ decDigits n.toNat := by
  unfold nmF itoa; rw [if_pos ⟨h1, h2⟩, if_neg (by omega)]
theorem nmF_no {p : List UInt8} {n : Int} (h : ¬ (1 ≤ n ∧ n ≤ 1099511627776)) : nmF p n = [] := by unfold nmF; rw [if_neg h]
theorem dec_inj {m n : Nat} (hm : m < 1000000000000000) (hn : n < 1000000000000000) (h : decDigits m = decDigits n) : m = n := by
  have a := pu_dec m hm
  rw [h, pu_dec n hn] at a
  injection a with a
  exact a.symm
theorem nmF_inj {p : List UInt8} {m n : Int} (h1 : 1 ≤ m) (h2 : m ≤ 1099511627776) (h3 : 1 ≤ n) (h4 : n ≤ 1099511627776) (h : nmF p m = nmF p n) : m = n := by
  rw [nmF_yes h1 h2, nmF_yes h3 h4] at h
  have := dec_inj (by omega) (by omega) (List.append_cancel_left h)
  omega
theorem nD_le (k n : Nat) (h : n < 10 ^ (k + 1)) : nDigits n ≤ k + 1 := by
  induction k generalizing n with
  | zero => rw [nDigits_small (by simpa using h)]; omega
  | succ k ih =>
    by_cases h1 : n < 10
    · rw [nDigits_small h1]; omega
    · rw [nDigits_big h1]
      have := ih (n / 10) (by rw [Nat.pow_succ] at h; omega)
      omega
theorem dec_len {n : Nat} (h : n ≤ 1099511627776) : (decDigits n).length ≤ 13 := by
  rw [decDigits_length]; exact nD_le 12 n (by omega)
end Go.Proofs.YtilbffgpniomcaaGreatDoor

/- strconv at this program (written by mkwit.py, for one seat). -/
namespace Go.Proofs.YtilbffgpniomcaaGreatDoor
open Go.Shelf Go.Sort Go.RowKit Go.Lib

def witM_ren : Go.Shelf.Ren := ⟨fun | 171 => 74 | 243 => 95 | 246 => 118 | 283 => 134 | 284 => 135 | 285 => 136 | 286 => 137 | 129 => 115 | 317 => 143 | 318 => 144 | 319 => 145 | 320 => 146 | 337 => 148 | 338 => 149 | n => n, fun | 3 => 3 | 9 => 9 | 2 => 2 | 4 => 4 | 171 => 182 | 0 => 0 | 53 => 98 | 37 => 22 | 5 => 5 | 173 => 184 | 212 => 193 | 51 => 116 | 20 => 20 | 213 => 194 | 46 => 145 | 232 => 196 | 233 => 197 | n => n, fun | 17 => 0 | 18 => 1 | 19 => 2 | n => n⟩
theorem witM : Go.Proofs.LaysM.n171 Tryz.prog witM_ren := {
  mixed := by kernel_rfl
  f129 := Tryz.func115.trans (congrArg some (by kernel_rfl))
  f171 := Tryz.func74.trans (congrArg some (by kernel_rfl))
  f243 := Tryz.func95.trans (congrArg some (by kernel_rfl))
  f246 := Tryz.func118.trans (congrArg some (by kernel_rfl))
  f283 := Tryz.func134.trans (congrArg some (by kernel_rfl))
  f284 := Tryz.func135.trans (congrArg some (by kernel_rfl))
  f285 := Tryz.func136.trans (congrArg some (by kernel_rfl))
  f286 := Tryz.func137.trans (congrArg some (by kernel_rfl))
  f317 := Tryz.func143.trans (congrArg some (by kernel_rfl))
  f318 := Tryz.func144.trans (congrArg some (by kernel_rfl))
  f319 := Tryz.func145.trans (congrArg some (by kernel_rfl))
  f320 := Tryz.func146.trans (congrArg some (by kernel_rfl))
  f337 := Tryz.func148.trans (congrArg some (by kernel_rfl))
  f338 := Tryz.func149.trans (congrArg some (by kernel_rfl))
  t0 := Tryz.underlying0
  a0 := Tryz.isAgg0
  z0 := Tryz.sizeOf0
  v0 := Tryz.zeroValue0
  t2 := Tryz.underlying2
  a2 := Tryz.isAgg2
  z2 := Tryz.sizeOf2
  v2 := Tryz.zeroValue2
  t3 := Tryz.underlying3
  a3 := Tryz.isAgg3
  z3 := Tryz.sizeOf3
  v3 := Tryz.zeroValue3
  t4 := Tryz.underlying4
  a4 := Tryz.isAgg4
  z4 := Tryz.sizeOf4
  v4 := Tryz.zeroValue4
  t5 := Tryz.underlying5
  a5 := Tryz.isAgg5
  z5 := Tryz.sizeOf5
  v5 := Tryz.zeroValue5
  t9 := Tryz.underlying9
  a9 := Tryz.isAgg9
  z9 := Tryz.sizeOf9
  v9 := Tryz.zeroValue9
  t20 := Tryz.underlying20
  a20 := Tryz.isAgg20
  z20 := Tryz.sizeOf20
  v20 := Tryz.zeroValue20
  t37 := Tryz.underlying22
  a37 := Tryz.isAgg22
  z37 := Tryz.sizeOf22
  v37 := Tryz.zeroValue22
  t46 := Tryz.underlying145
  a46 := Tryz.isAgg145
  z46 := Tryz.sizeOf145
  v46 := Tryz.zeroValue145
  t51 := Tryz.underlying116
  a51 := Tryz.isAgg116
  z51 := Tryz.sizeOf116
  v51 := Tryz.zeroValue116
  t53 := Tryz.underlying98
  a53 := Tryz.isAgg98
  z53 := Tryz.sizeOf98
  v53 := Tryz.zeroValue98
  t171 := Tryz.underlying182
  a171 := Tryz.isAgg182
  z171 := Tryz.sizeOf182
  v171 := Tryz.zeroValue182
  t173 := Tryz.underlying184
  a173 := Tryz.isAgg184
  z173 := Tryz.sizeOf184
  v173 := Tryz.zeroValue184
  t212 := Tryz.underlying193
  a212 := Tryz.isAgg193
  z212 := Tryz.sizeOf193
  v212 := Tryz.zeroValue193
  t213 := Tryz.underlying194
  a213 := Tryz.isAgg194
  z213 := Tryz.sizeOf194
  t232 := Tryz.underlying196
  a232 := Tryz.isAgg196
  z232 := Tryz.sizeOf196
  v232 := Tryz.zeroValue196
  t233 := Tryz.underlying197
  a233 := Tryz.isAgg197
  z233 := Tryz.sizeOf197
  v233 := Tryz.zeroValue197
  g17 := by kernel_rfl
  g18 := by kernel_rfl
  g19 := by kernel_rfl
  i0 := by kernel_rfl
  i2 := by kernel_rfl
  i3 := by kernel_rfl
  i4 := by kernel_rfl
  i5 := by kernel_rfl
  i9 := by kernel_rfl
  i20 := by kernel_rfl
  i37 := by kernel_rfl
  i46 := by kernel_rfl
  i51 := by kernel_rfl
  i53 := by kernel_rfl
  i171 := by kernel_rfl
  i173 := by kernel_rfl
  i212 := by kernel_rfl
  i232 := by kernel_rfl
  i233 := by kernel_rfl
  m17 := by kernel_rfl
  m18 := by kernel_rfl
  m19 := by kernel_rfl }
def witS_ren : Go.Shelf.Ren := ⟨fun | 171 => 74 | 243 => 95 | 246 => 118 | 283 => 134 | 284 => 135 | 285 => 136 | 286 => 137 | 129 => 115 | 317 => 143 | 318 => 144 | 319 => 145 | 320 => 146 | 337 => 148 | 338 => 149 | n => n, fun | 3 => 3 | 9 => 9 | 2 => 2 | 4 => 4 | 171 => 182 | 0 => 0 | 53 => 98 | 37 => 22 | 5 => 5 | 173 => 184 | 212 => 193 | 51 => 116 | 20 => 20 | 213 => 194 | 46 => 145 | 232 => 196 | 233 => 197 | n => n, fun | 17 => 0 | 18 => 1 | 19 => 2 | n => n⟩
theorem witS : Go.Proofs.Lays.n171 Tryz.prog witS_ren := {
  mixed := by kernel_rfl
  f129 := Tryz.func115.trans (congrArg some (by kernel_rfl))
  f171 := Tryz.func74.trans (congrArg some (by kernel_rfl))
  f243 := Tryz.func95.trans (congrArg some (by kernel_rfl))
  f246 := Tryz.func118.trans (congrArg some (by kernel_rfl))
  f283 := Tryz.func134.trans (congrArg some (by kernel_rfl))
  f284 := Tryz.func135.trans (congrArg some (by kernel_rfl))
  f285 := Tryz.func136.trans (congrArg some (by kernel_rfl))
  f286 := Tryz.func137.trans (congrArg some (by kernel_rfl))
  f317 := Tryz.func143.trans (congrArg some (by kernel_rfl))
  f318 := Tryz.func144.trans (congrArg some (by kernel_rfl))
  f319 := Tryz.func145.trans (congrArg some (by kernel_rfl))
  f320 := Tryz.func146.trans (congrArg some (by kernel_rfl))
  f337 := Tryz.func148.trans (congrArg some (by kernel_rfl))
  f338 := Tryz.func149.trans (congrArg some (by kernel_rfl))
  t0 := Tryz.underlying0
  a0 := Tryz.isAgg0
  z0 := Tryz.sizeOf0
  v0 := Tryz.zeroValue0
  t2 := Tryz.underlying2
  a2 := Tryz.isAgg2
  z2 := Tryz.sizeOf2
  v2 := Tryz.zeroValue2
  t3 := Tryz.underlying3
  a3 := Tryz.isAgg3
  z3 := Tryz.sizeOf3
  v3 := Tryz.zeroValue3
  t4 := Tryz.underlying4
  a4 := Tryz.isAgg4
  z4 := Tryz.sizeOf4
  v4 := Tryz.zeroValue4
  t5 := Tryz.underlying5
  a5 := Tryz.isAgg5
  z5 := Tryz.sizeOf5
  v5 := Tryz.zeroValue5
  t9 := Tryz.underlying9
  a9 := Tryz.isAgg9
  z9 := Tryz.sizeOf9
  v9 := Tryz.zeroValue9
  t20 := Tryz.underlying20
  a20 := Tryz.isAgg20
  z20 := Tryz.sizeOf20
  v20 := Tryz.zeroValue20
  t37 := Tryz.underlying22
  a37 := Tryz.isAgg22
  z37 := Tryz.sizeOf22
  v37 := Tryz.zeroValue22
  t46 := Tryz.underlying145
  a46 := Tryz.isAgg145
  z46 := Tryz.sizeOf145
  v46 := Tryz.zeroValue145
  t51 := Tryz.underlying116
  a51 := Tryz.isAgg116
  z51 := Tryz.sizeOf116
  v51 := Tryz.zeroValue116
  t53 := Tryz.underlying98
  a53 := Tryz.isAgg98
  z53 := Tryz.sizeOf98
  v53 := Tryz.zeroValue98
  t171 := Tryz.underlying182
  a171 := Tryz.isAgg182
  z171 := Tryz.sizeOf182
  v171 := Tryz.zeroValue182
  t173 := Tryz.underlying184
  a173 := Tryz.isAgg184
  z173 := Tryz.sizeOf184
  v173 := Tryz.zeroValue184
  t212 := Tryz.underlying193
  a212 := Tryz.isAgg193
  z212 := Tryz.sizeOf193
  v212 := Tryz.zeroValue193
  t213 := Tryz.underlying194
  a213 := Tryz.isAgg194
  z213 := Tryz.sizeOf194
  t232 := Tryz.underlying196
  a232 := Tryz.isAgg196
  z232 := Tryz.sizeOf196
  v232 := Tryz.zeroValue196
  t233 := Tryz.underlying197
  a233 := Tryz.isAgg197
  z233 := Tryz.sizeOf197
  v233 := Tryz.zeroValue197
  g17 := by kernel_rfl
  g18 := by kernel_rfl
  g19 := by kernel_rfl }
theorem itoa_any (n : Int) (h0 : -9223372036854775808 ≤ n) (h1 : n ≤ 9223372036854775807) (w : World) (htab : Lib.TabIs Tryz.prog w "internal/strconv.uint64pow10" .u64 Lib.pow10Tab) :
    Calls Tryz.prog 74 #[.int .i64 n] w fun e w' => e = .returned (.string ⟨(Lib.itoa n).toArray⟩) ∧ ∃ k os, w' = Go.Sort.grow (w.drewN k) os := Any.strconv_Itoa witM n h0 h1 w htab
theorem itoa_small (i : Nat) (hi : i < 100) (w : World) :
    Calls Tryz.prog 74 #[.int .i64 (i : Int)] w fun e w' => e = .returned (.string ⟨(Lib.decDigits i).toArray⟩) ∧ w' = w := Any.strconv_Itoa_small witS i hi w
end Go.Proofs.YtilbffgpniomcaaGreatDoor

/- Names of files: wal.Name. -/
namespace Go.Proofs.YtilbffgpniomcaaGreatDoor
open Go.RowKit Go.Shelf

theorem ret_bool {a b : Bool} (h : a = b) : Ending.returned (.bool a) = .returned (.bool b) := by rw [h]
def isNo (n : Int) : Bool := decide (1 ≤ n ∧ n ≤ 1099511627776)
theorem isNo_iff {n : Int} : isNo n = true ↔ 1 ≤ n ∧ n ≤ 1099511627776 := by simp [isNo]
set_option maxRecDepth 100000 in
theorem isNumber_any (t : Int) (w : World) : Calls Tryz.prog 73 #[.int .i64 t] w fun e w' => e = .returned (.bool (isNo t)) ∧ w' = w := by
  by_cases h1 : 1 ≤ t
  · by_cases h2 : t ≤ 1099511627776
    · have HF : Hid (isNo t = true) := isNo_iff.2 ⟨h1, h2⟩
      go_enter Tryz.func73, Tryz.ntmps73
      go_wp2_with fail
      go_ret
      exact ⟨by rw [HF.out]; first | rfl | (exact ret_bool (by simp; omega)), rfl⟩
    · have HF : Hid (isNo t = false) := by unfold Hid isNo; simp; omega
      have d2 : decide (t ≤ 1099511627776) = false := decide_eq_false h2
      go_enter Tryz.func73, Tryz.ntmps73
      go_wp2_with fail
      go_ret
      exact ⟨by rw [HF.out]; first | rfl | (exact ret_bool (by assumption)), rfl⟩
  · have HF : Hid (isNo t = false) := by unfold Hid isNo; simp; omega
    have d1 : decide (1 ≤ t) = false := decide_eq_false h1
    go_enter Tryz.func73, Tryz.ntmps73
    go_wp2_with fail
    go_ret
    exact ⟨by rw [HF.out]; first | rfl | (exact ret_bool (by assumption)), rfl⟩
/-- The library's table. -/
def Tb (w : World) : Prop := Lib.TabIs Tryz.prog w "internal/strconv.uint64pow10" .u64 Lib.pow10Tab
theorem wit_grow {w w' : World} {k : Nat} {os : Array Obj} (h : w' = Go.Sort.grow (w.drewN k) os) : Below w.heap.size w w' := by
  subst h
  exact Go.Lib.below_grow _ w (Nat.le_refl _) k os
theorem itoa_nat (n : Int) (h1 : 1 ≤ n) (h2 : n ≤ 1099511627776) (w : World) (hT : n < 100 ∨ Tb w) :
    Calls Tryz.prog 74 #[.int .i64 n] w fun e w' => e = .returned (.string ⟨(Lib.decDigits n.toNat).toArray⟩) ∧ Below w.heap.size w w' := by
  by_cases h : n < 100
  · obtain ⟨m, rfl⟩ : ∃ m : Nat, n = (m : Int) := ⟨n.toNat, by omega⟩
    refine (itoa_small m (by omega) w).mono ?_
    rintro e w' ⟨rfl, rfl⟩
    exact ⟨rfl, Below.refl _ _⟩
  · refine (itoa_any n (by omega) (by omega) w (hT.resolve_left h)).mono ?_
    rintro e w' ⟨rfl, k, os, hw⟩
    refine ⟨?_, wit_grow hw⟩
    unfold Lib.itoa
    rw [if_neg (by omega)]
set_option maxRecDepth 100000 in
theorem name_any (p : List UInt8) (hp : p.length ≤ 1000000) (n : Int) (w : World) (hT : n < 100 ∨ Tb w) :
    Calls Tryz.prog 38 #[.string ⟨p.toArray⟩, .int .i64 n] w fun e w' => e = .returned (.string ⟨(nmF p n).toArray⟩) ∧ Below w.heap.size w w' := by
  have HT : Hid (n < 100 ∨ Tb w) := hT
  clear hT
  cases hq : isNo n with
  | false =>
    have HF : Hid (nmF p n = []) := nmF_no (fun h => by rw [isNo_iff.2 h] at hq; cases hq)
    go_enter Tryz.func38, Tryz.ntmps38
    go_wp2_with fail
    refine (isNumber_any n w).mono ?_
    rintro e w1 ⟨rfl, hw⟩
    subst w1
    rw [hq]
    go_wp2_with fail
    go_ret
    exact ⟨by rw [HF.out]; rfl, Below.refl _ _⟩
  | true =>
    obtain ⟨h1, h2⟩ := isNo_iff.1 hq
    have HF : Hid (nmF p n = p ++ Lib.decDigits n.toNat) := nmF_yes h1 h2
    have hl := dec_len (n := n.toNat) (by omega)
    obtain ⟨D, HD⟩ := hid_ex (Lib.decDigits n.toNat)
    have HC : Hid (Calls Tryz.prog 74 #[.int .i64 n] w fun e w' => e = .returned (.string ⟨D.toArray⟩) ∧ Below w.heap.size w w') := by rw [HD.out]; exact itoa_nat n h1 h2 w HT.out
    rw [← HD.out] at HF hl
    clear HD
    have HQ : Hid (isNo n = true) := hq
    clear hq
    go_enter Tryz.func38, Tryz.ntmps38
    go_wp2_with fail
    refine (isNumber_any n w).mono ?_
    rintro e w1 ⟨rfl, hw⟩
    subst w1
    rw [HQ.out]
    go_wp2_with fail
    refine HC.out.mono ?_
    rintro e w2 ⟨rfl, hb⟩
    go_wp2_with fail
    go_ret
    exact ⟨by rw [HF.out]; rfl, hb⟩
theorem Tb.below {w w' : World} (h : Tb w) (hb : Below w.heap.size w w') : Tb w' := by
  unfold Tb Lib.TabIs World.var? at *
  cases hg : Tryz.prog.globalNamed "internal/strconv.uint64pow10" with
  | none => rw [hg] at h; simp at h
  | some g =>
    rw [hg] at h
    simp only [Option.bind_some] at h ⊢
    cases hh : w.heap[g]? with
    | none => rw [hh] at h; simp at h
    | some o => rw [hb.block g (Array.getElem?_eq_some_iff.1 hh).1]; exact h
end Go.Proofs.YtilbffgpniomcaaGreatDoor
