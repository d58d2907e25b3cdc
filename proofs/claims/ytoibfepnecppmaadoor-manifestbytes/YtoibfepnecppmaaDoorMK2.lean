/- MF0 MF3 RT SL0, joined. -/
import Derived.Test.YtoibfepnecppmaaDoorMK1
/- manifest: edits and their bytes, plainly. -/
namespace Go.Proofs.YtoibfepnecppmaaDoor
open Go.RowKit

/-- A run; an edit. -/
structure Ru where
  f : Int
  l : Int
  c : Int
structure Ed where
  dr : List Int
  ad : List Ru
  lo : Int
  ne : Int
  ma : Int
def Ru.n (r : Ru) : List Int := [r.f, r.l, r.c]
/-- An edit's numbers, in their order. -/
def nmE (x : Ed) : List Int := (x.dr.length : Int) :: (x.dr ++ ((x.ad.length : Int) :: (x.ad.flatMap Ru.n ++ [x.lo, x.ne, x.ma])))
def shB (l : List Int) : List UInt8 := l.flatMap fun v => sh v.toNat
def okN (l : List Int) : Bool := l.all fun v => decide (0 ≤ v)
/-- What Write tells. -/
def edW (x : Ed) : Option (List UInt8) := if 64 < x.dr.length ∨ 64 < x.ad.length then none else if okN (nmE x) = true then some (shB (nmE x)) else none
/-- The next number, if there is one and it is not too great, and what is left. -/
def nxN (most : Nat) (b : List UInt8) : Option (Int × List UInt8) := if (rsF b 0 0).2.2 ≠ 0 ∨ most < (rsF b 0 0).1 then none else some ((rsF b 0 0).1, b.drop (rsF b 0 0).2.1)
def big : Nat := 9223372036854775807
def nxs : Nat → List UInt8 → Option (List Int × List UInt8)
  | 0, b => some ([], b)
  | k + 1, b => match nxN big b with
    | none => none
    | some (v, r) => match nxs k r with
      | none => none
      | some (l, r') => some (v :: l, r')
/-- Numbers in threes. -/
def ruN : List Int → List Ru
  | a :: b :: c :: l => ⟨a, b, c⟩ :: ruN l
  | _ => []
/-- What Read tells. -/
def edR (b : List UInt8) : Option Ed := match nxN 64 b with
  | none => none
  | some (n, b1) => match nxs n.toNat b1 with
    | none => none
    | some (ds, b2) => match nxN 64 b2 with
      | none => none
      | some (m, b3) => match nxs (3 * m.toNat) b3 with
        | none => none
        | some (rs, b4) => match nxs 3 b4 with
          | none => none
          | some (t, b5) => if b5 = [] then some ⟨ds, ruN rs, t.getD 0 0, t.getD 1 0, t.getD 2 0⟩ else none
theorem nx_sh {most v : Nat} (h : v ≤ most) (h2 : v < 18446744073709551616) (r : List UInt8) : nxN most (sh v ++ r) = some ((v : Int), r) := by
  have e := rsF_sh v r 0 0 (by simp) (by simp; omega) (fun h => by omega)
  have e' : rsF (sh v ++ r) 0 0 = (v, (sh v).length, 0) := by simpa using e
  unfold nxN
  rw [e', if_neg (by simp; omega)]
  simp
theorem nx_inv {most : Nat} {b r : List UInt8} {v : Int} (h : nxN most b = some (v, r)) : 0 ≤ v ∧ v.toNat ≤ most ∧ b = sh v.toNat ++ r := by
  unfold nxN at h
  by_cases c : (rsF b 0 0).2.2 ≠ 0 ∨ most < (rsF b 0 0).1
  · rw [if_pos c] at h; cases h
  · rw [if_neg c] at h
    simp only [Option.some.injEq, Prod.mk.injEq] at h
    obtain ⟨rfl, rfl⟩ := h
    have h0 : (rsF b 0 0).2.2 = 0 := Classical.byContradiction fun e => c (.inl e)
    obtain ⟨u, k, g1, g2, g3, g4, g5, _, _⟩ := rsF_ok b 0 0 (rsF b 0 0).1 (rsF b 0 0).2.1 (by rw [← h0]) (by omega) (by simp)
    have e1 : (rsF b 0 0).2.1 = k := by omega
    have e2 : (rsF b 0 0).1 = u := by rw [g4]; simp
    have e3 : ¬ most < (rsF b 0 0).1 := fun e => c (.inr e)
    refine ⟨by omega, by simp only [Int.toNat_natCast]; omega, ?_⟩
    simp only [Int.toNat_natCast]
    rw [e1, e2, g5, List.take_append_drop]
theorem nx_len {most : Nat} {b r : List UInt8} {v : Int} (h : nxN most b = some (v, r)) : r.length < b.length := by
  obtain ⟨_, _, rfl⟩ := nx_inv h
  have : 0 < (sh v.toNat).length := by rw [sh]; split <;> simp
  rw [List.length_append]; omega
theorem shB_cons (v : Int) (l : List Int) : shB (v :: l) = sh v.toNat ++ shB l := by unfold shB; rw [List.flatMap_cons]
theorem shB_app (a b : List Int) : shB (a ++ b) = shB a ++ shB b := by unfold shB; rw [List.flatMap_append]
theorem nxs_sh : ∀ (l : List Int) (r : List UInt8), (∀ v ∈ l, 0 ≤ v ∧ v ≤ 9223372036854775807) → nxs l.length (shB l ++ r) = some (l, r)
  | [], r, _ => rfl
  | v :: l, r, h => by
    obtain ⟨h1, h2⟩ := h v (List.mem_cons_self ..)
    have hv : nxN big (sh v.toNat ++ (shB l ++ r)) = some (v, shB l ++ r) := by
      rw [nx_sh (by unfold big; omega) (by omega)]
      rw [Int.toNat_of_nonneg h1]
    rw [shB_cons, List.append_assoc, List.length_cons, nxs, hv]
    simp only
    rw [nxs_sh l r fun x hx => h x (List.mem_cons_of_mem _ hx)]
theorem nxs_inv : ∀ (k : Nat) {b r : List UInt8} {l : List Int}, nxs k b = some (l, r) → l.length = k ∧ (∀ v ∈ l, 0 ≤ v ∧ v ≤ 9223372036854775807) ∧ b = shB l ++ r
  | 0, b, r, l, h => by
    simp only [nxs, Option.some.injEq, Prod.mk.injEq] at h
    obtain ⟨rfl, rfl⟩ := h
    exact ⟨rfl, (fun v hv => by cases hv), rfl⟩
  | k + 1, b, r, l, h => by
    rw [nxs] at h
    cases hc : nxN big b with
    | none => rw [hc] at h; cases h
    | some q =>
      obtain ⟨v, r1⟩ := q
      rw [hc] at h
      simp only at h
      cases hd : nxs k r1 with
      | none => rw [hd] at h; cases h
      | some q =>
        obtain ⟨l1, r2⟩ := q
        rw [hd] at h
        simp only [Option.some.injEq, Prod.mk.injEq] at h
        obtain ⟨rfl, rfl⟩ := h
        obtain ⟨a1, a2, a3⟩ := nx_inv hc
        obtain ⟨b1, b2, b3⟩ := nxs_inv k hd
        unfold big at a2
        refine ⟨by rw [List.length_cons, b1], fun x hx => ?_, by rw [a3, b3, shB_cons, List.append_assoc]⟩
        rcases List.mem_cons.1 hx with rfl | hx
        · exact ⟨a1, by omega⟩
        · exact b2 x hx
theorem ruN_flat : ∀ l : List Ru, ruN (l.flatMap Ru.n) = l
  | [] => rfl
  | a :: l => by
    have : (a :: l).flatMap Ru.n = a.f :: a.l :: a.c :: l.flatMap Ru.n := rfl
    rw [this, ruN, ruN_flat l]
theorem flat_ruN : ∀ (k : Nat) (l : List Int), l.length = 3 * k → (ruN l).flatMap Ru.n = l ∧ (ruN l).length = k
  | 0, l, h => by
    have : l = [] := List.length_eq_zero_iff.1 (by omega)
    subst this; exact ⟨rfl, rfl⟩
  | k + 1, [], h => by simp at h
  | k + 1, [_], h => by simp at h; omega
  | k + 1, [_, _], h => by simp at h; omega
  | k + 1, a :: b :: c :: l, h => by
    obtain ⟨h1, h2⟩ := flat_ruN k l (by simp at h; omega)
    rw [ruN, List.flatMap_cons, h1, List.length_cons, h2]
    exact ⟨rfl, rfl⟩
theorem ru_len (l : List Ru) : (l.flatMap Ru.n).length = 3 * l.length := by
  induction l with
  | nil => rfl
  | cons a l ih => rw [List.flatMap_cons, List.length_append, ih, List.length_cons]; show 3 + _ = _; omega
/-- Every number is one of 64 digits. -/
def EdB (x : Ed) : Prop := ∀ v ∈ nmE x, v ≤ 9223372036854775807
theorem edR_wr {x : Ed} {b : List UInt8} (h : edW x = some b) (hb : EdB x) : edR b = some x := by
  unfold edW at h
  by_cases h1 : 64 < x.dr.length ∨ 64 < x.ad.length
  · rw [if_pos h1] at h; cases h
  · rw [if_neg h1] at h
    by_cases h2 : okN (nmE x) = true
    · rw [if_pos h2] at h
      simp only [Option.some.injEq] at h
      subst h
      have hall : ∀ v ∈ nmE x, 0 ≤ v ∧ v ≤ 9223372036854775807 := fun v hv => ⟨by have := List.all_eq_true.1 h2 v hv; simpa using this, hb v hv⟩
      obtain ⟨dr, ad, lo, ne, ma⟩ := x
      simp only at h1
      unfold nmE at hall ⊢
      simp only at hall ⊢
      have m1 : ∀ v ∈ dr, 0 ≤ v ∧ v ≤ 9223372036854775807 := fun v hv => hall v (by simp [hv])
      have m2 : ∀ v ∈ ad.flatMap Ru.n, 0 ≤ v ∧ v ≤ 9223372036854775807 := fun v hv => hall v (by
        rw [List.mem_cons, List.mem_append, List.mem_cons, List.mem_append]
        exact .inr (.inr (.inr (.inl hv))))
      have m3 : ∀ v ∈ [lo, ne, ma], 0 ≤ v ∧ v ≤ 9223372036854775807 := fun v hv => hall v (by
        rw [List.mem_cons, List.mem_append, List.mem_cons, List.mem_append]
        exact .inr (.inr (.inr (.inr hv))))
      unfold edR
      rw [shB_cons, shB_app, shB_cons, shB_app, Int.toNat_natCast, nx_sh (by omega) (by omega)]
      simp only [Int.toNat_natCast]
      rw [nxs_sh dr _ m1]
      simp only
      rw [nx_sh (by omega) (by omega)]
      simp only [Int.toNat_natCast]
      rw [← ru_len, nxs_sh _ _ m2]
      simp only
      have e3 := nxs_sh [lo, ne, ma] [] m3
      rw [List.append_nil] at e3
      have e3' : nxs 3 (shB [lo, ne, ma]) = some ([lo, ne, ma], []) := e3
      rw [e3']
      simp [ruN_flat]
    · rw [if_neg h2] at h; cases h
theorem three_of {α : Type} : ∀ {l : List α}, l.length = 3 → ∃ a b c, l = [a, b, c]
  | [a, b, c], _ => ⟨a, b, c, rfl⟩
theorem edW_rd {b : List UInt8} {x : Ed} (h : edR b = some x) : edW x = some b := by
  unfold edR at h
  cases h1 : nxN 64 b with
  | none => rw [h1] at h; cases h
  | some q =>
    obtain ⟨n, b1⟩ := q
    rw [h1] at h; simp only at h
    cases h2 : nxs n.toNat b1 with
    | none => rw [h2] at h; cases h
    | some q =>
      obtain ⟨ds, b2⟩ := q
      rw [h2] at h; simp only at h
      cases h3 : nxN 64 b2 with
      | none => rw [h3] at h; cases h
      | some q =>
        obtain ⟨m, b3⟩ := q
        rw [h3] at h; simp only at h
        cases h4 : nxs (3 * m.toNat) b3 with
        | none => rw [h4] at h; cases h
        | some q =>
          obtain ⟨rs, b4⟩ := q
          rw [h4] at h; simp only at h
          cases h5 : nxs 3 b4 with
          | none => rw [h5] at h; cases h
          | some q =>
            obtain ⟨t, b5⟩ := q
            rw [h5] at h; simp only at h
            by_cases h6 : b5 = []
            · rw [if_pos h6] at h
              simp only [Option.some.injEq] at h
              subst h6 h
              obtain ⟨a1, a2, a3⟩ := nx_inv h1
              obtain ⟨c1, c2, c3⟩ := nxs_inv _ h2
              obtain ⟨d1, d2, d3⟩ := nx_inv h3
              obtain ⟨e1, e2, e3⟩ := nxs_inv _ h4
              obtain ⟨f1, f2, f3⟩ := nxs_inv _ h5
              obtain ⟨lo, ne, ma, rfl⟩ := three_of f1
              obtain ⟨g1, g2⟩ := flat_ruN m.toNat rs e1
              have k1 : ((ds.length : Nat) : Int) = n := by rw [c1]; omega
              have k2 : (((ruN rs).length : Nat) : Int) = m := by rw [g2]; omega
              have en : nmE ⟨ds, ruN rs, [lo, ne, ma].getD 0 0, [lo, ne, ma].getD 1 0, [lo, ne, ma].getD 2 0⟩ = n :: (ds ++ (m :: (rs ++ [lo, ne, ma]))) := by
                unfold nmE
                simp only [g1, k1, k2]
                rfl
              unfold edW
              rw [if_neg (by simp only; omega), en, if_pos]
              · rw [shB_cons, shB_app, shB_cons, shB_app, a3, c3, d3, e3, f3, List.append_nil]
              · unfold okN
                rw [List.all_eq_true]
                intro v hv
                rw [List.mem_cons, List.mem_append, List.mem_cons, List.mem_append] at hv
                rcases hv with rfl | hv | rfl | hv | hv
                · simpa using a1
                · simpa using (c2 v hv).1
                · simpa using d1
                · simpa using (e2 v hv).1
                · simpa using (f2 v hv).1
            · rw [if_neg h6] at h; cases h
end Go.Proofs.YtoibfepnecppmaaDoor

/- manifest: Read as the program goes: what is wrong is only remembered. -/
namespace Go.Proofs.YtoibfepnecppmaaDoor
open Go.RowKit

/-- A number is taken; where there is none, it is 0 and something is wrong. -/
def stp (most : Nat) (q : Bool × List UInt8) : Int × (Bool × List UInt8) := match nxN most q.2 with
  | none => (0, (true, q.2))
  | some (v, r) => (v, (q.1, r))
def stps : Nat → Bool × List UInt8 → List Int × (Bool × List UInt8)
  | 0, q => ([], q)
  | k + 1, q => ((stp big q).1 :: (stps k (stp big q).2).1, (stps k (stp big q).2).2)
theorem stp_wrong (most : Nat) {q : Bool × List UInt8} (h : q.1 = true) : (stp most q).2.1 = true := by
  unfold stp
  split
  · rfl
  · exact h
theorem stps_wrong : ∀ (k : Nat) {q : Bool × List UInt8}, q.1 = true → (stps k q).2.1 = true
  | 0, _, h => h
  | k + 1, q, h => by rw [stps]; exact stps_wrong k (stp_wrong big h)
theorem stp_some {most : Nat} {b r : List UInt8} {v : Int} (h : nxN most b = some (v, r)) : stp most (false, b) = (v, (false, r)) := by unfold stp; simp only; rw [h]
theorem stp_none {most : Nat} {b : List UInt8} (h : nxN most b = none) : stp most (false, b) = (0, (true, b)) := by unfold stp; simp only; rw [h]
theorem stps_some : ∀ (k : Nat) {b r : List UInt8} {l : List Int}, nxs k b = some (l, r) → stps k (false, b) = (l, (false, r))
  | 0, b, r, l, h => by
    simp only [nxs, Option.some.injEq, Prod.mk.injEq] at h
    obtain ⟨rfl, rfl⟩ := h
    rfl
  | k + 1, b, r, l, h => by
    rw [nxs] at h
    cases hc : nxN big b with
    | none => rw [hc] at h; cases h
    | some q =>
      obtain ⟨v, r1⟩ := q
      rw [hc] at h
      simp only at h
      cases hd : nxs k r1 with
      | none => rw [hd] at h; cases h
      | some q =>
        obtain ⟨l1, r2⟩ := q
        rw [hd] at h
        simp only [Option.some.injEq, Prod.mk.injEq] at h
        obtain ⟨rfl, rfl⟩ := h
        rw [stps, stp_some hc]
        simp only
        rw [stps_some k hd]
theorem stps_none : ∀ (k : Nat) {b : List UInt8}, nxs k b = none → (stps k (false, b)).2.1 = true
  | 0, b, h => by cases h
  | k + 1, b, h => by
    rw [nxs] at h
    rw [stps]
    cases hc : nxN big b with
    | none => rw [stp_none hc]; exact stps_wrong k rfl
    | some q =>
      obtain ⟨v, r1⟩ := q
      rw [hc] at h
      simp only at h
      rw [stp_some hc]
      simp only
      cases hd : nxs k r1 with
      | none => exact stps_none k hd
      | some q =>
        obtain ⟨l1, r2⟩ := q
        rw [hd] at h; cases h
theorem stps_len : ∀ (k : Nat) (q : Bool × List UInt8), (stps k q).1.length = k
  | 0, _ => rfl
  | k + 1, q => by rw [stps, List.length_cons, stps_len k]
/-- What the program has read, and what is left. -/
def edM (b : List UInt8) : Ed × (Bool × List UInt8) :=
  let a1 := stp 64 (false, b)
  let a2 := stps a1.1.toNat a1.2
  let a3 := stp 64 a2.2
  let a4 := stps (3 * a3.1.toNat) a3.2
  let a5 := stps 3 a4.2
  (⟨a2.1, ruN a4.1, a5.1.getD 0 0, a5.1.getD 1 0, a5.1.getD 2 0⟩, a5.2)
theorem edM_some {b : List UInt8} {x : Ed} (h : edR b = some x) : edM b = (x, (false, [])) := by
  unfold edR at h
  cases h1 : nxN 64 b with
  | none => rw [h1] at h; cases h
  | some q =>
    obtain ⟨n, b1⟩ := q
    rw [h1] at h; simp only at h
    cases h2 : nxs n.toNat b1 with
    | none => rw [h2] at h; cases h
    | some q =>
      obtain ⟨ds, b2⟩ := q
      rw [h2] at h; simp only at h
      cases h3 : nxN 64 b2 with
      | none => rw [h3] at h; cases h
      | some q =>
        obtain ⟨m, b3⟩ := q
        rw [h3] at h; simp only at h
        cases h4 : nxs (3 * m.toNat) b3 with
        | none => rw [h4] at h; cases h
        | some q =>
          obtain ⟨rs, b4⟩ := q
          rw [h4] at h; simp only at h
          cases h5 : nxs 3 b4 with
          | none => rw [h5] at h; cases h
          | some q =>
            obtain ⟨t, b5⟩ := q
            rw [h5] at h; simp only at h
            by_cases h6 : b5 = []
            · rw [if_pos h6] at h
              simp only [Option.some.injEq] at h
              subst h6 h
              unfold edM
              simp only [stp_some h1, stps_some _ h2, stp_some h3, stps_some _ h4, stps_some _ h5]
            · rw [if_neg h6] at h; cases h
theorem edM_none {b : List UInt8} (h : edR b = none) : (edM b).2.1 = true ∨ (edM b).2.2 ≠ [] := by
  unfold edR at h
  unfold edM
  cases h1 : nxN 64 b with
  | none =>
    left
    simp only [stp_none h1]
    exact stps_wrong 3 (stps_wrong _ (stp_wrong 64 (stps_wrong _ rfl)))
  | some q =>
    obtain ⟨n, b1⟩ := q
    rw [h1] at h; simp only at h
    simp only [stp_some h1]
    cases h2 : nxs n.toNat b1 with
    | none =>
      left
      exact stps_wrong 3 (stps_wrong _ (stp_wrong 64 (stps_none _ h2)))
    | some q =>
      obtain ⟨ds, b2⟩ := q
      rw [h2] at h; simp only at h
      simp only [stps_some _ h2]
      cases h3 : nxN 64 b2 with
      | none =>
        left
        simp only [stp_none h3]
        exact stps_wrong 3 (stps_wrong _ rfl)
      | some q =>
        obtain ⟨m, b3⟩ := q
        rw [h3] at h; simp only at h
        simp only [stp_some h3]
        cases h4 : nxs (3 * m.toNat) b3 with
        | none =>
          left
          exact stps_wrong 3 (stps_none _ h4)
        | some q =>
          obtain ⟨rs, b4⟩ := q
          rw [h4] at h; simp only at h
          simp only [stps_some _ h4]
          cases h5 : nxs 3 b4 with
          | none => exact .inl (stps_none _ h5)
          | some q =>
            obtain ⟨t, b5⟩ := q
            rw [h5] at h; simp only at h
            simp only [stps_some _ h5]
            right
            intro e
            rw [if_pos e] at h
            cases h
end Go.Proofs.YtoibfepnecppmaaDoor

/- Pieces of bytes that a slice reads. -/
namespace Go.Proofs.YtoibfepnecppmaaDoor
open Go.RowKit

theorem Reads.take {w : World} {a : Option Addr} {cap : Nat} {l : List UInt8} (h : Reads w (.slice a l.length cap) l) {c : Nat} (hc : c ≤ l.length) : Reads w (.slice a c cap) (l.take c) := by
  rcases h with ⟨rfl, a', cap', hv, hn⟩ | ⟨b, off, cap', hv, h2, h3, h4, h5, h6⟩
  · have : c = 0 := by simpa using hc
    subst this
    simp at hv
    obtain ⟨rfl, rfl⟩ := hv
    exact .inl ⟨rfl, _, _, rfl, hn⟩
  · simp at hv
    obtain ⟨rfl, rfl⟩ := hv
    exact reads_take c hc h3 h4 h5 h6
theorem Reads.cap {w : World} {a : Option Addr} {n cap : Nat} {l : List UInt8} (h : Reads w (.slice a n cap) l) (h0 : 0 < l.length) : l.length ≤ cap := by
  rcases h with ⟨rfl, _⟩ | ⟨b, off, cap', hv, h2, h3, h4, h5, h6⟩
  · simp at h0
  · simp at hv; omega
theorem Reads.drop {w : World} {a : Option Addr} {cap : Nat} {l : List UInt8} (h : Reads w (.slice a l.length cap) l) {c : Nat} (hc : c ≤ l.length) (b off : Nat) (ha : a = some ⟨b, off, none⟩) :
    (c < cap → Reads w (.slice (some ⟨b, off + c, none⟩) (l.length - c) (cap - c)) (l.drop c)) ∧ (¬ c < cap → l.drop c = []) := by
  rcases h with ⟨rfl, a', cap', hv, hn⟩ | ⟨b', off', cap', hv, h2, h3, h4, h5, h6⟩
  · have : c = 0 := by simpa using hc
    subst this
    refine ⟨fun _ => .inl ⟨rfl, _, _, rfl, fun h => by cases h⟩, fun _ => rfl⟩
  · simp at hv
    obtain ⟨hv1, rfl⟩ := hv
    rw [ha] at hv1
    simp at hv1
    obtain ⟨rfl, rfl⟩ := hv1
    have hl : (l.drop c).length = l.length - c := by simp
    refine ⟨fun hcc => ?_, fun hcc => List.drop_eq_nil_of_le (by omega)⟩
    rcases Nat.eq_zero_or_pos (l.length - c) with h0 | h0
    · left; exact ⟨List.length_eq_zero_iff.1 (by omega), _, _, by rw [h0], fun h => by cases h⟩
    · right
      refine ⟨b, off + c, cap - c, by rw [hl], by omega, by omega, by omega, h5, fun j hj => ?_⟩
      rw [Nat.add_assoc, h6 (c + j) (by omega)]
      simp
theorem reads_nil {w : World} {a : Option Addr} {cap : Nat} (h : a = none → cap = 0) : Reads w (.slice a 0 cap) [] := .inl ⟨rfl, _, _, rfl, h⟩
end Go.Proofs.YtoibfepnecppmaaDoor

/- Parts of bytes that a slice reads, as one value each. -/
namespace Go.Proofs.YtoibfepnecppmaaDoor
open Go.RowKit

theorem size8 (w : World) : (sizeOf 5).run Tryd.prog w = .ok 1 w := by
  simp [sizeOf]
  rfl
theorem elem8 : Tryd.prog.elem 26 = 5 := by kernel_rfl
theorem und8 : Tryd.prog.underlying 26 = some (.slice (Tryd.prog.elem 26)) := by rw [elem8]; exact Tryd.underlying26
theorem Reads.sliced {w : World} {a : Option Addr} {cap : Nat} {l : List UInt8} (h : Reads w (.slice a l.length cap) l) {c d : Nat} (hc : c ≤ d) (hd : d ≤ l.length) : Reads w (sliced a c d cap 1) ((l.take d).drop c) := by
  unfold Go.sliced
  rcases Nat.eq_zero_or_pos (d - c) with h0 | h0
  · have e : (l.take d).drop c = [] := List.drop_eq_nil_of_le (by simp; omega)
    rw [e, h0]
    refine .inl ⟨rfl, _, _, rfl, fun hn => ?_⟩
    split at hn
    · subst hn; omega
    · rcases h with ⟨_, a', cap', hv, hz⟩ | ⟨b, off, cap', hv, _⟩
      · simp at hv
        obtain ⟨rfl, _, rfl⟩ := hv
        cases a with
        | none => rw [hz rfl]; omega
        | some x => simp at hn
      · simp at hv
        obtain ⟨rfl, _⟩ := hv
        simp at hn
  · rcases h with ⟨rfl, _⟩ | ⟨b, off, cap', hv, h2, h3, h4, h5, h6⟩
    · simp at hd; omega
    · simp at hv
      obtain ⟨rfl, rfl⟩ := hv
      rw [if_neg (by omega)]
      have hl : ((l.take d).drop c).length = d - c := by simp; omega
      have ea : Option.map (fun x : Addr => x.add (c * 1)) (some (⟨b, off, none⟩ : Addr)) = some ⟨b, off + c, none⟩ := by simp [Addr.add]
      rw [ea]
      refine .inr ⟨b, off + c, cap - c, by rw [hl], by omega, by omega, by omega, h5, fun j hj => ?_⟩
      rw [Nat.add_assoc, h6 (c + j) (by omega)]
      simp
/-- l[c:] -/
theorem sl_from {w : World} {a : Option Addr} {cap : Nat} {l : List UInt8} (h : Reads w (.slice a l.length cap) l) {c : Nat} (hc : c ≤ l.length) :
    ∃ a' cap', (∀ w', (Instr.slice 26 (.slice a l.length cap) (some (.int .i64 (c : Int))) none none).run Tryd.prog w' = .ok (.slice a' (l.length - c) cap') w') ∧ Reads w (.slice a' (l.length - c) cap') (l.drop c) := by
  refine ⟨(if cap = c then a else a.map (·.add (c * 1))), cap - c, fun w' => ?_, ?_⟩
  rotate_left
  · have := h.sliced hc (Nat.le_refl _)
    rw [List.take_length] at this
    exact this
  · rw [run_slice_l _ _ _ _ _ und8 _ _ (by omega) (by omega), elem8, size8]
    rfl
/-- l[:d] -/
theorem sl_upto {w : World} {a : Option Addr} {cap : Nat} {l : List UInt8} (h : Reads w (.slice a l.length cap) l) {d : Nat} (hd : d ≤ l.length) :
    ∃ a' cap', (∀ w', (Instr.slice 26 (.slice a l.length cap) none (some (.int .i64 (d : Int))) none).run Tryd.prog w' = .ok (.slice a' d cap') w') ∧ Reads w (.slice a' d cap') (l.take d) := by
  have hcap : d ≤ cap := by
    rcases Nat.eq_zero_or_pos l.length with h0 | h0
    · omega
    · have := h.cap h0; omega
  refine ⟨(if cap = 0 then a else a.map (·.add (0 * 1))), cap - 0, fun w' => ?_, ?_⟩
  rotate_left
  · exact h.sliced (Nat.zero_le d) hd
  · rw [run_slice_h _ _ _ _ _ und8 _ _ (by omega) (by omega), elem8, size8]
    rfl
/-- l[c:d] -/
theorem sl_part {w : World} {a : Option Addr} {cap : Nat} {l : List UInt8} (h : Reads w (.slice a l.length cap) l) {c d : Nat} (hc : c ≤ d) (hd : d ≤ l.length) :
    ∃ a' cap', (∀ w', (Instr.slice 26 (.slice a l.length cap) (some (.int .i64 (c : Int))) (some (.int .i64 (d : Int))) none).run Tryd.prog w' = .ok (.slice a' (d - c) cap') w') ∧ Reads w (.slice a' (d - c) cap') ((l.take d).drop c) := by
  have hcap : d ≤ cap := by
    rcases Nat.eq_zero_or_pos l.length with h0 | h0
    · omega
    · have := h.cap h0; omega
  refine ⟨(if cap = c then a else a.map (·.add (c * 1))), cap - c, fun w' => ?_, ?_⟩
  rotate_left
  · exact h.sliced hc hd
  · rw [run_slice_lh _ _ _ _ _ und8 _ _ _ _ (by omega) (by omega) (by omega), elem8, size8]
    rfl
end Go.Proofs.YtoibfepnecppmaaDoor
