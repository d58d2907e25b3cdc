/- MF3 RT SL0 SF0 GAp, joined. -/
import Derived.Test.YtilbffgpniomcaaGreatDoorQQ1
import Derived.Maps.OwnSet
import Derived.StringKeys
import Derived.Maps.RangeWalk
import Derived.Maps.Ext
import Derived.Laws.AppendOwn
import Derived.Laws.AppendOwnNone
/- manifest: Read as the program goes: what is wrong is only remembered. -/
namespace Go.Proofs.YtilbffgpniomcaaGreatDoor
open Go.RowKit

/-- A number is taken; where there is none, it is 0 and something is wrong. -/
def stp (most : Nat) (q : Bool × List UInt8) : Int × (Bool × List UInt8) := match nxN most q.2 with
  | none => (0, (true, q.2))
  | some (v, r) => (v, (q.1, r))
def stps : Nat → Bool × List UInt8 → List Int × (Bool × List UInt8)
  | 0, q => ([], q)
  | k + 1, q => ((stp big q).1 :: (stps k (stp big q).2).1, (stps k (stp big q).2).2)
theorem stp_wrong (most : Nat) {q : Bool × List UInt8} (h : q.1 = true) : (stp most q).2.1 = true := by
  unfold stp
  split
  · rfl
  · exact h
theorem stps_wrong : ∀ (k : Nat) {q : Bool × List UInt8}, q.1 = true → (stps k q).2.1 = true
  | 0, _, h => h
  | k + 1, q, h => by rw [stps]; exact stps_wrong k (stp_wrong big h)
theorem stp_some {most : Nat} {b r : List UInt8} {v : Int} (h : nxN most b = some (v, r)) : stp most (false, b) = (v, (false, r)) := by unfold stp; simp only; rw [h]
theorem stp_none {most : Nat} {b : List UInt8} (h : nxN most b = none) : stp most (false, b) = (0, (true, b)) := by unfold stp; simp only; rw [h]
theorem stps_some : ∀ (k : Nat) {b r : List UInt8} {l : List Int}, nxs k b = some (l, r) → stps k (false, b) = (l, (false, r))
  | 0, b, r, l, h => by
    simp only [nxs, Option.some.injEq, Prod.mk.injEq] at h
    obtain ⟨rfl, rfl⟩ := h
    rfl
  | k + 1, b, r, l, h => by
    rw [nxs] at h
    cases hc : nxN big b with
    | none => rw [hc] at h; cases h
    | some q =>
      obtain ⟨v, r1⟩ := q
      rw [hc] at h
      simp only at h
      cases hd : nxs k r1 with
      | none => rw [hd] at h; cases h
      | some q =>
        obtain ⟨l1, r2⟩ := q
        rw [hd] at h
        simp only [Option.some.injEq, Prod.mk.injEq] at h
        obtain ⟨rfl, rfl⟩ := h
        rw [stps, stp_some hc]
        simp only
        rw [stps_some k hd]
theorem stps_none : ∀ (k : Nat) {b : List UInt8}, nxs k b = none → (stps k (false, b)).2.1 = true
  | 0, b, h => by cases h
  | k + 1, b, h => by
    rw [nxs] at h
    rw [stps]
    cases hc : nxN big b with
    | none => rw [stp_none hc]; exact stps_wrong k rfl
    | some q =>
      obtain ⟨v, r1⟩ := q
      rw [hc] at h
      simp only at h
      rw [stp_some hc]
      simp only
      cases hd : nxs k r1 with
      | none => exact stps_none k hd
      | some q =>
        obtain ⟨l1, r2⟩ := q
        rw [hd] at h; cases h
theorem stps_len : ∀ (k : Nat) (q : Bool × List UInt8), (stps k q).1.length = k
  | 0, _ => rfl
  | k + 1, q => by rw [stps, List.length_cons, stps_len k]
/-- What the program has read, and what is left. -/
def edM (b : List UInt8) : Ed × (Bool × List UInt8) :=
  let a1 := stp 64 (false, b)
  let a2 := stps a1.1.toNat a1.2
  let a3 := stp 64 a2.2
  let a4 := stps (3 * a3.1.toNat) a3.2
  let a5 := stps 3 a4.2
  (⟨a2.1, ruN a4.1, a5.1.getD 0 0, a5.1.getD 1 0, a5.1.getD 2 0⟩, a5.2)
theorem edM_some {b : List UInt8} {x : Ed} (h : edR b = some x) : edM b = (x, (false, [])) := by
  unfold edR at h
  cases h1 : nxN 64 b with
  | none => rw [h1] at h; cases h
  | some q =>
    obtain ⟨n, b1⟩ := q
    rw [h1] at h; simp only at h
    cases h2 : nxs n.toNat b1 with
    | none => rw [h2] at h; cases h
    | some q =>
      obtain ⟨ds, b2⟩ := q
      rw [h2] at h; simp only at h
      cases h3 : nxN 64 b2 with
      | none => rw [h3] at h; cases h
      | some q =>
        obtain ⟨m, b3⟩ := q
        rw [h3] at h; simp only at h
        cases h4 : nxs (3 * m.toNat) b3 with
        | none => rw [h4] at h; cases h
        | some q =>
          obtain ⟨rs, b4⟩ := q
          rw [h4] at h; simp only at h
          cases h5 : nxs 3 b4 with
          | none => rw [h5] at h; cases h
          | some q =>
            obtain ⟨t, b5⟩ := q
            rw [h5] at h; simp only at h
            by_cases h6 : b5 = []
            · rw [if_pos h6] at h
              simp only [Option.some.injEq] at h
              subst h6 h
              unfold edM
              simp only [stp_some h1, stps_some _ h2, stp_some h3, stps_some _ h4, stps_some _ h5]
            · rw [if_neg h6] at h; cases h
theorem edM_none {b : List UInt8} (h : edR b = none) : (edM b).2.1 = true ∨ (edM b).2.2 ≠ [] := by
  unfold edR at h
  unfold edM
  cases h1 : nxN 64 b with
  | none =>
    left
    simp only [stp_none h1]
    exact stps_wrong 3 (stps_wrong _ (stp_wrong 64 (stps_wrong _ rfl)))
  | some q =>
    obtain ⟨n, b1⟩ := q
    rw [h1] at h; simp only at h
    simp only [stp_some h1]
    cases h2 : nxs n.toNat b1 with
    | none =>
      left
      exact stps_wrong 3 (stps_wrong _ (stp_wrong 64 (stps_none _ h2)))
    | some q =>
      obtain ⟨ds, b2⟩ := q
      rw [h2] at h; simp only at h
      simp only [stps_some _ h2]
      cases h3 : nxN 64 b2 with
      | none =>
        left
        simp only [stp_none h3]
        exact stps_wrong 3 (stps_wrong _ rfl)
      | some q =>
        obtain ⟨m, b3⟩ := q
        rw [h3] at h; simp only at h
        simp only [stp_some h3]
        cases h4 : nxs (3 * m.toNat) b3 with
        | none =>
          left
          exact stps_wrong 3 (stps_none _ h4)
        | some q =>
          obtain ⟨rs, b4⟩ := q
          rw [h4] at h; simp only at h
          simp only [stps_some _ h4]
          cases h5 : nxs 3 b4 with
          | none => exact .inl (stps_none _ h5)
          | some q =>
            obtain ⟨t, b5⟩ := q
            rw [h5] at h; simp only at h
            simp only [stps_some _ h5]
            right
            intro e
            rw [if_pos e] at h
            cases h
end Go.Proofs.YtilbffgpniomcaaGreatDoor

/- Pieces of bytes that a slice reads. -/
namespace Go.Proofs.YtilbffgpniomcaaGreatDoor
open Go.RowKit

theorem Reads.take {w : World} {a : Option Addr} {cap : Nat} {l : List UInt8} (h : Reads w (.slice a l.length cap) l) {c : Nat} (hc : c ≤ l.length) : Reads w (.slice a c cap) (l.take c) := by
  rcases h with ⟨rfl, a', cap', hv, hn⟩ | ⟨b, off, cap', hv, h2, h3, h4, h5, h6⟩
  · have : c = 0 := by simpa using hc
    subst this
    simp at hv
    obtain ⟨rfl, rfl⟩ := hv
    exact .inl ⟨rfl, _, _, rfl, hn⟩
  · simp at hv
    obtain ⟨rfl, rfl⟩ := hv
    exact reads_take c hc h3 h4 h5 h6
theorem Reads.cap {w : World} {a : Option Addr} {n cap : Nat} {l : List UInt8} (h : Reads w (.slice a n cap) l) (h0 : 0 < l.length) : l.length ≤ cap := by
  rcases h with ⟨rfl, _⟩ | ⟨b, off, cap', hv, h2, h3, h4, h5, h6⟩
  · simp at h0
  · simp at hv; omega
theorem Reads.drop {w : World} {a : Option Addr} {cap : Nat} {l : List UInt8} (h : Reads w (.slice a l.length cap) l) {c : Nat} (hc : c ≤ l.length) (b off : Nat) (ha : a = some ⟨b, off, none⟩) :
    (c < cap → Reads w (.slice (some ⟨b, off + c, none⟩) (l.length - c) (cap - c)) (l.drop c)) ∧ (¬ c < cap → l.drop c = []) := by
  rcases h with ⟨rfl, a', cap', hv, hn⟩ | ⟨b', off', cap', hv, h2, h3, h4, h5, h6⟩
  · have : c = 0 := by simpa using hc
    subst this
    refine ⟨fun _ => .inl ⟨rfl, _, _, rfl, fun h => by cases h⟩, fun _ => rfl⟩
  · simp at hv
    obtain ⟨hv1, rfl⟩ := hv
    rw [ha] at hv1
    simp at hv1
    obtain ⟨rfl, rfl⟩ := hv1
    have hl : (l.drop c).length = l.length - c := by simp
    refine ⟨fun hcc => ?_, fun hcc => List.drop_eq_nil_of_le (by omega)⟩
    rcases Nat.eq_zero_or_pos (l.length - c) with h0 | h0
    · left; exact ⟨List.length_eq_zero_iff.1 (by omega), _, _, by rw [h0], fun h => by cases h⟩
    · right
      refine ⟨b, off + c, cap - c, by rw [hl], by omega, by omega, by omega, h5, fun j hj => ?_⟩
      rw [Nat.add_assoc, h6 (c + j) (by omega)]
      simp
theorem reads_nil {w : World} {a : Option Addr} {cap : Nat} (h : a = none → cap = 0) : Reads w (.slice a 0 cap) [] := .inl ⟨rfl, _, _, rfl, h⟩
end Go.Proofs.YtilbffgpniomcaaGreatDoor

/- Parts of bytes that a slice reads, as one value each. -/
namespace Go.Proofs.YtilbffgpniomcaaGreatDoor
open Go.RowKit

theorem size8 (w : World) : (sizeOf 5).run Tryz.prog w = .ok 1 w := by
  simp [sizeOf]
  rfl
theorem elem8 : Tryz.prog.elem 22 = 5 := by kernel_rfl
theorem und8 : Tryz.prog.underlying 22 = some (.slice (Tryz.prog.elem 22)) := by rw [elem8]; exact Tryz.underlying22
theorem Reads.sliced {w : World} {a : Option Addr} {cap : Nat} {l : List UInt8} (h : Reads w (.slice a l.length cap) l) {c d : Nat} (hc : c ≤ d) (hd : d ≤ l.length) : Reads w (sliced a c d cap 1) ((l.take d).drop c) := by
  unfold Go.sliced
  rcases Nat.eq_zero_or_pos (d - c) with h0 | h0
  · have e : (l.take d).drop c = [] := List.drop_eq_nil_of_le (by simp; omega)
    rw [e, h0]
    refine .inl ⟨rfl, _, _, rfl, fun hn => ?_⟩
    split at hn
    · subst hn; omega
    · rcases h with ⟨_, a', cap', hv, hz⟩ | ⟨b, off, cap', hv, _⟩
      · simp at hv
        obtain ⟨rfl, _, rfl⟩ := hv
        cases a with
        | none => rw [hz rfl]; omega
        | some x => simp at hn
      · simp at hv
        obtain ⟨rfl, _⟩ := hv
        simp at hn
  · rcases h with ⟨rfl, _⟩ | ⟨b, off, cap', hv, h2, h3, h4, h5, h6⟩
    · simp at hd; omega
    · simp at hv
      obtain ⟨rfl, rfl⟩ := hv
      rw [if_neg (by omega)]
      have hl : ((l.take d).drop c).length = d - c := by simp; omega
      have ea : Option.map (fun x : Addr => x.add (c * 1)) (some (⟨b, off, none⟩ : Addr)) = some ⟨b, off + c, none⟩ := by simp [Addr.add]
      rw [ea]
      refine .inr ⟨b, off + c, cap - c, by rw [hl], by omega, by omega, by omega, h5, fun j hj => ?_⟩
      rw [Nat.add_assoc, h6 (c + j) (by omega)]
      simp
/-- l[c:] -/
theorem sl_from {w : World} {a : Option Addr} {cap : Nat} {l : List UInt8} (h : Reads w (.slice a l.length cap) l) {c : Nat} (hc : c ≤ l.length) :
    ∃ a' cap', (∀ w', (Instr.slice 22 (.slice a l.length cap) (some (.int .i64 (c : Int))) none none).run Tryz.prog w' = .ok (.slice a' (l.length - c) cap') w') ∧ Reads w (.slice a' (l.length - c) cap') (l.drop c) := by
  refine ⟨(if cap = c then a else a.map (·.add (c * 1))), cap - c, fun w' => ?_, ?_⟩
  rotate_left
  · have := h.sliced hc (Nat.le_refl _)
    rw [List.take_length] at this
    exact this
  · rw [run_slice_l _ _ _ _ _ und8 _ _ (by omega) (by omega), elem8, size8]
    rfl
/-- l[:d] -/
theorem sl_upto {w : World} {a : Option Addr} {cap : Nat} {l : List UInt8} (h : Reads w (.slice a l.length cap) l) {d : Nat} (hd : d ≤ l.length) :
    ∃ a' cap', (∀ w', (Instr.slice 22 (.slice a l.length cap) none (some (.int .i64 (d : Int))) none).run Tryz.prog w' = .ok (.slice a' d cap') w') ∧ Reads w (.slice a' d cap') (l.take d) := by
  have hcap : d ≤ cap := by
    rcases Nat.eq_zero_or_pos l.length with h0 | h0
    · omega
    · have := h.cap h0; omega
  refine ⟨(if cap = 0 then a else a.map (·.add (0 * 1))), cap - 0, fun w' => ?_, ?_⟩
  rotate_left
  · exact h.sliced (Nat.zero_le d) hd
  · rw [run_slice_h _ _ _ _ _ und8 _ _ (by omega) (by omega), elem8, size8]
    rfl
/-- l[c:d] -/
theorem sl_part {w : World} {a : Option Addr} {cap : Nat} {l : List UInt8} (h : Reads w (.slice a l.length cap) l) {c d : Nat} (hc : c ≤ d) (hd : d ≤ l.length) :
    ∃ a' cap', (∀ w', (Instr.slice 22 (.slice a l.length cap) (some (.int .i64 (c : Int))) (some (.int .i64 (d : Int))) none).run Tryz.prog w' = .ok (.slice a' (d - c) cap') w') ∧ Reads w (.slice a' (d - c) cap') ((l.take d).drop c) := by
  have hcap : d ≤ cap := by
    rcases Nat.eq_zero_or_pos l.length with h0 | h0
    · omega
    · have := h.cap h0; omega
  refine ⟨(if cap = c then a else a.map (·.add (c * 1))), cap - c, fun w' => ?_, ?_⟩
  rotate_left
  · exact h.sliced hc hd
  · rw [run_slice_lh _ _ _ _ _ und8 _ _ _ _ (by omega) (by omega) (by omega), elem8, size8]
    rfl
end Go.Proofs.YtilbffgpniomcaaGreatDoor

/- A file system, plainly: names with files' numbers, what is pending, a plan. -/
namespace Go.Proofs.YtilbffgpniomcaaGreatDoor
open Go.RowKit Go.Maps

/-- What was done to a directory: a name went, a name has a file. -/
structure SfA where
  gone : List UInt8
  name : List UInt8
  file : Option Nat
/-- A file system: each file is its bytes, and how many of them are synced. -/
structure SfS where
  room : Int
  dir : List (List UInt8 × Nat)
  old : List (List UInt8 × Nat)
  pend : List SfA
  left : Int
  fault : Int
  fls : List (List UInt8 × Nat)
def sfIns (x : List UInt8 × Nat) : List (List UInt8 × Nat) → List (List UInt8 × Nat)
  | [] => [x]
  | y :: r => if bytesBefore x.1 y.1 then x :: y :: r else y :: sfIns x r
def sfDel (s : List UInt8) (l : List (List UInt8 × Nat)) : List (List UInt8 × Nat) := l.filter fun p => !(p.1 == s)
def sfPut (x : List UInt8 × Nat) (l : List (List UInt8 × Nat)) : List (List UInt8 × Nat) := sfIns x (sfDel x.1 l)
def sfDo (l : List (List UInt8 × Nat)) (a : SfA) : List (List UInt8 × Nat) := match a.file with
  | none => sfDel a.gone l
  | some i => sfPut (a.name, i) (sfDel a.gone l)
def sfLook (s : List UInt8) (l : List (List UInt8 × Nat)) : Option Nat := (l.find? fun p => p.1 == s).map (·.2)
/-- A file. -/
def SfS.fl (s : SfS) (i : Nat) : List UInt8 × Nat := s.fls.getD i ([], 0)

/-! as a map's reading -/
def sfE (bl : Nat → Nat) (p : List UInt8 × Nat) : Lit × DataW Unit := (.string p.1, .lit (.int .i64 (bl p.2 : Int)))
def sfD (bl : Nat → Nat) (l : List (List UInt8 × Nat)) : DataW Unit := .map (l.map (sfE bl))
theorem sfE_ins (bl : Nat → Nat) (x : List UInt8 × Nat) : ∀ l, (sfIns x l).map (sfE bl) = DataW.insert (sfE bl x) (l.map (sfE bl))
  | [] => rfl
  | y :: r => by
    have ih := sfE_ins bl x r
    rw [sfIns, List.map_cons, DataW.insert]
    have e : (sfE bl x).1.before (sfE bl y).1 = bytesBefore x.1 y.1 := rfl
    rw [e]
    split
    · rfl
    · rw [List.map_cons, ih]
theorem sfE_del (bl : Nat → Nat) (s : List UInt8) : ∀ l, (sfDel s l).map (sfE bl) = (l.map (sfE bl)).filter (fun p => !p.1.sameKey (.string s))
  | [] => rfl
  | y :: r => by
    have ih := sfE_del bl s r
    have e : (sfE bl y).1.sameKey (.string s) = (y.1 == s) := rfl
    unfold sfDel at ih ⊢
    rw [List.map_cons, List.filter_cons, List.filter_cons, e]
    split
    · rw [List.map_cons, ih]
    · exact ih
theorem sfD_del (bl : Nat → Nat) (s : List UInt8) (l : List (List UInt8 × Nat)) : (sfD bl l).del (.string s) = sfD bl (sfDel s l) := by
  unfold sfD; rw [sfE_del]; rfl
theorem sfD_put (bl : Nat → Nat) (x : List UInt8 × Nat) (l : List (List UInt8 × Nat)) : (sfD bl l).put (.string x.1) (.lit (.int .i64 (bl x.2 : Int))) = sfD bl (sfPut x l) := by
  unfold sfD sfPut; rw [sfE_ins, sfE_del]; rfl
theorem sfE_find (bl : Nat → Nat) (s : List UInt8) : ∀ l : List (List UInt8 × Nat), (l.map (sfE bl)).find? (fun p => p.1.sameKey (.string s)) = (l.find? fun p => p.1 == s).map (sfE bl)
  | [] => rfl
  | y :: r => by
    have ih := sfE_find bl s r
    have e : (sfE bl y).1.sameKey (.string s) = (y.1 == s) := rfl
    rw [List.map_cons, List.find?_cons, List.find?_cons, e]
    split
    · rfl
    · exact ih
theorem sfD_at (bl : Nat → Nat) (s : List UInt8) (l : List (List UInt8 × Nat)) (z : DataW Unit) : (sfD bl l).atKey (.string s) z = match sfLook s l with | none => z | some i => .lit (.int .i64 (bl i : Int)) := by
  unfold sfD sfLook DataW.atKey
  simp only [sfE_find]
  cases l.find? fun p => p.1 == s <;> rfl
theorem sfD_has (bl : Nat → Nat) (s : List UInt8) (l : List (List UInt8 × Nat)) : Maps.has (sfD bl l) (.string s) = (sfLook s l).isSome := by
  unfold sfD sfLook
  rw [Maps.has_eq]
  induction l with
  | nil => rfl
  | cons y r ih =>
    have e : (sfE bl y).1.sameKey (.string s) = (y.1 == s) := rfl
    rw [List.map_cons, List.any_cons, List.find?_cons, e]
    cases h : y.1 == s with
    | true => rfl
    | false => simpa using ih
theorem sfD_size (bl : Nat → Nat) (l : List (List UInt8 × Nat)) : Maps.size (sfD bl l) = l.length := by unfold sfD; rw [Maps.size_eq, List.length_map]
theorem sfD_congr {bl bl' : Nat → Nat} {l : List (List UInt8 × Nat)} (h : ∀ p ∈ l, bl p.2 = bl' p.2) : sfD bl l = sfD bl' l := by
  unfold sfD
  congr 1
  exact List.map_congr_left fun p hp => by unfold sfE; rw [h p hp]
/-- A map's element: a file's place, or none. -/
def ptrE : Value → Option (DataW Unit × List MemPlace)
  | .pointer (some ⟨b, 0, none⟩) => some (.lit (.int .i64 (b : Int)), [])
  | .pointer none => some (.nil, [])
  | _ => none
def sfPv (bl : Nat → Nat) : Option Nat → Value
  | none => .pointer none
  | some i => .pointer (some ⟨bl i, 0, none⟩)
theorem ptrE_inv {v : Value} {y : DataW Unit × List MemPlace} (h : ptrE v = some y) : (v = .pointer none ∧ y = (.nil, [])) ∨ ∃ b : Nat, v = .pointer (some ⟨b, 0, none⟩) ∧ y = (.lit (.int .i64 (b : Int)), []) := by
  unfold ptrE at h
  split at h
  · cases h; exact .inr ⟨_, rfl, rfl⟩
  · cases h; exact .inl ⟨rfl, rfl⟩
  · cases h
theorem ptrE_pv {bl : Nat → Nat} {o : Option Nat} {v : Value} {ps : List MemPlace} (h : ptrE v = some ((match o with | none => (.nil : DataW Unit) | some i => .lit (.int .i64 (bl i : Int))), ps)) : v = sfPv bl o := by
  rcases ptrE_inv h with ⟨rfl, e⟩ | ⟨b, rfl, e⟩
  · cases o with
    | none => rfl
    | some i => simp at e
  · cases o with
    | none => simp at e
    | some i =>
      simp at e
      obtain ⟨e, _⟩ := e
      have : bl i = b := by omega
      show _ = Value.pointer (some ⟨bl i, 0, none⟩)
      rw [this]
theorem keyedS : Keyed Tryz.prog 9 := string_keyed Tryz.underlying9
theorem keyS (s : List UInt8) (h : s.length ≤ maxLen) : keyOf Tryz.prog 9 (.string ⟨s.toArray⟩) = some (.string s) := by
  have := WideMaps.keyOf_string_mk (P := Tryz.prog) Tryz.underlying9 (s := ⟨s.toArray⟩) (by simpa [ByteArray.size] using h)
  simpa using this
theorem zeroPtr (w : World) : (zeroValue 78).run Tryz.prog w = .ok (.pointer none) w := by kernel_rfl
/-- A directory in memory. -/
def SfMap (w : World) (m : Nat) (bl : Nat → Nat) (l : List (List UInt8 × Nat)) : Prop := w.ownsMap Tryz.prog 9 ptrE m l.length (sfD bl l)
theorem SfMap.of {w : World} {m n : Nat} {bl : Nat → Nat} {l : List (List UInt8 × Nat)} {D : DataW Unit} (h : w.ownsMap Tryz.prog 9 ptrE m n D) (hD : D = sfD bl l) : SfMap w m bl l := by
  subst hD
  obtain ⟨es, clock, h1, h2, h3, h4⟩ := h
  refine ⟨es, clock, h1, h2, ?_, h4⟩
  have := sfD_size bl l
  rw [h4, Maps.size_eq, length_read] at this
  omega
theorem SfMap.keep {w w' : World} {m : Nat} {bl : Nat → Nat} {l : List (List UInt8 × Nat)} (h : SfMap w m bl l) (hk : w'.heap[m]? = w.heap[m]?) : SfMap w' m bl l := by
  obtain ⟨es, clock, h1, r⟩ := h
  exact ⟨es, clock, hk.trans h1, r⟩
theorem SfMap.isMap {w : World} {m : Nat} {bl : Nat → Nat} {l : List (List UInt8 × Nat)} (h : SfMap w m bl l) : ∃ es clock, w.heap[m]? = some (.map es clock) := by
  obtain ⟨es, clock, h1, _⟩ := h
  exact ⟨es, clock, h1⟩
theorem SfMap.congr {w : World} {m : Nat} {bl bl' : Nat → Nat} {l : List (List UInt8 × Nat)} (h : SfMap w m bl l) (hb : ∀ p ∈ l, bl p.2 = bl' p.2) : SfMap w m bl' l := by
  unfold SfMap at h ⊢; rw [← sfD_congr hb]; exact h
theorem SfMap.look {w : World} {m : Nat} {bl : Nat → Nat} {l : List (List UInt8 × Nat)} (h : SfMap w m bl l) (s : List UInt8) (hs : s.length ≤ maxLen) :
    (Instr.lookup 73 (.map (some m)) (.string ⟨s.toArray⟩) false).run Tryz.prog w = .ok (sfPv bl (sfLook s l)) w := by
  obtain ⟨v, ps, hr, hv⟩ := World.ownsMap.lookup h keyedS Tryz.underlying73 (zeroPtr w) (zd := .nil) (zp := []) rfl (keyS s hs)
  rw [sfD_at] at hv
  rw [hr, ptrE_pv hv]
theorem SfMap.put {w : World} {m : Nat} {bl : Nat → Nat} {l : List (List UInt8 × Nat)} (h : SfMap w m bl l) (s : List UInt8) (hs : s.length ≤ maxLen) (i : Nat) (hn : l.length < maxLen) :
    ∃ w', (Instr.mapUpdate 73 (.map (some m)) (.string ⟨s.toArray⟩) (.pointer (some ⟨bl i, 0, none⟩))).run Tryz.prog w = .ok () w' ∧ SfMap w' m bl (sfPut (s, i) l) ∧ w.mapTurned w' m := by
  obtain ⟨w', h1, h2, h3⟩ := World.ownsMap.store h keyedS Tryz.underlying73 hn (keyS s hs) (val := .pointer (some ⟨bl i, 0, none⟩)) (d := .lit (.int .i64 (bl i : Int))) (ps := []) rfl
  exact ⟨w', h1, .of h2 (sfD_put bl (s, i) l), h3⟩
theorem SfMap.del {w : World} {m : Nat} {bl : Nat → Nat} {l : List (List UInt8 × Nat)} (h : SfMap w m bl l) (s : List UInt8) (hs : s.length ≤ maxLen) (ty : TypeId) :
    ∃ w', (Builtin.delete_ #[73, 9] ty #[.map (some m), .string ⟨s.toArray⟩]).run Tryz.prog w = .ok (.tuple #[]) w' ∧ SfMap w' m bl (sfDel s l) ∧ w.mapTurned w' m := by
  obtain ⟨w', h1, h2, h3⟩ := World.ownsMap.drop h keyedS Tryz.underlying73 (keyS s hs) ty
  exact ⟨w', h1, .of h2 (sfD_del bl s l), h3⟩
theorem SfMap.len {w : World} {m : Nat} {bl : Nat → Nat} {l : List (List UInt8 × Nat)} (h : SfMap w m bl l) (ty : TypeId) : (Builtin.len_ #[73] ty #[.map (some m)]).run Tryz.prog w = .ok (.int .i64 (l.length : Int)) w := by
  have := World.ownsMap.len h Tryz.underlying73 ty
  rw [sfD_size] at this
  exact this
theorem SfMap.clear {w : World} {m : Nat} {bl : Nat → Nat} {l : List (List UInt8 × Nat)} (h : SfMap w m bl l) (ty : TypeId) :
    ∃ w', (Builtin.clear_ #[73] ty #[.map (some m)]).run Tryz.prog w = .ok (.tuple #[]) w' ∧ SfMap w' m bl [] ∧ w.mapTurned w' m := by
  obtain ⟨es, clock, hb, F, hs, hD⟩ := h
  refine ⟨ChangeMaps.setBlock w m (.map #[] clock), ?_, ⟨#[], clock, ChangeMaps.heap_setBlock_same hb _, ⟨by simp, MapKept.stamped_empty clock, by simp⟩, Nat.le_refl _, rfl⟩, ⟨es, clock, _, _, hb, rfl⟩⟩
  simp [Builtin.clear_, run_underlying Tryz.underlying73, MapKept.run_getObj_map hb, MapKept.run_setObj_map _ hb, Result.andThen, ChangeMaps.setBlock]
end Go.Proofs.YtilbffgpniomcaaGreatDoor

/- Append to a row whose capacity may end ahead of its block, with where the new row lies; what a call touches, as a set of blocks. -/
namespace Go.Proofs.YtilbffgpniomcaaGreatDoor
open Go.RowKit

/-- Nothing that was there has turned but blocks of O. -/
structure Onl (O : Nat → Prop) (w w' : World) : Prop where
  os : w'.os = w.os
  tape : w'.tape = w.tape
  output : w'.output = w.output
  size : w.heap.size ≤ w'.heap.size
  block : ∀ k, k < w.heap.size → ¬ O k → w'.heap[k]? = w.heap[k]?
/-- O, and what is new. -/
def Grw (O : Nat → Prop) (w w' : World) (k : Nat) : Prop := O k ∨ (w.heap.size ≤ k ∧ k < w'.heap.size)
theorem Onl.refl (O : Nat → Prop) (w : World) : Onl O w w := ⟨rfl, rfl, rfl, Nat.le_refl _, fun _ _ _ => rfl⟩
theorem Onl.trans {O : Nat → Prop} {w w1 w2 : World} (h : Onl O w w1) (h' : Onl (Grw O w w1) w1 w2) : Onl O w w2 :=
  ⟨h'.os.trans h.os, h'.tape.trans h.tape, h'.output.trans h.output, Nat.le_trans h.size h'.size, fun k hk ho => (h'.block k (Nat.lt_of_lt_of_le hk h.size) (fun q => q.elim ho (fun r => by omega))).trans (h.block k hk ho)⟩
theorem Onl.mono {O O' : Nat → Prop} {w w' : World} (h : Onl O w w') (hO : ∀ k, O k → O' k) : Onl O' w w' := ⟨h.os, h.tape, h.output, h.size, fun k hk ho => h.block k hk (fun q => ho (hO k q))⟩
theorem Onl.then {O : Nat → Prop} {w w1 w2 : World} (h : Onl O w w1) (h' : Onl O w1 w2) : Onl O w w2 := h.trans (h'.mono fun _ q => .inl q)
theorem Onl.below {O : Nat → Prop} {w w' : World} {base : Nat} (h : Onl O w w') (hb : base ≤ w.heap.size) (hO : ∀ k, O k → base ≤ k) : Below base w w' := ⟨h.os, h.tape, h.output, h.size, fun k hk => h.block k (by omega) (fun q => by have := hO k q; omega)⟩
theorem onl_of_below {O : Nat → Prop} {w w' : World} (h : Below w.heap.size w w') : Onl O w w' := ⟨h.os, h.tape, h.output, h.size, fun k hk _ => h.block k hk⟩
theorem Grw.lt {O : Nat → Prop} {w w' : World} (h : ∀ k, O k → k < w.heap.size) (hs : w.heap.size ≤ w'.heap.size) : ∀ k, Grw O w w' k → k < w'.heap.size := fun k hk => hk.elim (fun q => Nat.lt_of_lt_of_le (h k q) hs) (fun q => q.2)
theorem Grw.trans {O : Nat → Prop} {w w1 w2 : World} (h1 : w.heap.size ≤ w1.heap.size) (h2 : w1.heap.size ≤ w2.heap.size) : ∀ k, Grw (Grw O w w1) w1 w2 k → Grw O w w2 k := fun k hk => by
  rcases hk with (q | q) | q
  · exact .inl q
  · exact .inr ⟨q.1, by omega⟩
  · exact .inr ⟨by omega, q.2⟩
theorem Onl.set {O : Nat → Prop} {w : World} {a : Addr} (h : O a.block) (v : Value) : Onl O w (w.setCell a v) := by
  have hb := (Below.refl 0 w).setCell (p := a) (Nat.zero_le _) v
  exact ⟨hb.os, hb.tape, hb.output, hb.size, fun k _ ho => Below.heap_setCell _ _ _ _ (fun e => ho (e ▸ h))⟩
theorem Onl.alloc {O : Nat → Prop} {w : World} (o : Obj) : Onl O w (w.alloc o) := onl_of_below ((Below.refl _ _).alloc (Nat.le_refl _) _)
theorem Onl.grown {O : Nat → Prop} {w w' : World} {row : Option Nat} (h : w.grownBy w' row) (hr : ∀ k, row = some k → O k) : Onl O w w' := ⟨h.os, h.tape, h.output, h.size, fun k hk ho => h.block k hk (fun e => ho (hr k e.symm))⟩
/-- A row of one's own, in a block that may go on behind its capacity. -/
def GOwn (w : World) (e : TypeId) (size : Nat) (v : Value) (n : Nat) (xs : List Value) : Prop :=
  xs.length = n * size ∧ ((v = .slice none 0 0 ∧ n = 0) ∨ ∃ g cap cur, v = .slice (some ⟨g, 0, none⟩) n cap ∧ w.heap[g]? = some (.cells cur e (0, 0)) ∧ n ≤ cap ∧ cap ≤ maxLen ∧ cap * size ≤ cur.size ∧ cur.toList.take (n * size) = xs)
theorem GOwn.nil (w : World) (e : TypeId) (size : Nat) : GOwn w e size (.slice none 0 0) 0 [] := ⟨by simp, .inl ⟨rfl, rfl⟩⟩
theorem GOwn.keep {w w' : World} {e : TypeId} {size : Nat} {v : Value} {n : Nat} {xs : List Value} (h : GOwn w e size v n xs) (hk : ∀ k, v.ownBlock = some k → w'.heap[k]? = w.heap[k]?) : GOwn w' e size v n xs := by
  refine ⟨h.1, ?_⟩
  rcases h.2 with h2 | ⟨g, cap, cur, rfl, h3, r⟩
  · exact .inl h2
  · exact .inr ⟨g, cap, cur, rfl, (hk g rfl).trans h3, r⟩
theorem GOwn.block {w : World} {e : TypeId} {size : Nat} {v : Value} {n : Nat} {xs : List Value} (h : GOwn w e size v n xs) {k : Nat} (hk : v.ownBlock = some k) : ∃ cur, w.heap[k]? = some (.cells cur e (0, 0)) := by
  rcases h.2 with ⟨rfl, _⟩ | ⟨g, cap, cur, rfl, h3, r⟩
  · simp [Value.ownBlock] at hk
  · obtain rfl : g = k := by simpa [Value.ownBlock] using hk
    exact ⟨cur, h3⟩
theorem GOwn.form {w : World} {e : TypeId} {size : Nat} {v : Value} {n : Nat} {xs : List Value} (h : GOwn w e size v n xs) : ∃ a cap, v = .slice a n cap ∧ n ≤ cap ∧ cap ≤ maxLen ∧ (∀ b, a = some b → b = ⟨b.block, 0, none⟩) ∧ (a = none → n = 0 ∧ cap = 0) := by
  rcases h.2 with ⟨rfl, rfl⟩ | ⟨g, cap, cur, rfl, h3, h4, h5, _⟩
  · exact ⟨none, 0, rfl, Nat.le_refl _, Nat.zero_le _, (fun b hb => by cases hb), (fun _ => ⟨rfl, rfl⟩)⟩
  · exact ⟨_, cap, rfl, h4, h5, fun b hb => by cases hb; rfl, fun hb => by cases hb⟩
theorem GOwn.cells {w : World} {e : TypeId} {size : Nat} {v : Value} {n : Nat} {xs : List Value} (h : GOwn w e size v n xs) {g : Nat} (hg : v.ownBlock = some g) : ∀ j u, xs[j]? = some u → w.cell? ((⟨g, 0, none⟩ : Addr).add j) = some u := by
  intro j u hj
  rcases h.2 with ⟨rfl, _⟩ | ⟨g', cap, cur, rfl, h3, h4, h5, h6, h7⟩
  · simp [Value.ownBlock] at hg
  · obtain rfl : g' = g := by simpa [Value.ownBlock] using hg
    have ea : (⟨g', 0, none⟩ : Addr).add j = ⟨g', j, none⟩ := by simp [Addr.add]; omega
    rw [ea]
    rw [← h7, List.getElem?_take] at hj
    split at hj
    · simp only [World.cell?, h3]
      rw [Array.getElem?_toList] at hj
      simpa using hj
    · cases hj
/-- Bytes: what the slice reads. -/
theorem gown_reads {w : World} {v : Value} {l : List UInt8} (h : GOwn w 5 1 v l.length (l.map bc)) : Reads w v l := by
  have hc := @GOwn.cells _ _ _ _ _ _ h
  rcases h.2 with ⟨rfl, h0⟩ | ⟨g, cap, cur, rfl, h3, h4, h5, h6, h7⟩
  · exact .inl ⟨List.length_eq_zero_iff.1 h0, none, 0, rfl, fun _ => rfl⟩
  · rcases Nat.eq_zero_or_pos l.length with h0 | h0
    · exact .inl ⟨List.length_eq_zero_iff.1 h0, _, cap, by rw [h0], fun q => by cases q⟩
    · refine .inr ⟨g, 0, cap, rfl, h0, h4, h5, (Array.getElem?_eq_some_iff.1 h3).1, fun j hj => ?_⟩
      have := hc (g := g) rfl j (bc l[j]) (by simp [hj])
      have ea : (⟨g, 0, none⟩ : Addr).add j = ⟨g, 0 + j, none⟩ := by simp [Addr.add]; omega
      rw [ea] at this
      exact this
/-- Where what is appended stands. -/
def GSrc (w : World) (size : Nat) (vx : Value) (m : Nat) (news : List Value) : Prop :=
  news.length = m * size ∧ ((vx = .slice none 0 0 ∧ m = 0) ∨ ∃ a c, vx = .slice (some a) m c ∧ ∀ j u, news[j]? = some u → w.cell? (a.add j) = some u)
theorem GOwn.src {w : World} {e : TypeId} {size : Nat} {v : Value} {n : Nat} {xs : List Value} (h : GOwn w e size v n xs) : GSrc w size v n xs := by
  have hc := @GOwn.cells _ _ _ _ _ _ h
  refine ⟨h.1, ?_⟩
  rcases h.2 with h2 | ⟨g, cap, cur, rfl, r⟩
  · exact .inl h2
  · exact .inr ⟨_, cap, rfl, hc rfl⟩
theorem reads_src {w : World} {v : Value} {l : List UInt8} (h : Reads w v l) : GSrc w 1 v l.length (l.map bc) := by
  refine ⟨by simp, ?_⟩
  rcases h with ⟨rfl, a, cap, rfl, hn⟩ | ⟨b, off, cap, rfl, h2, h3, h4, h5, h6⟩
  · cases a with
    | none => exact .inl ⟨by rw [hn rfl], rfl⟩
    | some a => exact .inr ⟨a, cap, rfl, fun j u hj => by simp at hj⟩
  · exact .inr ⟨_, cap, rfl, newsR h6⟩
theorem run_gapp {P : Program} {w : World} (t ty e : TypeId) (i : TypeInfo) (z : Value) (size bytes : Nat) (ht : P.underlying t = some (.slice e)) (hi : P.info? e = some i) (hz : i.zero = some z)
    (hsize : i.size = size) (hby : i.bytes = bytes) (hzs : z.cells.size = size)
    (v : Value) (n : Nat) (xs : List Value) (hown : GOwn w e size v n xs) (vx : Value) (m : Nat) (news : List Value) (hx : GSrc w size vx m news) (h1 : ∀ u ∈ news, u.oneCell' = true)
    (h63 : n + m ≤ maxLen) (hbytes : (n + m) * bytes ≤ 140737488355328) :
    ∃ v' w', (Builtin.append_ #[t, t] ty #[v, vx]).run P w = .ok v' w' ∧ GOwn w' e size v' (n + m) (xs ++ news) ∧ w.grownBy w' v.ownBlock ∧ (∀ k, v'.ownBlock = some k → v.ownBlock = some k ∨ (w.heap.size ≤ k ∧ k < w'.heap.size)) := by
  subst hsize
  subst hby
  have hsmall : n + m ≤ 9223372036854775807 := by simp only [maxLen] at h63; omega
  obtain ⟨hl, hx⟩ := hx
  have hlen : (xs ++ news).length = (n + m) * i.size := by rw [List.length_append, hown.1, hl, Nat.add_mul]
  have grown : ∀ (old : Nat), old < n + m → ∀ (row : Option Nat),
      GOwn (w.drew.alloc (.cells (xs.toArray ++ news.toArray ++ Builtin.zeroCells z.cells (grownCap w (n + m) old e - (n + m))) e)) e i.size
        (.slice (some ⟨w.heap.size, 0, none⟩) (n + m) (grownCap w (n + m) old e)) (n + m) (xs ++ news) ∧
      w.grownBy (w.drew.alloc (.cells (xs.toArray ++ news.toArray ++ Builtin.zeroCells z.cells (grownCap w (n + m) old e - (n + m))) e)) row := by
    intro old ho row
    have hge := grownCap_ge w (n + m) old e
    have hcm : grownCap w (n + m) old e ≤ maxLen := grownCap_le_maxLen w (n + m) old e h63
    refine ⟨⟨hlen, .inr ⟨w.heap.size, _, _, rfl, heap_alloc_new w.drew _, hge, hcm, ?_, ?_⟩⟩, ⟨rfl, rfl, rfl, by simp, fun k hk _ => Below.heap_alloc w.drew _ k hk⟩⟩
    · simp only [Array.size_append, List.size_toArray, size_zeroCells, hzs, hown.1, hl, ← Nat.add_mul]
      exact Nat.mul_le_mul_right _ (by omega)
    · simp only [Array.toList_append, List.append_assoc]
      rw [← List.append_assoc, ← hlen]
      exact List.take_left
  rcases hx with ⟨rfl, rfl⟩ | ⟨a, c, rfl, hnews⟩
  · have hn : news = [] := List.eq_nil_of_length_eq_zero (by simpa using hl)
    subst hn
    rw [Nat.add_zero, List.append_nil]
    refine ⟨v, w, ?_, hown, ⟨rfl, rfl, rfl, Nat.le_refl _, fun _ _ _ => rfl⟩, fun k hk => .inl hk⟩
    rcases hown.2 with ⟨rfl, rfl⟩ | ⟨g, cap, cur, rfl, hg, hnc, hcm, hcs, htake⟩
    · simp [Builtin.append_, run_underlying ht, sizeOf, typeInfo, hi, Builtin.lenOf, Builtin.firstCells]
    · have hst := run_storeCells_at P g (n * i.size) e [] 0 cur w hg (by have := Nat.mul_le_mul_right i.size hnc; simp; omega) (by simp)
      simp only [Nat.add_zero] at hst
      simp [Builtin.append_, run_underlying ht, sizeOf, typeInfo, hi, Builtin.lenOf, hnc, Builtin.firstCells, storeCells]
  · rcases hown.2 with ⟨rfl, rfl⟩ | ⟨g, cap, cur, rfl, hg, hnc, hcm, hcs, htake⟩
    · have hxn : xs = [] := List.eq_nil_of_length_eq_zero (by simpa using hown.1)
      subst hxn
      by_cases hm : m = 0
      · subst hm
        have hn : news = [] := List.eq_nil_of_length_eq_zero (by simpa using hl)
        subst hn
        refine ⟨.slice none 0 0, w, ?_, hown, ⟨rfl, rfl, rfl, Nat.le_refl _, fun _ _ _ => rfl⟩, fun k hk => by simp [Value.ownBlock] at hk⟩
        simp [Builtin.append_, run_underlying ht, sizeOf, typeInfo, hi, Builtin.lenOf, Builtin.firstCells, loadCells, loadCellsFrom]
      · have hr := run_append_nil (P := P) w t ty e i z ht hi hz a m c news hl hnews (by omega) (by omega) (by have hb := hbytes; simp only [Nat.zero_add] at hb; omega)
        have hgr := grown 0 (by omega) (Value.ownBlock (.slice none 0 0))
        simp only [Nat.zero_add, List.nil_append, Array.empty_append] at hgr ⊢
        exact ⟨_, _, hr, hgr.1, hgr.2, fun k hk => .inr (by simp [Value.ownBlock] at hk; simp; omega)⟩
    · by_cases hroom : n + m ≤ cap
      · have hfit : n * i.size + news.length ≤ cur.size := by rw [hl, ← Nat.add_mul]; exact Nat.le_trans (Nat.mul_le_mul_right _ hroom) hcs
        have hr := run_append_room (P := P) w t ty e i ht hi g n cap cur hg a m c news hl hnews h1 hroom hfit
        refine ⟨_, _, hr, ⟨hlen, .inr ⟨g, cap, _, rfl, setRow_heap w g cur _ e _ hg, hroom, hcm, ?_, ?_⟩⟩, ⟨rfl, rfl, rfl, by simp, fun k _ hk => setRow_other w g k _ (fun e => hk (by simp [Value.ownBlock, e]))⟩, fun k hk => .inl hk⟩
        · simp only [List.size_toArray, List.length_append, List.length_take, List.length_drop, Array.length_toList]
          omega
        · rw [htake, ← hlen]
          exact List.take_left
      · have holds : ∀ j u, xs[j]? = some u → w.cell? ((⟨g, 0, none⟩ : Addr).add j) = some u := hown.cells (g := g) rfl
        have hr := run_append_grow (P := P) w t ty e i z ht hi hz ⟨g, 0, none⟩ n cap xs hown.1 holds a m c news hl hnews (by omega) (by omega) (growslice_fits (by omega) hbytes)
        have hgr := grown cap (by omega) (Value.ownBlock (.slice (some ⟨g, 0, none⟩) n cap))
        exact ⟨_, _, hr, hgr.1, hgr.2, fun k hk => .inr (by simp [Value.ownBlock] at hk; simp; omega)⟩
/-- Bytes. -/
def BOwn (w : World) (v : Value) (l : List UInt8) : Prop := GOwn w 5 1 v l.length (l.map bc)
theorem BOwn.reads {w : World} {v : Value} {l : List UInt8} (h : BOwn w v l) : Reads w v l := gown_reads h
theorem run_bapp {w : World} (ty : TypeId) (v vx : Value) (L l : List UInt8) (h : BOwn w v L) (hr : Reads w vx l) (hlen : L.length + l.length ≤ 140737488355328) :
    ∃ v' w', (Builtin.append_ #[22, 22] ty #[v, vx]).run Tryz.prog w = .ok v' w' ∧ BOwn w' v' (L ++ l) ∧ w.grownBy w' v.ownBlock ∧ (∀ k, v'.ownBlock = some k → v.ownBlock = some k ∨ (w.heap.size ≤ k ∧ k < w'.heap.size)) := by
  obtain ⟨i0, hi, hz0, hz1, hz2⟩ := info_parts info5
  obtain ⟨v', w', h1, h2, h3, h4⟩ := run_gapp (P := Tryz.prog) 22 ty 5 i0 (.int .u8 0) 1 1 Tryz.underlying22 hi hz0 hz1 hz2 rfl v L.length (L.map bc) h vx l.length (l.map bc) (reads_src hr) one_bc (by simp [maxLen]; omega) (by omega)
  exact ⟨v', w', h1, by unfold BOwn; rw [List.length_append, List.map_append]; exact h2, h3, h4⟩
theorem BOwn.cut {w : World} {g n cap : Nat} {l : List UInt8} (h : BOwn w (.slice (some ⟨g, 0, none⟩) n cap) l) {c : Nat} (hc : c ≤ l.length) : BOwn w (.slice (some ⟨g, 0, none⟩) c c) (l.take c) := by
  rcases h.2 with ⟨h2, _⟩ | ⟨g', cap', cur, h2, h3, h4, h5, h6, h7⟩
  · cases h2
  · have hl : (l.take c).length = c := by simp; omega
    simp at h2
    obtain ⟨rfl, rfl, rfl⟩ := h2
    unfold BOwn
    rw [hl]
    refine ⟨by simp; omega, .inr ⟨g, c, cur, rfl, h3, Nat.le_refl _, by omega, by omega, ?_⟩⟩
    rw [Nat.mul_one] at h7 ⊢
    rw [List.map_take, ← h7, List.take_take]
    congr 1; omega
end Go.Proofs.YtilbffgpniomcaaGreatDoor
