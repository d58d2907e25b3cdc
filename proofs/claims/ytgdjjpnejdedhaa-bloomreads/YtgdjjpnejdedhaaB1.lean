/- A filter's mathematics: places, digits. -/
import Derived.Test.YtgdjjpnejdedhaaV1
namespace Go.Proofs.Ytgdjjpnejdedhaa

/-- What a key's places go on by. -/
def ste (key : List UInt8) : Nat := mor (mor 0 key) [1] ||| 1
/-- A key's i-th place, ahead of the number of digits. -/
def pla (key : List UInt8) (i : Nat) : Nat := (mor 0 key + i * ste key) % 4294967296
/-- A key's places in so many digits. -/
def plc (key : List UInt8) (n h : Nat) : List Nat := (List.range h).map fun i => pla key i % n
theorem ste_lt (key : List UInt8) : ste key < 4294967296 := Nat.or_lt_two_pow (n := 32) (mor_lt _ _) (by decide)
theorem pla_lt (key : List UInt8) (i : Nat) : pla key i < 4294967296 := Nat.mod_lt _ (by decide)
theorem pla_zero (key : List UInt8) : pla key 0 = mor 0 key := by unfold pla; have := mor_lt 0 key; omega
theorem pla_succ (key : List UInt8) (i : Nat) : pla key (i + 1) = (pla key i + ste key) % 4294967296 := by
  unfold pla; rw [Nat.succ_mul]; omega
theorem plc_len (key : List UInt8) (n h : Nat) : (plc key n h).length = h := by simp [plc]
theorem plc_succ (key : List UInt8) (n h : Nat) : plc key n (h + 1) = plc key n h ++ [pla key h % n] := by simp [plc, List.range_succ]
theorem plc_take (key : List UInt8) (n h k : Nat) (hk : k ≤ h) : (plc key n h).take k = plc key n k := by
  unfold plc; rw [← List.map_take, List.take_range, Nat.min_eq_left hk]
theorem plc_lt {key : List UInt8} {n h : Nat} (hn : 0 < n) : ∀ p ∈ plc key n h, p < n := by
  intro p hp
  obtain ⟨i, _, rfl⟩ := List.mem_map.1 hp
  exact Nat.mod_lt _ hn
/-- A digit is made 1. -/
def sb (D : List UInt8) (p : Nat) : List UInt8 := D.modify (p / 8) fun x => x ||| UInt8.ofNat (2 ^ (p % 8))
/-- Is a digit 1? -/
def gb (D : List UInt8) (p : Nat) : Bool := (D.getD (p / 8) 0).toNat.testBit (p % 8)
def adF (D : List UInt8) (ps : List Nat) : List UInt8 := ps.foldl sb D
def myF (D : List UInt8) (ps : List Nat) : Bool := ps.all fun p => gb D p
theorem sb_len (D : List UInt8) (p : Nat) : (sb D p).length = D.length := by simp [sb]
theorem adF_len (ps : List Nat) : ∀ D, (adF D ps).length = D.length := by
  induction ps with
  | nil => intro D; rfl
  | cons p ps ih => intro D; show (adF (sb D p) ps).length = _; rw [ih, sb_len]
theorem adF_snoc (D : List UInt8) (ps : List Nat) (p : Nat) : adF D (ps ++ [p]) = sb (adF D ps) p := by simp [adF]
theorem gb_sb (D : List UInt8) (p q : Nat) (hp : p / 8 < D.length) : gb (sb D p) q = (gb D q || decide (p = q)) := by
  unfold gb sb
  have hp8 : p % 8 < 8 := Nat.mod_lt _ (by decide)
  have hq8 : q % 8 < 8 := Nat.mod_lt _ (by decide)
  by_cases h : p / 8 = q / 8
  · have e1 : (D.modify (p / 8) fun x => x ||| UInt8.ofNat (2 ^ (p % 8))).getD (q / 8) 0 = (D.getD (q / 8) 0) ||| UInt8.ofNat (2 ^ (p % 8)) := by
      rw [← h]
      simp [List.getD, hp]
    rw [e1, UInt8.toNat_or, Nat.testBit_or]
    congr 1
    have hlt : 2 ^ (p % 8) < 256 := by
      have : 2 ^ (p % 8) ≤ 2 ^ 7 := Nat.pow_le_pow_right (by decide) (by omega)
      omega
    rw [UInt8.toNat_ofNat', Nat.mod_eq_of_lt hlt, Nat.testBit_two_pow]
    simp only [decide_eq_decide]
    constructor
    · intro h1; omega
    · intro h1; rw [h1]
  · have e1 : (D.modify (p / 8) fun x => x ||| UInt8.ofNat (2 ^ (p % 8))).getD (q / 8) 0 = (D.getD (q / 8) 0) := by
      simp [List.getD, h]
    rw [e1]
    have : p ≠ q := by intro e; exact h (by rw [e])
    simp [this]
theorem gb_adF (ps : List Nat) : ∀ (D : List UInt8) (q : Nat), (∀ p ∈ ps, p / 8 < D.length) → gb (adF D ps) q = (gb D q || decide (q ∈ ps)) := by
  induction ps with
  | nil => intro D q _; simp [adF]
  | cons p ps ih =>
    intro D q h
    show gb (adF (sb D p) ps) q = _
    rw [ih _ _ (by intro r hr; rw [sb_len]; exact h r (List.mem_cons_of_mem _ hr)), gb_sb _ _ _ (h p (List.mem_cons_self ..))]
    by_cases e : p = q
    · subst e; simp
    · have : q ≠ p := fun h => e h.symm
      simp [e, this]
theorem gb_ext {D E : List UInt8} (hl : D.length = E.length) (h : ∀ q, q / 8 < D.length → gb D q = gb E q) : D = E := by
  apply List.ext_getElem hl
  intro j h1 h2
  apply UInt8.toNat.inj
  apply Nat.eq_of_testBit_eq
  intro i
  by_cases hi : i < 8
  · have := h (8 * j + i) (by omega)
    unfold gb at this
    have e1 : (8 * j + i) / 8 = j := by omega
    have e2 : (8 * j + i) % 8 = i := by omega
    rw [e1, e2] at this
    simpa [List.getD, h1, h2] using this
  · have hb : ∀ x : UInt8, x.toNat.testBit i = false := fun x => Nat.testBit_lt_two_pow (Nat.lt_of_lt_of_le x.toNat_lt (Nat.pow_le_pow_right (by decide) (by omega : 8 ≤ i)))
    rw [hb, hb]
end Go.Proofs.Ytgdjjpnejdedhaa
