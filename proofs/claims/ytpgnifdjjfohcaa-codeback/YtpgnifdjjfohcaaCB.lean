/- The walk of CodeBack. -/
import Derived.Test.YtpgnifdjjfohcaaC7
namespace Go.Proofs.Ytpgnifdjjfohcaa
open Go.ChangeShapes Go.WideShapes Go.ChangeAt Go.RowKit Go.Joins

/-- A nil slice has no room. -/
theorem openBn {H : Type} {enc : TypeId × Value → H} {W : World} {r : Reach} {b0 base : Nat} {spare : Nat → Bool} {held : Bool} {v : Value} {d : DataW H} {p : List MemPlace}
    (hv : Value.okWide Try.prog W r b0 23 v) (h : DataW.Trod enc Try.prog W base spare held 23 v d p) :
    ∀ c, v = .slice none 0 c → c = 0 := by
  rintro c rfl
  obtain ⟨fuel, hf⟩ := h
  rcases open_ints Try.underlying23 Try.underlying5 (by kernel_rfl) hf with ⟨hcs, _⟩ | ⟨x, l, c, zs, hcs, _⟩
  · simp [Value.cells] at hcs; exact hcs
  · simp [Value.cells] at hcs
theorem with_more (va vm : Value) (la lm : List UInt8) (ha : 0 < la.length) (hl : la.length + lm.length ≤ 50000) (w : World) (ra : Reads w va la) (rm : Reads w vm lm) (hn : ∀ c, vm = .slice none 0 c → c = 0) :
    Calls Try.prog 22 #[va, vm] w fun e w' => ∃ v, e = .returned v ∧ w'.ownsRow w.heap.size 5 1 v (la ++ lm).length ((la ++ lm).map bc) ∧ Below w.heap.size w w' := by
  rcases ra with ⟨rfl, _⟩ | ⟨b, off, cap, rfl, _, _, _, _, g6⟩
  · simp at ha
  rcases rm with ⟨rfl, a2, cap2, rfl⟩ | ⟨b2, off2, cap2, rfl, _, _, _, h5, h6⟩
  · rw [List.append_nil]
    exact with_none b off cap cap2 a2 la (by omega) w g6 (fun h => hn cap2 (by rw [h]))
  · exact with_some b off cap b2 off2 cap2 la lm hl w g6 h6 h5

theorem rsF_sh (u : Nat) : ∀ (m : List UInt8) i v, v < 128 ^ i → v + 128 ^ i * u < 18446744073709551616 → (0 < i → 0 < u) → rsF (sh u ++ m) i v = (v + 128 ^ i * u, i + (sh u).length, 0) := by
  induction u using Nat.strongRecOn with
  | _ u ih =>
    intro m i v hv hlt hpos
    have f : ∀ k : Nat, k < 256 → (UInt8.ofNat k).toNat = k := fun k hk => by simp [UInt8.toNat_ofNat']; omega
    by_cases h : u < 128
    · rw [sh_lo h]
      show rsF (UInt8.ofNat u :: m) i v = _
      rw [rsF_cons, f u (by omega)]
      have h9 : ¬ (i = 9 ∧ 1 < u) := by
        rintro ⟨rfl, h1⟩
        have h2 : 128 ^ 9 * 2 ≤ 128 ^ 9 * u := Nat.mul_le_mul_left _ h1
        have e : (128 : Nat) ^ 9 * 2 = 18446744073709551616 := by decide
        omega
      rw [if_neg h9, if_neg (by omega), if_neg (by omega), Nat.mod_eq_of_lt h, Nat.mul_comm u]
      rfl
    · rw [sh_hi h]
      show rsF (UInt8.ofNat (u % 128 + 128) :: (sh (u / 128) ++ m)) i v = _
      rw [rsF_cons, f _ (by omega)]
      have hp : 128 ^ (i + 1) = 128 * 128 ^ i := by rw [Nat.pow_succ, Nat.mul_comm]
      have h9 : ¬ (i = 9 ∧ 1 < u % 128 + 128) := by
        rintro ⟨rfl, _⟩
        have h2 : 128 ^ 9 * 128 ≤ 128 ^ 9 * u := Nat.mul_le_mul_left _ (by omega)
        have e : (128 : Nat) ^ 9 * 2 = 18446744073709551616 := by decide
        omega
      have em : (u % 128 + 128) % 128 = u % 128 := by omega
      rw [if_neg h9, if_pos (by omega), em]
      have hsum : v + u % 128 * 128 ^ i + 128 ^ (i + 1) * (u / 128) = v + 128 ^ i * u := by
        have e1 : u = u % 128 + 128 * (u / 128) := by omega
        have e2 : 128 ^ i * u = 128 ^ i * (u % 128) + 128 ^ i * (128 * (u / 128)) := by rw [← Nat.mul_add, ← e1]
        have e3 : 128 ^ (i + 1) * (u / 128) = 128 ^ i * (128 * (u / 128)) := by rw [Nat.pow_succ, Nat.mul_assoc]
        rw [e2, e3, Nat.mul_comm (u % 128)]; omega
      have h1 : u % 128 * 128 ^ i ≤ 127 * 128 ^ i := Nat.mul_le_mul_right _ (by omega)
      rw [ih (u / 128) (by omega) m (i + 1) (v + u % 128 * 128 ^ i) (by rw [hp]; generalize 128 ^ i = q at *; omega) (by rw [hsum]; exact hlt) (fun _ => by omega), hsum]
      simp; omega
theorem rtF_step {x : UInt8} (t acc : List UInt8) (i : Nat) (hx : ¬ x.toNat = 0) (ht : t ≠ []) : rtF (x :: t) acc i = rtF t (acc ++ [x]) (i + 1) := by
  cases t with
  | nil => exact absurd rfl ht
  | cons y t => rw [rtF_cons2, if_neg hx]
theorem rtF_tx (s : List UInt8) : ∀ (m acc : List UInt8) i, rtF (txb s ++ 0 :: 1 :: m) acc i = (acc ++ s, i + (tx s).length, 0) := by
  induction s with
  | nil =>
    intro m acc i
    show rtF (0 :: 1 :: m) acc i = _
    rw [rtF_cons2, if_pos (by decide), if_neg (by decide), if_pos (by decide)]
    simp [tx, txb]
  | cons x s ih =>
    intro m acc i
    have hlen : (tx (x :: s)).length = (if x.toNat = 0 then 2 else 1) + (tx s).length := by
      unfold tx
      by_cases hx : x.toNat = 0
      · rw [txb_cons0 s hx, if_pos hx]; simp; omega
      · rw [txb_cons1 s hx, if_neg hx]; simp; omega
    by_cases hx : x.toNat = 0
    · rw [hlen, if_pos hx, txb_cons0 s hx]
      have ex : x = 0 := by rw [← u8_of hx]; rfl
      show rtF (0 :: 255 :: (txb s ++ 0 :: 1 :: m)) acc i = _
      rw [rtF_cons2, if_pos (by decide), if_pos (by decide), ih, ex]
      simp; omega
    · rw [hlen, if_neg hx, txb_cons1 s hx]
      show rtF (x :: (txb s ++ 0 :: 1 :: m)) acc i = _
      rw [rtF_step _ _ _ hx (by simp), ih]
      simp; omega
theorem foldl_bv (l : List UInt8) : ∀ p : Int, (l.map fun x => (x.toNat : Int)).foldl (fun n x => n * 256 + x) p = p * 256 ^ l.length + (bv l : Int) := by
  induction l with
  | nil => intro p; simp [bv]
  | cons x l ih =>
    intro p
    simp only [List.map_cons, List.foldl_cons]
    rw [ih]
    simp only [bv, List.length_cons]
    have e1 : (((x.toNat * 256 ^ l.length + bv l : Nat)) : Int) = (x.toNat : Int) * 256 ^ l.length + (bv l : Int) := by
      rw [Int.natCast_add, Int.natCast_mul, Int.natCast_pow]; rfl
    rw [e1, Int.pow_succ, Int.add_mul, Int.mul_assoc, Int.mul_comm 256 (256 ^ l.length)]
    omega
theorem rnF_nb (n : Int) (h1 : -9223372036854775808 ≤ n) (h2 : n ≤ 9223372036854775807) (m : List UInt8) : rnF (nb n ++ m) = (n, 8, 0) := by
  have hl := nb_len n
  unfold rnF
  rw [if_neg (by simp; omega)]
  have ht : (nb n ++ m).take 8 = nb n := by rw [List.take_append_of_le_length (by omega), List.take_of_length_le (by omega)]
  rw [ht]
  have hb := foldl_bv (nb n) 0
  have e : beval ((nb n).map fun x => (x.toNat : Int)) = (bv (nb n) : Int) := by
    unfold beval; rw [hb]; simp
  rw [e, bv_nb n h1 h2]
  congr 1
  omega
end Go.Proofs.Ytpgnifdjjfohcaa
