/- Texts and numbers go there and back: no program in sight. -/
import Derived.Test.YtbcdmammedabmaaC9
namespace Go.Proofs.Ytbcdmammedabmaa

theorem rtF_step {x : UInt8} (t acc : List UInt8) (i : Nat) (hx : ¬ x.toNat = 0) (ht : t ≠ []) : rtF (x :: t) acc i = rtF t (acc ++ [x]) (i + 1) := by
  cases t with
  | nil => exact absurd rfl ht
  | cons y t => rw [rtF_cons2, if_neg hx]
theorem rtF_tx (s : List UInt8) : ∀ (m acc : List UInt8) i, rtF (txb s ++ 0 :: 1 :: m) acc i = (acc ++ s, i + (tx s).length, 0) := by
  induction s with
  | nil =>
    intro m acc i
    show rtF (0 :: 1 :: m) acc i = _
    rw [rtF_cons2, if_pos (by decide), if_neg (by decide), if_pos (by decide)]
    simp [tx, txb]
  | cons x s ih =>
    intro m acc i
    have hlen : (tx (x :: s)).length = (if x.toNat = 0 then 2 else 1) + (tx s).length := by
      unfold tx
      by_cases hx : x.toNat = 0
      · rw [txb_cons0 s hx, if_pos hx]; simp; omega
      · rw [txb_cons1 s hx, if_neg hx]; simp; omega
    by_cases hx : x.toNat = 0
    · rw [hlen, if_pos hx, txb_cons0 s hx]
      have ex : x = 0 := by rw [← u8_of hx]; rfl
      show rtF (0 :: 255 :: (txb s ++ 0 :: 1 :: m)) acc i = _
      rw [rtF_cons2, if_pos (by decide), if_pos (by decide), ih, ex]
      simp; omega
    · rw [hlen, if_neg hx, txb_cons1 s hx]
      show rtF (x :: (txb s ++ 0 :: 1 :: m)) acc i = _
      rw [rtF_step _ _ _ hx (by simp), ih]
      simp; omega
theorem foldl_bv (l : List UInt8) : ∀ p : Int, (l.map fun x => (x.toNat : Int)).foldl (fun n x => n * 256 + x) p = p * 256 ^ l.length + (bv l : Int) := by
  induction l with
  | nil => intro p; simp [bv]
  | cons x l ih =>
    intro p
    simp only [List.map_cons, List.foldl_cons]
    rw [ih]
    simp only [bv, List.length_cons]
    have e1 : (((x.toNat * 256 ^ l.length + bv l : Nat)) : Int) = (x.toNat : Int) * 256 ^ l.length + (bv l : Int) := by
      rw [Int.natCast_add, Int.natCast_mul, Int.natCast_pow]; rfl
    rw [e1, Int.pow_succ, Int.add_mul, Int.mul_assoc, Int.mul_comm 256 (256 ^ l.length)]
    omega
theorem rnF_nb (n : Int) (h1 : -9223372036854775808 ≤ n) (h2 : n ≤ 9223372036854775807) (m : List UInt8) : rnF (nb n ++ m) = (n, 8, 0) := by
  have hl := nb_len n
  unfold rnF
  rw [if_neg (by simp; omega)]
  have ht : (nb n ++ m).take 8 = nb n := by rw [List.take_append_of_le_length (by omega), List.take_of_length_le (by omega)]
  rw [ht]
  have hb := foldl_bv (nb n) 0
  have e : beval ((nb n).map fun x => (x.toNat : Int)) = (bv (nb n) : Int) := by
    unfold beval; rw [hb]; simp
  rw [e, bv_nb n h1 h2]
  congr 1
  omega
end Go.Proofs.Ytbcdmammedabmaa
