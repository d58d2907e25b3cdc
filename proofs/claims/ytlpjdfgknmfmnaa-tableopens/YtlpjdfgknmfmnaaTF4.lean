/- OA OB AB1 RT, joined. -/
import Derived.Test.YtlpjdfgknmfmnaaTF1
import Derived.Test.YtlpjdfgknmfmnaaTF2
import Derived.Test.YtlpjdfgknmfmnaaTF3
import Derived.ProofKit
import Derived.OpenShut
import Derived.Lib.SmallJoins
/- What is known, as an argument by value: the value written out. -/
namespace Go.Proofs.Ytlpjdfgknmfmnaa
open Go.ChangeShapes Go.WideShapes Go.ChangeAt Go.RowKit Go.Joins

/-- The facts on what is known that come with its kind. -/
structure AgOk (a : Ag) : Prop where
  c1 : 0 ≤ a.c
  c2 : a.c < 18446744073709551616
  n1 : -9223372036854775808 ≤ a.mn
  n2 : a.mn ≤ 9223372036854775807
  x1 : -9223372036854775808 ≤ a.mx
  x2 : a.mx ≤ 9223372036854775807
  s1 : -170141183460469231731687303715884105728 ≤ a.s
  s2 : a.s < 170141183460469231731687303715884105728

end Go.Proofs.Ytlpjdfgknmfmnaa

/- Bytes, as an argument: what the slice reads. -/
namespace Go.Proofs.Ytlpjdfgknmfmnaa
open Go.ChangeShapes Go.WideShapes Go.ChangeAt Go.RowKit Go.Joins

theorem cell_block {w : World} {a : Addr} {v : Value} (h : w.cell? a = some v) : a.block < w.heap.size ∧ a.spot = none := by
  unfold World.cell? at h
  rcases Nat.lt_or_ge a.block w.heap.size with hb | hb
  · refine ⟨hb, ?_⟩
    split at h
    · split at h
      · cases h
      · rename_i hs; cases hsp : a.spot with
        | none => rfl
        | some s => rw [hsp] at hs; simp at hs
    · cases h
  · rw [Array.getElem?_eq_none hb] at h; cases h
set_option maxRecDepth 100000 in
theorem openB {H : Type} {enc : TypeId × Value → H} {W : World} {r : Reach} {b0 base : Nat} {spare : Nat → Bool} {held : Bool} {v : Value} {d : DataW H} {p : List MemPlace}
    (hv : Value.okWide Try.prog W r b0 25 v) (h : DataW.Trod enc Try.prog W base spare held 25 v d p) :
    ∃ l : List UInt8, Reads W v l := by
  obtain ⟨a, len, cap, rfl⟩ := okWide_slice Try.underlying25 hv
  obtain ⟨fuel, hf⟩ := h
  rcases open_ints Try.underlying25 Try.underlying5 (by kernel_rfl) hf with ⟨hcs, _⟩ | ⟨x, l, c, zs, hcs, _, hl, hm, hz, _, hcell, hwz⟩
  · simp [Value.cells] at hcs
    obtain ⟨rfl, rfl, rfl⟩ := hcs
    exact ⟨[], .inl ⟨rfl, _, _, rfl, fun _ => rfl⟩⟩
  · simp [Value.cells] at hcs
    obtain ⟨rfl, rfl, rfl⟩ := hcs
    have hzl : len ≤ zs.length := by rw [hz]; split <;> omega
    rcases Nat.eq_zero_or_pos len with h0 | h0
    · subst h0; exact ⟨[], .inl ⟨rfl, _, _, rfl, fun h => by cases h⟩⟩
    · refine ⟨(zs.take len).map fun z => UInt8.ofNat z.toNat, .inr ?_⟩
      have hlen : ((zs.take len).map fun z => UInt8.ofNat z.toNat).length = len := by simp; omega
      have c0 := hcell 0 (by omega)
      have e0 : x.add 0 = x := by simp [Addr.add]
      rw [e0] at c0
      obtain ⟨hb, hs⟩ := cell_block c0
      obtain ⟨b, off, spot⟩ := x
      simp only at hb hs
      subst hs
      refine ⟨b, off, cap, by rw [hlen], by omega, by omega, hm, hb, fun j hj => ?_⟩
      have hj' : j < len := by omega
      have cj := hcell j (by omega)
      have ea : (⟨b, off, none⟩ : Addr).add j = ⟨b, off + j, none⟩ := by simp [Addr.add]
      rw [ea] at cj
      rw [cj]
      have hzj : j < zs.length := by omega
      have hg : zs.getD j 0 = zs[j] := by simp [List.getD, hzj]
      have hw := bounds_u8 (hwz zs[j] (List.getElem_mem hzj))
      rw [hg]
      have e1 : ((zs.take len).map fun z => UInt8.ofNat z.toNat)[j] = UInt8.ofNat (zs[j]).toNat := by simp
      rw [e1]
      unfold bc
      have e2 : (UInt8.ofNat (zs[j]).toNat).toNat = (zs[j]).toNat := by simp [UInt8.toNat_ofNat']; omega
      rw [e2]
      congr 2
      omega
end Go.Proofs.Ytlpjdfgknmfmnaa

/- The forty-one bytes of what is known: plain words. -/
namespace Go.Proofs.Ytlpjdfgknmfmnaa
open Go.RowKit

theorem ubc {n : Nat} (h : n < 256) : bc (UInt8.ofNat n) = .int .u8 (n : Int) := by
  unfold bc
  have : (UInt8.ofNat n).toNat = n := by simp [UInt8.toNat_ofNat']; omega
  rw [this]
/-- Eight bytes of a number. -/
def u8s (n : Nat) : List UInt8 := [UInt8.ofNat (n / 72057594037927936 % 256), UInt8.ofNat (n / 281474976710656 % 256), UInt8.ofNat (n / 1099511627776 % 256), UInt8.ofNat (n / 4294967296 % 256), UInt8.ofNat (n / 16777216 % 256), UInt8.ofNat (n / 65536 % 256), UInt8.ofNat (n / 256 % 256), UInt8.ofNat (n % 256)]
theorem u8s_len (n : Nat) : (u8s n).length = 8 := rfl
theorem u8s_val (n : Nat) (h : n < 18446744073709551616) : bv (u8s n) = n := by
  have f : ∀ k : Nat, k < 256 → (UInt8.ofNat k).toNat = k := fun k hk => by simp [UInt8.toNat_ofNat']; omega
  unfold u8s
  simp only [bv, List.length_cons, List.length_nil]
  rw [f _ (by omega), f _ (by omega), f _ (by omega), f _ (by omega), f _ (by omega), f _ (by omega), f _ (by omega), f _ (by omega)]
  omega
theorem u8s_bv {p : List UInt8} (h : p.length = 8) : u8s (bv p) = p := by
  have hl := bv_lt p
  rw [h] at hl
  have h8 : bv p < 18446744073709551616 := by simpa using hl
  exact bv_eq _ _ (by rw [u8s_len, h]) (u8s_val _ h8)
theorem bv8_lt {p : List UInt8} (h : p.length = 8) : bv p < 18446744073709551616 := by
  have hl := bv_lt p
  rw [h] at hl
  simpa using hl
theorem cells8 (n : Nat) : (eight (n : Int)).map (Value.int .u8) = (u8s n).map bc := by
  have e : eight (n : Int) = [((n / 72057594037927936 % 256 : Nat) : Int), ((n / 281474976710656 % 256 : Nat) : Int), ((n / 1099511627776 % 256 : Nat) : Int), ((n / 4294967296 % 256 : Nat) : Int), ((n / 16777216 % 256 : Nat) : Int), ((n / 65536 % 256 : Nat) : Int), ((n / 256 % 256 : Nat) : Int), ((n % 256 : Nat) : Int)] := by
    unfold eight bytesTo byteOf
    simp [List.range_succ]
  rw [e]
  unfold u8s
  simp only [List.map_cons, List.map_nil]
  rw [ubc (by omega), ubc (by omega), ubc (by omega), ubc (by omega), ubc (by omega), ubc (by omega), ubc (by omega), ubc (by omega)]
theorem cells16 (n m : Nat) : (sixteen (n : Int) (m : Int)).map (Value.int .u8) = (u8s n ++ u8s m).map bc := by
  have e : sixteen (n : Int) (m : Int) = eight (n : Int) ++ eight (m : Int) := by
    unfold sixteen eight bytesTo byteOf
    simp [List.range_succ]
  rw [e, List.map_append, cells8, cells8, List.map_append]
/-- The bytes of what is known. -/
def aggU (a : Ag) : List UInt8 := (if a.o = true then 1 else 0) :: (u8s a.c.toNat ++ (u8s (hi a.s % 18446744073709551616).toNat ++ (u8s (lo a.s).toNat ++ (u8s (a.mn % 18446744073709551616).toNat ++ u8s (a.mx % 18446744073709551616).toNat))))
theorem aggU_len (a : Ag) : (aggU a).length = 41 := by simp [aggU, u8s_len]
theorem aggU_cells (a : Ag) (h : AgOk a) : (aggBytes a).map (Value.int .u8) = (aggU a).map bc := by
  have e1 : eight a.c = eight ((a.c.toNat : Nat) : Int) := by rw [Int.toNat_of_nonneg h.c1]
  have e2 : sixteen (hi a.s % 18446744073709551616) (lo a.s) = sixteen (((hi a.s % 18446744073709551616).toNat : Nat) : Int) (((lo a.s).toNat : Nat) : Int) := by
    rw [Int.toNat_of_nonneg (by omega), Int.toNat_of_nonneg (by unfold lo; omega)]
  have e3 : sixteen (a.mn % 18446744073709551616) (a.mx % 18446744073709551616) = sixteen (((a.mn % 18446744073709551616).toNat : Nat) : Int) (((a.mx % 18446744073709551616).toNat : Nat) : Int) := by
    rw [Int.toNat_of_nonneg (by omega), Int.toNat_of_nonneg (by omega)]
  unfold aggBytes aggU
  rw [e1, e2, e3, List.map_append, List.map_append, List.map_append, cells8, cells16, cells16]
  simp only [List.map_append, List.map_cons, List.map_nil, List.append_assoc, List.cons_append, List.nil_append]
  congr 1
  split <;> rfl
def w64 (n : Nat) : Int := IntKind.i64.wrap (n : Int)
/-- What forty-one bytes say. -/
def decU (l : List UInt8) : Ag := ⟨(bv ((l.drop 1).take 8) : Nat), l.getD 0 0 == 1, w64 (bv ((l.drop 9).take 8)) * 18446744073709551616 + (bv ((l.drop 17).take 8) : Nat), w64 (bv ((l.drop 25).take 8)), w64 (bv ((l.drop 33).take 8))⟩
theorem w64_bd (n : Nat) : -9223372036854775808 ≤ w64 n ∧ w64 n ≤ 9223372036854775807 := by
  unfold w64; rw [IntKind.wrap_i64]; omega
theorem w64_mod {n : Nat} (h : n < 18446744073709551616) : (w64 n % 18446744073709551616).toNat = n := by
  unfold w64; rw [IntKind.wrap_i64]; omega
theorem w64_of {x : Int} (h1 : -9223372036854775808 ≤ x) (h2 : x ≤ 9223372036854775807) : w64 (x % 18446744073709551616).toNat = x := by
  unfold w64; rw [IntKind.wrap_i64]; omega
theorem hilo (h l : Int) (h1 : -9223372036854775808 ≤ h) (h2 : h ≤ 9223372036854775807) (l1 : 0 ≤ l) (l2 : l < 18446744073709551616) : hi (h * 18446744073709551616 + l) = h ∧ lo (h * 18446744073709551616 + l) = l := by
  unfold hi lo; omega
/-- Pieces of forty-one bytes. -/
theorem pieces {x : UInt8} {p1 p2 p3 p4 p5 : List UInt8} (h1 : p1.length = 8) (h2 : p2.length = 8) (h3 : p3.length = 8) (h4 : p4.length = 8) (h5 : p5.length = 8) (l : List UInt8) (hl : l = x :: (p1 ++ (p2 ++ (p3 ++ (p4 ++ p5))))) :
    (l.drop 1).take 8 = p1 ∧ (l.drop 9).take 8 = p2 ∧ (l.drop 17).take 8 = p3 ∧ (l.drop 25).take 8 = p4 ∧ (l.drop 33).take 8 = p5 ∧ l.getD 0 0 = x := by
  have e1 : l.drop 1 = p1 ++ (p2 ++ (p3 ++ (p4 ++ p5))) := by rw [hl]; rfl
  have e2 : l.drop 9 = p2 ++ (p3 ++ (p4 ++ p5)) := by rw [show 9 = 1 + 8 from rfl, ← List.drop_drop, e1, ← h1, List.drop_left]
  have e3 : l.drop 17 = p3 ++ (p4 ++ p5) := by rw [show 17 = 9 + 8 from rfl, ← List.drop_drop, e2, ← h2, List.drop_left]
  have e4 : l.drop 25 = p4 ++ p5 := by rw [show 25 = 17 + 8 from rfl, ← List.drop_drop, e3, ← h3, List.drop_left]
  have e5 : l.drop 33 = p5 := by rw [show 33 = 25 + 8 from rfl, ← List.drop_drop, e4, ← h4, List.drop_left]
  refine ⟨?_, ?_, ?_, ?_, ?_, ?_⟩
  · rw [e1, ← h1, List.take_left]
  · rw [e2, ← h2, List.take_left]
  · rw [e3, ← h3, List.take_left]
  · rw [e4, ← h4, List.take_left]
  · rw [e5, List.take_of_length_le (by omega)]
  · rw [hl]; rfl
theorem dec_aggU (a : Ag) (h : AgOk a) : decU (aggU a) = a := by
  obtain ⟨q1, q2, q3, q4, q5, q0⟩ := pieces (u8s_len _) (u8s_len _) (u8s_len _) (u8s_len _) (u8s_len _) (aggU a) rfl
  unfold decU
  rw [q1, q2, q3, q4, q5, q0]
  have hs := h.s1
  have hs2 := h.s2
  have hlo : 0 ≤ lo a.s ∧ lo a.s < 18446744073709551616 := by unfold lo; omega
  have hhi : -9223372036854775808 ≤ hi a.s ∧ hi a.s ≤ 9223372036854775807 := by unfold hi; omega
  have hc := h.c1
  have hc2 := h.c2
  rw [u8s_val _ (by omega), u8s_val _ (by omega), u8s_val _ (by omega), u8s_val _ (by omega), u8s_val _ (by omega), w64_of hhi.1 hhi.2, w64_of h.n1 h.n2, w64_of h.x1 h.x2, Int.toNat_of_nonneg hc, Int.toNat_of_nonneg hlo.1]
  have es : hi a.s * 18446744073709551616 + lo a.s = a.s := by unfold hi lo; omega
  rw [es]
  clear hs hs2 hlo hhi hc hc2 es q1 q2 q3 q4 q5 q0 h
  obtain ⟨c, o, s, mn, mx⟩ := a
  cases o <;> rfl
theorem decU_ok (l : List UInt8) (hl : l.length = 41) : AgOk (decU l) := by
  have t : ∀ k, k + 8 ≤ 41 → ((l.drop k).take 8).length = 8 := fun k hk => by rw [List.length_take, List.length_drop]; omega
  have b1 := bv8_lt (t 1 (by omega))
  have b3 := bv8_lt (t 17 (by omega))
  have w2 := w64_bd (bv ((l.drop 9).take 8))
  have w4 := w64_bd (bv ((l.drop 25).take 8))
  have w5 := w64_bd (bv ((l.drop 33).take 8))
  refine ⟨?_, ?_, w4.1, w4.2, w5.1, w5.2, ?_, ?_⟩ <;> unfold decU <;> simp only <;> omega
theorem aggU_dec (l : List UInt8) (hl : l.length = 41) (h0 : (l.getD 0 0).toNat ≤ 1) : aggU (decU l) = l := by
  have t : ∀ k, k + 8 ≤ 41 → ((l.drop k).take 8).length = 8 := fun k hk => by rw [List.length_take, List.length_drop]; omega
  have e0 : l = l.getD 0 0 :: l.drop 1 := by
    cases l with
    | nil => simp at hl
    | cons x l => rfl
  have dd : ∀ k, k + 8 ≤ 41 → l.drop k = (l.drop k).take 8 ++ l.drop (k + 8) := fun k hk => by rw [← List.drop_drop, List.take_append_drop]
  have e5 : l.drop 33 = (l.drop 33).take 8 := by rw [List.take_of_length_le (by rw [List.length_drop]; omega)]
  have hsum : l = l.getD 0 0 :: ((l.drop 1).take 8 ++ ((l.drop 9).take 8 ++ ((l.drop 17).take 8 ++ ((l.drop 25).take 8 ++ (l.drop 33).take 8)))) := by
    rw [← e5, ← dd 25 (by omega), ← dd 17 (by omega), ← dd 9 (by omega), ← dd 1 (by omega)]; exact e0
  have b1 := bv8_lt (t 1 (by omega))
  have b2 := bv8_lt (t 9 (by omega))
  have b3 := bv8_lt (t 17 (by omega))
  have b4 := bv8_lt (t 25 (by omega))
  have b5 := bv8_lt (t 33 (by omega))
  have w2 := w64_bd (bv ((l.drop 9).take 8))
  obtain ⟨hh, hl2⟩ := hilo (w64 (bv ((l.drop 9).take 8))) ((bv ((l.drop 17).take 8) : Nat) : Int) w2.1 w2.2 (by omega) (by omega)
  conv => rhs; rw [hsum]
  unfold aggU decU
  simp only
  rw [hh, hl2, w64_mod b2, w64_mod b4, w64_mod b5, Int.toNat_natCast, Int.toNat_natCast, u8s_bv (t 1 (by omega)), u8s_bv (t 9 (by omega)), u8s_bv (t 17 (by omega)), u8s_bv (t 25 (by omega)), u8s_bv (t 33 (by omega))]
  congr 1
  generalize l.getD 0 0 = x at h0
  by_cases hx : x = 1
  · subst hx; rfl
  · have : x = 0 := by
      apply UInt8.toNat_inj.1
      have : x.toNat ≠ 1 := fun e => hx (UInt8.toNat_inj.1 e)
      show x.toNat = 0
      omega
    subst this; rfl
end Go.Proofs.Ytlpjdfgknmfmnaa

/- Pieces of bytes that a slice reads. -/
namespace Go.Proofs.Ytlpjdfgknmfmnaa
open Go.RowKit

theorem Reads.take {w : World} {a : Option Addr} {cap : Nat} {l : List UInt8} (h : Reads w (.slice a l.length cap) l) {c : Nat} (hc : c ≤ l.length) : Reads w (.slice a c cap) (l.take c) := by
  rcases h with ⟨rfl, a', cap', hv, hn⟩ | ⟨b, off, cap', hv, h2, h3, h4, h5, h6⟩
  · have : c = 0 := by simpa using hc
    subst this
    simp at hv
    obtain ⟨rfl, rfl⟩ := hv
    exact .inl ⟨rfl, _, _, rfl, hn⟩
  · simp at hv
    obtain ⟨rfl, rfl⟩ := hv
    exact reads_take c hc h3 h4 h5 h6
theorem Reads.cap {w : World} {a : Option Addr} {n cap : Nat} {l : List UInt8} (h : Reads w (.slice a n cap) l) (h0 : 0 < l.length) : l.length ≤ cap := by
  rcases h with ⟨rfl, _⟩ | ⟨b, off, cap', hv, h2, h3, h4, h5, h6⟩
  · simp at h0
  · simp at hv; omega
theorem Reads.drop {w : World} {a : Option Addr} {cap : Nat} {l : List UInt8} (h : Reads w (.slice a l.length cap) l) {c : Nat} (hc : c ≤ l.length) (b off : Nat) (ha : a = some ⟨b, off, none⟩) :
    (c < cap → Reads w (.slice (some ⟨b, off + c, none⟩) (l.length - c) (cap - c)) (l.drop c)) ∧ (¬ c < cap → l.drop c = []) := by
  rcases h with ⟨rfl, a', cap', hv, hn⟩ | ⟨b', off', cap', hv, h2, h3, h4, h5, h6⟩
  · have : c = 0 := by simpa using hc
    subst this
    refine ⟨fun _ => .inl ⟨rfl, _, _, rfl, fun h => by cases h⟩, fun _ => rfl⟩
  · simp at hv
    obtain ⟨hv1, rfl⟩ := hv
    rw [ha] at hv1
    simp at hv1
    obtain ⟨rfl, rfl⟩ := hv1
    have hl : (l.drop c).length = l.length - c := by simp
    refine ⟨fun hcc => ?_, fun hcc => List.drop_eq_nil_of_le (by omega)⟩
    rcases Nat.eq_zero_or_pos (l.length - c) with h0 | h0
    · left; exact ⟨List.length_eq_zero_iff.1 (by omega), _, _, by rw [h0], fun h => by cases h⟩
    · right
      refine ⟨b, off + c, cap - c, by rw [hl], by omega, by omega, by omega, h5, fun j hj => ?_⟩
      rw [Nat.add_assoc, h6 (c + j) (by omega)]
      simp
theorem reads_nil {w : World} {a : Option Addr} {cap : Nat} (h : a = none → cap = 0) : Reads w (.slice a 0 cap) [] := .inl ⟨rfl, _, _, rfl, h⟩
end Go.Proofs.Ytlpjdfgknmfmnaa
