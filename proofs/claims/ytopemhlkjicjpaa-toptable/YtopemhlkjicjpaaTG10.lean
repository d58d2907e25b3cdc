/- AB1 RT SL0 AB2, joined. -/
import Derived.Test.YtopemhlkjicjpaaTG1
import Derived.Test.YtopemhlkjicjpaaTG8
import Derived.Test.YtopemhlkjicjpaaTG9
/- The forty-one bytes of what is known: plain words. -/
namespace Go.Proofs.Ytopemhlkjicjpaa
open Go.RowKit

theorem ubc {n : Nat} (h : n < 256) : bc (UInt8.ofNat n) = .int .u8 (n : Int) := by
  unfold bc
  have : (UInt8.ofNat n).toNat = n := by simp [UInt8.toNat_ofNat']; omega
  rw [this]
/-- Eight bytes of a number. -/
def u8s (n : Nat) : List UInt8 := [UInt8.ofNat (n / 72057594037927936 % 256), UInt8.ofNat (n / 281474976710656 % 256), UInt8.ofNat (n / 1099511627776 % 256), UInt8.ofNat (n / 4294967296 % 256), UInt8.ofNat (n / 16777216 % 256), UInt8.ofNat (n / 65536 % 256), UInt8.ofNat (n / 256 % 256), UInt8.ofNat (n % 256)]
theorem u8s_len (n : Nat) : (u8s n).length = 8 := rfl
theorem u8s_val (n : Nat) (h : n < 18446744073709551616) : bv (u8s n) = n := by
  have f : ∀ k : Nat, k < 256 → (UInt8.ofNat k).toNat = k := fun k hk => by simp [UInt8.toNat_ofNat']; omega
  unfold u8s
  simp only [bv, List.length_cons, List.length_nil]
  rw [f _ (by omega), f _ (by omega), f _ (by omega), f _ (by omega), f _ (by omega), f _ (by omega), f _ (by omega), f _ (by omega)]
  omega
theorem bv8_lt {p : List UInt8} (h : p.length = 8) : bv p < 18446744073709551616 := by
  have hl := bv_lt p
  rw [h] at hl
  simpa using hl
theorem cells8 (n : Nat) : (eight (n : Int)).map (Value.int .u8) = (u8s n).map bc := by
  have e : eight (n : Int) = [((n / 72057594037927936 % 256 : Nat) : Int), ((n / 281474976710656 % 256 : Nat) : Int), ((n / 1099511627776 % 256 : Nat) : Int), ((n / 4294967296 % 256 : Nat) : Int), ((n / 16777216 % 256 : Nat) : Int), ((n / 65536 % 256 : Nat) : Int), ((n / 256 % 256 : Nat) : Int), ((n % 256 : Nat) : Int)] := by
    unfold eight bytesTo byteOf
    simp [List.range_succ]
  rw [e]
  unfold u8s
  simp only [List.map_cons, List.map_nil]
  rw [ubc (by omega), ubc (by omega), ubc (by omega), ubc (by omega), ubc (by omega), ubc (by omega), ubc (by omega), ubc (by omega)]
theorem cells16 (n m : Nat) : (sixteen (n : Int) (m : Int)).map (Value.int .u8) = (u8s n ++ u8s m).map bc := by
  have e : sixteen (n : Int) (m : Int) = eight (n : Int) ++ eight (m : Int) := by
    unfold sixteen eight bytesTo byteOf
    simp [List.range_succ]
  rw [e, List.map_append, cells8, cells8, List.map_append]
/-- The bytes of what is known. -/
def aggU (a : Ag) : List UInt8 := (if a.o = true then 1 else 0) :: (u8s a.c.toNat ++ (u8s (hi a.s % 18446744073709551616).toNat ++ (u8s (lo a.s).toNat ++ (u8s (a.mn % 18446744073709551616).toNat ++ u8s (a.mx % 18446744073709551616).toNat))))
theorem aggU_len (a : Ag) : (aggU a).length = 41 := by simp [aggU, u8s_len]
theorem aggU_cells (a : Ag) (h : AgOk a) : (aggBytes a).map (Value.int .u8) = (aggU a).map bc := by
  have e1 : eight a.c = eight ((a.c.toNat : Nat) : Int) := by rw [Int.toNat_of_nonneg h.c1]
  have e2 : sixteen (hi a.s % 18446744073709551616) (lo a.s) = sixteen (((hi a.s % 18446744073709551616).toNat : Nat) : Int) (((lo a.s).toNat : Nat) : Int) := by
    rw [Int.toNat_of_nonneg (by omega), Int.toNat_of_nonneg (by unfold lo; omega)]
  have e3 : sixteen (a.mn % 18446744073709551616) (a.mx % 18446744073709551616) = sixteen (((a.mn % 18446744073709551616).toNat : Nat) : Int) (((a.mx % 18446744073709551616).toNat : Nat) : Int) := by
    rw [Int.toNat_of_nonneg (by omega), Int.toNat_of_nonneg (by omega)]
  unfold aggBytes aggU
  rw [e1, e2, e3, List.map_append, List.map_append, List.map_append, cells8, cells16, cells16]
  simp only [List.map_append, List.map_cons, List.map_nil, List.append_assoc, List.cons_append, List.nil_append]
  congr 1
  split <;> rfl
def w64 (n : Nat) : Int := IntKind.i64.wrap (n : Int)
/-- What forty-one bytes say. -/
def decU (l : List UInt8) : Ag := ⟨(bv ((l.drop 1).take 8) : Nat), l.getD 0 0 == 1, w64 (bv ((l.drop 9).take 8)) * 18446744073709551616 + (bv ((l.drop 17).take 8) : Nat), w64 (bv ((l.drop 25).take 8)), w64 (bv ((l.drop 33).take 8))⟩
theorem w64_bd (n : Nat) : -9223372036854775808 ≤ w64 n ∧ w64 n ≤ 9223372036854775807 := by
  unfold w64; rw [IntKind.wrap_i64]; omega
theorem w64_of {x : Int} (h1 : -9223372036854775808 ≤ x) (h2 : x ≤ 9223372036854775807) : w64 (x % 18446744073709551616).toNat = x := by
  unfold w64; rw [IntKind.wrap_i64]; omega
theorem hilo (h l : Int) (h1 : -9223372036854775808 ≤ h) (h2 : h ≤ 9223372036854775807) (l1 : 0 ≤ l) (l2 : l < 18446744073709551616) : hi (h * 18446744073709551616 + l) = h ∧ lo (h * 18446744073709551616 + l) = l := by
  unfold hi lo; omega
/-- Pieces of forty-one bytes. -/
theorem pieces {x : UInt8} {p1 p2 p3 p4 p5 : List UInt8} (h1 : p1.length = 8) (h2 : p2.length = 8) (h3 : p3.length = 8) (h4 : p4.length = 8) (h5 : p5.length = 8) (l : List UInt8) (hl : l = x :: (p1 ++ (p2 ++ (p3 ++ (p4 ++ p5))))) :
    (l.drop 1).take 8 = p1 ∧ (l.drop 9).take 8 = p2 ∧ (l.drop 17).take 8 = p3 ∧ (l.drop 25).take 8 = p4 ∧ (l.drop 33).take 8 = p5 ∧ l.getD 0 0 = x := by
  have e1 : l.drop 1 = p1 ++ (p2 ++ (p3 ++ (p4 ++ p5))) := by rw [hl]; rfl
  have e2 : l.drop 9 = p2 ++ (p3 ++ (p4 ++ p5)) := by rw [show 9 = 1 + 8 from rfl, ← List.drop_drop, e1, ← h1, List.drop_left]
  have e3 : l.drop 17 = p3 ++ (p4 ++ p5) := by rw [show 17 = 9 + 8 from rfl, ← List.drop_drop, e2, ← h2, List.drop_left]
  have e4 : l.drop 25 = p4 ++ p5 := by rw [show 25 = 17 + 8 from rfl, ← List.drop_drop, e3, ← h3, List.drop_left]
  have e5 : l.drop 33 = p5 := by rw [show 33 = 25 + 8 from rfl, ← List.drop_drop, e4, ← h4, List.drop_left]
  refine ⟨?_, ?_, ?_, ?_, ?_, ?_⟩
  · rw [e1, ← h1, List.take_left]
  · rw [e2, ← h2, List.take_left]
  · rw [e3, ← h3, List.take_left]
  · rw [e4, ← h4, List.take_left]
  · rw [e5, List.take_of_length_le (by omega)]
  · rw [hl]; rfl
theorem dec_aggU (a : Ag) (h : AgOk a) : decU (aggU a) = a := by
  obtain ⟨q1, q2, q3, q4, q5, q0⟩ := pieces (u8s_len _) (u8s_len _) (u8s_len _) (u8s_len _) (u8s_len _) (aggU a) rfl
  unfold decU
  rw [q1, q2, q3, q4, q5, q0]
  have hs := h.s1
  have hs2 := h.s2
  have hlo : 0 ≤ lo a.s ∧ lo a.s < 18446744073709551616 := by unfold lo; omega
  have hhi : -9223372036854775808 ≤ hi a.s ∧ hi a.s ≤ 9223372036854775807 := by unfold hi; omega
  have hc := h.c1
  have hc2 := h.c2
  rw [u8s_val _ (by omega), u8s_val _ (by omega), u8s_val _ (by omega), u8s_val _ (by omega), u8s_val _ (by omega), w64_of hhi.1 hhi.2, w64_of h.n1 h.n2, w64_of h.x1 h.x2, Int.toNat_of_nonneg hc, Int.toNat_of_nonneg hlo.1]
  have es : hi a.s * 18446744073709551616 + lo a.s = a.s := by unfold hi lo; omega
  rw [es]
  clear hs hs2 hlo hhi hc hc2 es q1 q2 q3 q4 q5 q0 h
  obtain ⟨c, o, s, mn, mx⟩ := a
  cases o <;> rfl
theorem decU_ok (l : List UInt8) (hl : l.length = 41) : AgOk (decU l) := by
  have t : ∀ k, k + 8 ≤ 41 → ((l.drop k).take 8).length = 8 := fun k hk => by rw [List.length_take, List.length_drop]; omega
  have b1 := bv8_lt (t 1 (by omega))
  have b3 := bv8_lt (t 17 (by omega))
  have w2 := w64_bd (bv ((l.drop 9).take 8))
  have w4 := w64_bd (bv ((l.drop 25).take 8))
  have w5 := w64_bd (bv ((l.drop 33).take 8))
  refine ⟨?_, ?_, w4.1, w4.2, w5.1, w5.2, ?_, ?_⟩ <;> unfold decU <;> simp only <;> omega
end Go.Proofs.Ytopemhlkjicjpaa

/- Pieces of bytes that a slice reads. -/
namespace Go.Proofs.Ytopemhlkjicjpaa
open Go.RowKit

theorem Reads.take {w : World} {a : Option Addr} {cap : Nat} {l : List UInt8} (h : Reads w (.slice a l.length cap) l) {c : Nat} (hc : c ≤ l.length) : Reads w (.slice a c cap) (l.take c) := by
  rcases h with ⟨rfl, a', cap', hv, hn⟩ | ⟨b, off, cap', hv, h2, h3, h4, h5, h6⟩
  · have : c = 0 := by simpa using hc
    subst this
    simp at hv
    obtain ⟨rfl, rfl⟩ := hv
    exact .inl ⟨rfl, _, _, rfl, hn⟩
  · simp at hv
    obtain ⟨rfl, rfl⟩ := hv
    exact reads_take c hc h3 h4 h5 h6
theorem Reads.cap {w : World} {a : Option Addr} {n cap : Nat} {l : List UInt8} (h : Reads w (.slice a n cap) l) (h0 : 0 < l.length) : l.length ≤ cap := by
  rcases h with ⟨rfl, _⟩ | ⟨b, off, cap', hv, h2, h3, h4, h5, h6⟩
  · simp at h0
  · simp at hv; omega
theorem Reads.drop {w : World} {a : Option Addr} {cap : Nat} {l : List UInt8} (h : Reads w (.slice a l.length cap) l) {c : Nat} (hc : c ≤ l.length) (b off : Nat) (ha : a = some ⟨b, off, none⟩) :
    (c < cap → Reads w (.slice (some ⟨b, off + c, none⟩) (l.length - c) (cap - c)) (l.drop c)) ∧ (¬ c < cap → l.drop c = []) := by
  rcases h with ⟨rfl, a', cap', hv, hn⟩ | ⟨b', off', cap', hv, h2, h3, h4, h5, h6⟩
  · have : c = 0 := by simpa using hc
    subst this
    refine ⟨fun _ => .inl ⟨rfl, _, _, rfl, fun h => by cases h⟩, fun _ => rfl⟩
  · simp at hv
    obtain ⟨hv1, rfl⟩ := hv
    rw [ha] at hv1
    simp at hv1
    obtain ⟨rfl, rfl⟩ := hv1
    have hl : (l.drop c).length = l.length - c := by simp
    refine ⟨fun hcc => ?_, fun hcc => List.drop_eq_nil_of_le (by omega)⟩
    rcases Nat.eq_zero_or_pos (l.length - c) with h0 | h0
    · left; exact ⟨List.length_eq_zero_iff.1 (by omega), _, _, by rw [h0], fun h => by cases h⟩
    · right
      refine ⟨b, off + c, cap - c, by rw [hl], by omega, by omega, by omega, h5, fun j hj => ?_⟩
      rw [Nat.add_assoc, h6 (c + j) (by omega)]
      simp
theorem reads_nil {w : World} {a : Option Addr} {cap : Nat} (h : a = none → cap = 0) : Reads w (.slice a 0 cap) [] := .inl ⟨rfl, _, _, rfl, h⟩
end Go.Proofs.Ytopemhlkjicjpaa

/- Parts of bytes that a slice reads, as one value each. -/
namespace Go.Proofs.Ytopemhlkjicjpaa
open Go.RowKit

theorem size8 (w : World) : (sizeOf 5).run Try.prog w = .ok 1 w := by
  simp [sizeOf]
  rfl
theorem elem8 : Try.prog.elem 23 = 5 := by kernel_rfl
theorem und8 : Try.prog.underlying 23 = some (.slice (Try.prog.elem 23)) := by rw [elem8]; exact Try.underlying23
theorem Reads.sliced {w : World} {a : Option Addr} {cap : Nat} {l : List UInt8} (h : Reads w (.slice a l.length cap) l) {c d : Nat} (hc : c ≤ d) (hd : d ≤ l.length) : Reads w (sliced a c d cap 1) ((l.take d).drop c) := by
  unfold Go.sliced
  rcases Nat.eq_zero_or_pos (d - c) with h0 | h0
  · have e : (l.take d).drop c = [] := List.drop_eq_nil_of_le (by simp; omega)
    rw [e, h0]
    refine .inl ⟨rfl, _, _, rfl, fun hn => ?_⟩
    split at hn
    · subst hn; omega
    · rcases h with ⟨_, a', cap', hv, hz⟩ | ⟨b, off, cap', hv, _⟩
      · simp at hv
        obtain ⟨rfl, _, rfl⟩ := hv
        cases a with
        | none => rw [hz rfl]; omega
        | some x => simp at hn
      · simp at hv
        obtain ⟨rfl, _⟩ := hv
        simp at hn
  · rcases h with ⟨rfl, _⟩ | ⟨b, off, cap', hv, h2, h3, h4, h5, h6⟩
    · simp at hd; omega
    · simp at hv
      obtain ⟨rfl, rfl⟩ := hv
      rw [if_neg (by omega)]
      have hl : ((l.take d).drop c).length = d - c := by simp; omega
      have ea : Option.map (fun x : Addr => x.add (c * 1)) (some (⟨b, off, none⟩ : Addr)) = some ⟨b, off + c, none⟩ := by simp [Addr.add]
      rw [ea]
      refine .inr ⟨b, off + c, cap - c, by rw [hl], by omega, by omega, by omega, h5, fun j hj => ?_⟩
      rw [Nat.add_assoc, h6 (c + j) (by omega)]
      simp
/-- l[c:] -/
theorem sl_from {w : World} {a : Option Addr} {cap : Nat} {l : List UInt8} (h : Reads w (.slice a l.length cap) l) {c : Nat} (hc : c ≤ l.length) :
    ∃ a' cap', (∀ w', (Instr.slice 23 (.slice a l.length cap) (some (.int .i64 (c : Int))) none none).run Try.prog w' = .ok (.slice a' (l.length - c) cap') w') ∧ Reads w (.slice a' (l.length - c) cap') (l.drop c) := by
  refine ⟨(if cap = c then a else a.map (·.add (c * 1))), cap - c, fun w' => ?_, ?_⟩
  rotate_left
  · have := h.sliced hc (Nat.le_refl _)
    rw [List.take_length] at this
    exact this
  · rw [run_slice_l _ _ _ _ _ und8 _ _ (by omega) (by omega), elem8, size8]
    rfl
/-- l[:d] -/
theorem sl_upto {w : World} {a : Option Addr} {cap : Nat} {l : List UInt8} (h : Reads w (.slice a l.length cap) l) {d : Nat} (hd : d ≤ l.length) :
    ∃ a' cap', (∀ w', (Instr.slice 23 (.slice a l.length cap) none (some (.int .i64 (d : Int))) none).run Try.prog w' = .ok (.slice a' d cap') w') ∧ Reads w (.slice a' d cap') (l.take d) := by
  have hcap : d ≤ cap := by
    rcases Nat.eq_zero_or_pos l.length with h0 | h0
    · omega
    · have := h.cap h0; omega
  refine ⟨(if cap = 0 then a else a.map (·.add (0 * 1))), cap - 0, fun w' => ?_, ?_⟩
  rotate_left
  · exact h.sliced (Nat.zero_le d) hd
  · rw [run_slice_h _ _ _ _ _ und8 _ _ (by omega) (by omega), elem8, size8]
    rfl
/-- l[c:d] -/
theorem sl_part {w : World} {a : Option Addr} {cap : Nat} {l : List UInt8} (h : Reads w (.slice a l.length cap) l) {c d : Nat} (hc : c ≤ d) (hd : d ≤ l.length) :
    ∃ a' cap', (∀ w', (Instr.slice 23 (.slice a l.length cap) (some (.int .i64 (c : Int))) (some (.int .i64 (d : Int))) none).run Try.prog w' = .ok (.slice a' (d - c) cap') w') ∧ Reads w (.slice a' (d - c) cap') ((l.take d).drop c) := by
  have hcap : d ≤ cap := by
    rcases Nat.eq_zero_or_pos l.length with h0 | h0
    · omega
    · have := h.cap h0; omega
  refine ⟨(if cap = c then a else a.map (·.add (c * 1))), cap - c, fun w' => ?_, ?_⟩
  rotate_left
  · exact h.sliced hc hd
  · rw [run_slice_lh _ _ _ _ _ und8 _ _ _ _ (by omega) (by omega) (by omega), elem8, size8]
    rfl
end Go.Proofs.Ytopemhlkjicjpaa

/- The contracts of agg.Write and agg.Read, for bytes. -/
namespace Go.Proofs.Ytopemhlkjicjpaa
open Go.RowKit

def agV (a : Ag) : Value := .agg #[.int .u64 a.c, .bool a.o, .int .i64 (hi a.s), .int .u64 (lo a.s), .int .i64 a.mn, .int .i64 a.mx]
def aZ : Ag := ⟨0, false, 0, 0, 0⟩
theorem agVZ : agV aZ = .agg #[.int .u64 0, .bool false, .int .i64 0, .int .u64 0, .int .i64 0, .int .i64 0] := rfl
theorem aZ_ok : AgOk aZ := ⟨by decide, by decide, by decide, by decide, by decide, by decide, by decide, by decide⟩
set_option maxRecDepth 100000 in
set_option maxHeartbeats 1000000 in
theorem aggWrite_no (a : Ag) (hr : rightB a = false) (w : World) :
    Calls Try.prog 51 #[agV a] w fun e w' => e = .returned (.tuple #[.slice none 0 0, .int .i64 3]) ∧ Below w.heap.size w w' := by
  have HR : Hid _ := right_any a (w.alloc (.cells #[.int .u64 a.c, .bool a.o, .int .i64 (hi a.s), .int .u64 (lo a.s), .int .i64 a.mn, .int .i64 a.mx] 34))
  rw [hr] at HR
  clear hr
  unfold agV
  go_enter Try.func51, Try.ntmps51
  go_wp2_with fail
  refine Calls.mono HR.out ?_
  rintro e w1 ⟨rfl, hb1⟩
  have HB1 : Hid (Below w.heap.size w w1) := ((Below.refl _ _).alloc (Nat.le_refl _) _).trans (hb1.mono (by simp))
  clear hb1
  go_wp2_with fail
  go_ret2
  exact ⟨rfl, HB1.out⟩
/-- What Write answers. -/
def wrE (a : Ag) : Int := if rightB a = true then 0 else 3
def wrU (a : Ag) : List UInt8 := if rightB a = true then aggU a else []
theorem aggWrite_any (a : Ag) (h : AgOk a) (w : World) :
    Calls Try.prog 51 #[agV a] w fun e w' => ∃ v, e = .returned (.tuple #[v, .int .i64 (wrE a)]) ∧ Own w' w.heap.size v (wrU a) ∧ Below w.heap.size w w' := by
  unfold wrE wrU
  cases hr : rightB a with
  | false =>
    refine (aggWrite_no a hr w).mono ?_
    rintro e w' ⟨rfl, hb⟩
    exact ⟨_, by simp, Own.nil _ _, hb⟩
  | true =>
    have key : ∀ (e : Ending) (w' : World), (∃ v, e = .returned (.tuple #[v, .int .i64 0]) ∧ w'.ownsRow (w.heap.size + 1) 5 1 v 41 ((aggBytes a).map (Value.int .u8)) ∧ Below w.heap.size w w') → ∃ v, e = .returned (.tuple #[v, .int .i64 0]) ∧ Own w' w.heap.size v (aggU a) ∧ Below w.heap.size w w' := by
      rintro e w' ⟨v, rfl, ho, hb⟩
      refine ⟨v, rfl, ?_, hb⟩
      rw [aggU_cells a h] at ho
      show w'.ownsRow w.heap.size 5 1 v (aggU a).length ((aggU a).map bc)
      rw [aggU_len]
      exact own_mono ho (by omega)
    cases ho : a.o with
    | false => refine (aggWrite_plain a ho hr ⟨h.c1, h.c2⟩ w).mono ?_; simpa using key
    | true => refine (aggWrite_over a ho hr ⟨h.c1, h.c2⟩ w).mono ?_; simpa using key
/-- What Read answers. -/
def rdG (l : List UInt8) : Prop := (l.getD 0 0).toNat ≤ 1 ∧ rightB (decU l) = true
instance (l : List UInt8) : Decidable (rdG l) := inferInstanceAs (Decidable (_ ∧ _))
def rdA (l : List UInt8) : Ag := if l.length = 41 ∧ rdG l then decU l else aZ
def rdR (l : List UInt8) : Int := if l.length < 41 then 10 else if 41 < l.length then 2 else if rdG l then 0 else 3
end Go.Proofs.Ytopemhlkjicjpaa
