/- SL0 AB2, joined. -/
import Derived.Test.YtlpjdfgknmfmnaaTF4
/- Parts of bytes that a slice reads, as one value each. -/
namespace Go.Proofs.Ytlpjdfgknmfmnaa
open Go.RowKit

theorem size8 (w : World) : (sizeOf 5).run Try.prog w = .ok 1 w := by
  simp [sizeOf]
  rfl
theorem elem8 : Try.prog.elem 25 = 5 := by kernel_rfl
theorem und8 : Try.prog.underlying 25 = some (.slice (Try.prog.elem 25)) := by rw [elem8]; exact Try.underlying25
theorem Reads.sliced {w : World} {a : Option Addr} {cap : Nat} {l : List UInt8} (h : Reads w (.slice a l.length cap) l) {c d : Nat} (hc : c ≤ d) (hd : d ≤ l.length) : Reads w (sliced a c d cap 1) ((l.take d).drop c) := by
  unfold Go.sliced
  rcases Nat.eq_zero_or_pos (d - c) with h0 | h0
  · have e : (l.take d).drop c = [] := List.drop_eq_nil_of_le (by simp; omega)
    rw [e, h0]
    refine .inl ⟨rfl, _, _, rfl, fun hn => ?_⟩
    split at hn
    · subst hn; omega
    · rcases h with ⟨_, a', cap', hv, hz⟩ | ⟨b, off, cap', hv, _⟩
      · simp at hv
        obtain ⟨rfl, _, rfl⟩ := hv
        cases a with
        | none => rw [hz rfl]; omega
        | some x => simp at hn
      · simp at hv
        obtain ⟨rfl, _⟩ := hv
        simp at hn
  · rcases h with ⟨rfl, _⟩ | ⟨b, off, cap', hv, h2, h3, h4, h5, h6⟩
    · simp at hd; omega
    · simp at hv
      obtain ⟨rfl, rfl⟩ := hv
      rw [if_neg (by omega)]
      have hl : ((l.take d).drop c).length = d - c := by simp; omega
      have ea : Option.map (fun x : Addr => x.add (c * 1)) (some (⟨b, off, none⟩ : Addr)) = some ⟨b, off + c, none⟩ := by simp [Addr.add]
      rw [ea]
      refine .inr ⟨b, off + c, cap - c, by rw [hl], by omega, by omega, by omega, h5, fun j hj => ?_⟩
      rw [Nat.add_assoc, h6 (c + j) (by omega)]
      simp
/-- l[c:] -/
theorem sl_from {w : World} {a : Option Addr} {cap : Nat} {l : List UInt8} (h : Reads w (.slice a l.length cap) l) {c : Nat} (hc : c ≤ l.length) :
    ∃ a' cap', (∀ w', (Instr.slice 25 (.slice a l.length cap) (some (.int .i64 (c : Int))) none none).run Try.prog w' = .ok (.slice a' (l.length - c) cap') w') ∧ Reads w (.slice a' (l.length - c) cap') (l.drop c) := by
  refine ⟨(if cap = c then a else a.map (·.add (c * 1))), cap - c, fun w' => ?_, ?_⟩
  rotate_left
  · have := h.sliced hc (Nat.le_refl _)
    rw [List.take_length] at this
    exact this
  · rw [run_slice_l _ _ _ _ _ und8 _ _ (by omega) (by omega), elem8, size8]
    rfl
/-- l[:d] -/
theorem sl_upto {w : World} {a : Option Addr} {cap : Nat} {l : List UInt8} (h : Reads w (.slice a l.length cap) l) {d : Nat} (hd : d ≤ l.length) :
    ∃ a' cap', (∀ w', (Instr.slice 25 (.slice a l.length cap) none (some (.int .i64 (d : Int))) none).run Try.prog w' = .ok (.slice a' d cap') w') ∧ Reads w (.slice a' d cap') (l.take d) := by
  have hcap : d ≤ cap := by
    rcases Nat.eq_zero_or_pos l.length with h0 | h0
    · omega
    · have := h.cap h0; omega
  refine ⟨(if cap = 0 then a else a.map (·.add (0 * 1))), cap - 0, fun w' => ?_, ?_⟩
  rotate_left
  · exact h.sliced (Nat.zero_le d) hd
  · rw [run_slice_h _ _ _ _ _ und8 _ _ (by omega) (by omega), elem8, size8]
    rfl
/-- l[c:d] -/
theorem sl_part {w : World} {a : Option Addr} {cap : Nat} {l : List UInt8} (h : Reads w (.slice a l.length cap) l) {c d : Nat} (hc : c ≤ d) (hd : d ≤ l.length) :
    ∃ a' cap', (∀ w', (Instr.slice 25 (.slice a l.length cap) (some (.int .i64 (c : Int))) (some (.int .i64 (d : Int))) none).run Try.prog w' = .ok (.slice a' (d - c) cap') w') ∧ Reads w (.slice a' (d - c) cap') ((l.take d).drop c) := by
  have hcap : d ≤ cap := by
    rcases Nat.eq_zero_or_pos l.length with h0 | h0
    · omega
    · have := h.cap h0; omega
  refine ⟨(if cap = c then a else a.map (·.add (c * 1))), cap - c, fun w' => ?_, ?_⟩
  rotate_left
  · exact h.sliced hc hd
  · rw [run_slice_lh _ _ _ _ _ und8 _ _ _ _ (by omega) (by omega) (by omega), elem8, size8]
    rfl
end Go.Proofs.Ytlpjdfgknmfmnaa

/- The contracts of agg.Write and agg.Read, for bytes. -/
namespace Go.Proofs.Ytlpjdfgknmfmnaa
open Go.RowKit

def agV (a : Ag) : Value := .agg #[.int .u64 a.c, .bool a.o, .int .i64 (hi a.s), .int .u64 (lo a.s), .int .i64 a.mn, .int .i64 a.mx]
def aZ : Ag := ⟨0, false, 0, 0, 0⟩
theorem agVZ : agV aZ = .agg #[.int .u64 0, .bool false, .int .i64 0, .int .u64 0, .int .i64 0, .int .i64 0] := rfl
theorem aZ_ok : AgOk aZ := ⟨by decide, by decide, by decide, by decide, by decide, by decide, by decide, by decide⟩
set_option maxRecDepth 100000 in
set_option maxHeartbeats 1000000 in
theorem aggWrite_no (a : Ag) (hr : rightB a = false) (w : World) :
    Calls Try.prog 51 #[agV a] w fun e w' => e = .returned (.tuple #[.slice none 0 0, .int .i64 3]) ∧ Below w.heap.size w w' := by
  have HR : Hid _ := right_any a (w.alloc (.cells #[.int .u64 a.c, .bool a.o, .int .i64 (hi a.s), .int .u64 (lo a.s), .int .i64 a.mn, .int .i64 a.mx] 41))
  rw [hr] at HR
  clear hr
  unfold agV
  go_enter Try.func51, Try.ntmps51
  go_wp2_with fail
  refine Calls.mono HR.out ?_
  rintro e w1 ⟨rfl, hb1⟩
  have HB1 : Hid (Below w.heap.size w w1) := ((Below.refl _ _).alloc (Nat.le_refl _) _).trans (hb1.mono (by simp))
  clear hb1
  go_wp2_with fail
  go_ret2
  exact ⟨rfl, HB1.out⟩
/-- What Write answers. -/
def wrE (a : Ag) : Int := if rightB a = true then 0 else 3
def wrU (a : Ag) : List UInt8 := if rightB a = true then aggU a else []
theorem aggWrite_any (a : Ag) (h : AgOk a) (w : World) :
    Calls Try.prog 51 #[agV a] w fun e w' => ∃ v, e = .returned (.tuple #[v, .int .i64 (wrE a)]) ∧ Own w' w.heap.size v (wrU a) ∧ Below w.heap.size w w' := by
  unfold wrE wrU
  cases hr : rightB a with
  | false =>
    refine (aggWrite_no a hr w).mono ?_
    rintro e w' ⟨rfl, hb⟩
    exact ⟨_, by simp, Own.nil _ _, hb⟩
  | true =>
    have key : ∀ (e : Ending) (w' : World), (∃ v, e = .returned (.tuple #[v, .int .i64 0]) ∧ w'.ownsRow (w.heap.size + 1) 5 1 v 41 ((aggBytes a).map (Value.int .u8)) ∧ Below w.heap.size w w') → ∃ v, e = .returned (.tuple #[v, .int .i64 0]) ∧ Own w' w.heap.size v (aggU a) ∧ Below w.heap.size w w' := by
      rintro e w' ⟨v, rfl, ho, hb⟩
      refine ⟨v, rfl, ?_, hb⟩
      rw [aggU_cells a h] at ho
      show w'.ownsRow w.heap.size 5 1 v (aggU a).length ((aggU a).map bc)
      rw [aggU_len]
      exact own_mono ho (by omega)
    cases ho : a.o with
    | false => refine (aggWrite_plain a ho hr ⟨h.c1, h.c2⟩ w).mono ?_; simpa using key
    | true => refine (aggWrite_over a ho hr ⟨h.c1, h.c2⟩ w).mono ?_; simpa using key
/-- What Read answers. -/
def rdG (l : List UInt8) : Prop := (l.getD 0 0).toNat ≤ 1 ∧ rightB (decU l) = true
instance (l : List UInt8) : Decidable (rdG l) := inferInstanceAs (Decidable (_ ∧ _))
def rdA (l : List UInt8) : Ag := if l.length = 41 ∧ rdG l then decU l else aZ
def rdR (l : List UInt8) : Int := if l.length < 41 then 10 else if 41 < l.length then 2 else if rdG l then 0 else 3
end Go.Proofs.Ytlpjdfgknmfmnaa
