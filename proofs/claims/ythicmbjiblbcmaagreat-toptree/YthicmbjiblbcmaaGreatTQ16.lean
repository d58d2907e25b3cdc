/- K0 K4 K1 C1 C2, joined. -/
import Derived.Test.YthicmbjiblbcmaaGreatTQ7
import Derived.Test.YthicmbjiblbcmaaGreatTQ8
import Derived.SliceStrings
import Derived.Lib.SmallJoins
import Derived.OpenShut
import Derived.ProofKit
import Derived.Laws.BitsAllLaws
import Derived.ScopeJumps
/- Texts that a slice reads, whoever made it; keys as arguments. -/
namespace Go.Proofs.YthicmbjiblbcmaaGreat
open Go.ChangeShapes Go.WideShapes Go.ChangeAt Go.RowKit Go.Joins

/-- A slice value reads these texts. -/
def SReads (w : World) (v : Value) (L : List ByteArray) : Prop :=
  (L = [] ∧ ∃ a cap, v = .slice a 0 cap ∧ (a = none → cap = 0)) ∨
  ∃ b off cap, v = .slice (some ⟨b, off, none⟩) L.length cap ∧ 0 < L.length ∧ L.length ≤ cap ∧ cap ≤ maxLen ∧ b < w.heap.size ∧ (∀ j (h : j < L.length), w.cell? ⟨b, off + j, none⟩ = some (.string L[j])) ∧ ∀ s ∈ L, s.size ≤ maxLen
theorem SReads.below {w w' : World} {v : Value} {L : List ByteArray} (h : SReads w v L) (hb : Below w.heap.size w w') : SReads w' v L := by
  rcases h with h | ⟨b, off, cap, h1, h2, h3, h4, h5, h6, h7⟩
  · exact .inl h
  · have := hb.size
    exact .inr ⟨b, off, cap, h1, h2, h3, h4, by omega, fun j hj => (hb.cell (p := ⟨b, off + j, none⟩) h5).trans (h6 j hj), h7⟩
theorem SReads.form {w : World} {v : Value} {L : List ByteArray} (h : SReads w v L) : ∃ a cap, v = .slice a L.length cap ∧ L.length ≤ maxLen := by
  rcases h with ⟨rfl, a, cap, h, _⟩ | ⟨b, off, cap, h1, h2, h3, h4, h5, h6, h7⟩
  · exact ⟨a, cap, h, by simp⟩
  · exact ⟨_, cap, h1, by omega⟩
theorem SReads.at {w : World} {a : Option Addr} {n cap : Nat} {L : List ByteArray} (h : SReads w (.slice a n cap) L) (j : Nat) (hj : j < L.length) : ∃ b off, a = some ⟨b, off, none⟩ ∧ b < w.heap.size ∧ w.cell? ⟨b, off + j, none⟩ = some (.string L[j]) := by
  rcases h with ⟨rfl, _⟩ | ⟨b, off, cap', hv, h2, h3, h4, h5, h6, h7⟩
  · simp at hj
  · simp at hv
    exact ⟨b, off, hv.1, h5, h6 j hj⟩
theorem SReads.size {w : World} {v : Value} {L : List ByteArray} (h : SReads w v L) : ∀ s ∈ L, s.size ≤ maxLen := by
  rcases h with ⟨rfl, _⟩ | ⟨_, _, _, _, _, _, _, _, _, h7⟩
  · intro s hs; simp at hs
  · exact h7
/-- A key: its dimensions' slice, when it begins, how coarse it is. -/
structure Ky where
  v : Value
  L : List ByteArray
  f : Int
  g : Int
def Ky.val (k : Ky) : Value := .agg #[k.v, .int .i64 k.f, .int .i64 k.g]
/-- It lies there. -/
structure KLies (k : Ky) (w : World) : Prop where
  r : SReads w k.v k.L
  f1 : -9223372036854775808 ≤ k.f
  f2 : k.f ≤ 9223372036854775807
  g1 : -9223372036854775808 ≤ k.g
  g2 : k.g ≤ 9223372036854775807
theorem KLies.below {k : Ky} {w w' : World} (h : KLies k w) (hb : Below w.heap.size w w') : KLies k w' := ⟨h.r.below hb, h.f1, h.f2, h.g1, h.g2⟩
end Go.Proofs.YthicmbjiblbcmaaGreat

/- The contracts of cmp.Compare, slices.Compare and cmp.Or, as key.Less calls them. -/
namespace Go.Proofs.YthicmbjiblbcmaaGreat
open Go.RowKit

end Go.Proofs.YthicmbjiblbcmaaGreat

/- The contracts of key.mayBe and key.Right. -/
namespace Go.Proofs.YthicmbjiblbcmaaGreat
open Go.RowKit

/-- May a key with these dimensions be? -/
def mayB (L : List ByteArray) : Bool := decide (L.length ≤ 4 ∧ ∀ s ∈ L, s.size ≤ 16)
theorem mayB_iff {L : List ByteArray} : mayB L = true ↔ L.length ≤ 4 ∧ ∀ s ∈ L, s.size ≤ 16 := by unfold mayB; exact decide_eq_true_iff
theorem mayB_no {L : List ByteArray} (h : ¬ (L.length ≤ 4 ∧ ∀ s ∈ L, s.size ≤ 16)) : mayB L = false := by unfold mayB; exact decide_eq_false h
theorem ret_bool {a b : Bool} (h : a = b) : Ending.returned (.bool a) = .returned (.bool b) := by rw [h]
def rightBK (L : List ByteArray) (f g : Int) : Bool := mayB L && decide (0 ≤ f ∧ f ≤ 1099511627776 ∧ 0 ≤ g ∧ g ≤ 3)
set_option maxRecDepth 100000 in
set_option maxHeartbeats 1000000 in
theorem mayBe_some (b off cap : Nat) (L : List ByteArray) (hl : L.length ≤ maxLen) (hs : ∀ s ∈ L, s.size ≤ maxLen) (w : World) (hc : ∀ j (h : j < L.length), w.cell? ⟨b, off + j, none⟩ = some (.string L[j])) :
    Calls Tryz.prog 91 #[.slice (some ⟨b, off, none⟩) L.length cap] w fun e w' => e = .returned (.bool (mayB L)) ∧ w' = w := by
  have HC : Hid (∀ j (h : j < L.length), w.cell? ⟨b, off + j, none⟩ = some (.string L[j])) := hc
  have HS : Hid (∀ s ∈ L, s.size ≤ maxLen) := hs
  unfold maxLen at hl
  clear hc hs
  by_cases h4 : 4 < L.length
  · have HM : Hid (mayB L = false) := mayB_no (by omega)
    have i1 : (4 : Int) < (L.length : Int) := by omega
    clear h4
    go_enter Tryz.func91, Tryz.ntmps91
    go_wp2_with fail
    go_ret
    exact ⟨by rw [HM.out]; rfl, rfl⟩
  · have i1 : ¬ (4 : Int) < (L.length : Int) := by omega
    go_enter Tryz.func91, Tryz.ntmps91
    go_wp2_with fail
    go_loop [10] (fun i => ∃ k : Nat, k ≤ L.length ∧ i = .int .i64 k ∧ Hid (∀ s ∈ L.take k, s.size ≤ 16)) (fun i => L.length - (intOf i).toNat)
    case atStart => exact ⟨0, Nat.zero_le _, rfl, by intro s hs; simp at hs⟩
    case round =>
      obtain ⟨k, hk, rfl, HK⟩ := hrel
      by_cases hlt : k < L.length
      · have hcell := HC.out k hlt
        have hsz : L[k].size ≤ maxLen := HS.out _ (List.getElem_mem hlt)
        unfold maxLen at hsz
        by_cases h16 : 16 < L[k].size
        · have HM : Hid (mayB L = false) := mayB_no (by intro h; have := h.2 _ (List.getElem_mem hlt); omega)
          have i2 : (16 : Int) < (L[k].size : Int) := by omega
          go_wp2_with fail
          go_ret
          exact ⟨by rw [HM.out]; rfl, rfl⟩
        · have i2 : ¬ (16 : Int) < (L[k].size : Int) := by omega
          have HK1 : Hid (∀ s ∈ L.take (k + 1), s.size ≤ 16) := by
            intro s hs
            rw [List.take_succ_eq_append_getElem hlt] at hs
            rcases List.mem_append.1 hs with hs | hs
            · exact HK.out s hs
            · simp at hs; subst hs; omega
          go_wp2_with fail
          go_round
          case rel => exact ⟨k + 1, by omega, by go_num, HK1⟩
          case measure => simp [intOf]; omega
      · have HM : Hid (mayB L = true) := by
          refine mayB_iff.2 ⟨by omega, ?_⟩
          have := HK.out
          rwa [List.take_of_length_le (by omega)] at this
        go_wp2_with fail
        go_ret
        exact ⟨by rw [HM.out]; rfl, rfl⟩
theorem mayBe_none (a : Option Addr) (cap : Nat) (w : World) :
    Calls Tryz.prog 91 #[.slice a 0 cap] w fun e w' => e = .returned (.bool (mayB [])) ∧ w' = w := by
  go_enter Tryz.func91, Tryz.ntmps91
  go_wp2_with fail
  go_loop [10] (fun i => i = .int .i64 0) (fun _ => 0)
  case atStart => rfl
  case round =>
    subst hrel
    go_wp2_with fail
    go_ret
    exact ⟨rfl, rfl⟩
theorem mayBe_any (v : Value) (L : List ByteArray) (w : World) (h : SReads w v L) :
    Calls Tryz.prog 91 #[v] w fun e w' => e = .returned (.bool (mayB L)) ∧ w' = w := by
  rcases h with ⟨rfl, a, cap, rfl, _⟩ | ⟨b, off, cap, rfl, h2, h3, h4, h5, h6, h7⟩
  · exact mayBe_none a cap w
  · exact mayBe_some b off cap L (by omega) h7 w h6
set_option maxRecDepth 100000 in
set_option maxHeartbeats 1000000 in
theorem right_anyK (k : Ky) (w : World) (h : KLies k w) :
    Calls Tryz.prog 68 #[k.val] w fun e w' => e = .returned (.bool (rightBK k.L k.f k.g)) ∧ Below w.heap.size w w' := by
  obtain ⟨v, L, f, g⟩ := k
  obtain ⟨hr, f1, f2, g1, g2⟩ := h
  simp only at hr f1 f2 g1 g2
  obtain ⟨a, cap, rfl, hm⟩ := hr.form
  unfold Ky.val
  simp only
  have hr1 : SReads (w.alloc (.cells #[.slice a L.length cap, .int .i64 f, .int .i64 g] 73)) (.slice a L.length cap) L := hr.below ((Below.refl _ _).alloc (Nat.le_refl _) _)
  have HB : Hid (Below w.heap.size w (w.alloc (.cells #[.slice a L.length cap, .int .i64 f, .int .i64 g] 73))) := (Below.refl _ _).alloc (Nat.le_refl _) _
  have HR : Hid (rightBK L f g = (mayB L && decide (0 ≤ f ∧ f ≤ 1099511627776 ∧ 0 ≤ g ∧ g ≤ 3))) := rfl
  clear hr
  go_enter Tryz.func68, Tryz.ntmps68
  go_wp2_with fail
  refine (mayBe_any _ L _ hr1).mono ?_
  rintro e w1 ⟨rfl, hw⟩
  subst w1
  clear hr1
  cases hmb : mayB L with
  | false =>
    have HF : Hid (rightBK L f g = false) := by rw [HR.out, hmb]; rfl
    clear hmb
    go_wp2_with fail
    go_ret
    exact ⟨by rw [HF.out]; rfl, HB.out⟩
  | true =>
    by_cases hall : 0 ≤ f ∧ f ≤ 1099511627776 ∧ 0 ≤ g ∧ g ≤ 3
    · have HF : Hid (rightBK L f g = true) := by unfold Hid; rw [HR.out, hmb, decide_eq_true hall]; rfl
      obtain ⟨c1, c2, c3, c4⟩ := hall
      have c5 : g < 4 := by omega
      clear HR hmb c4
      go_wp2_with fail
      go_ret
      exact ⟨by rw [HF.out]; rfl, HB.out⟩
    · have HF : Hid (rightBK L f g = false) := by unfold Hid; rw [HR.out, hmb, decide_eq_false hall]; rfl
      clear HR hmb
      by_cases c1 : 0 ≤ f
      · by_cases c2 : f ≤ 1099511627776
        · by_cases c3 : 0 ≤ g
          · by_cases c4 : g < 4
            · exfalso; exact hall ⟨c1, c2, c3, by omega⟩
            · have d4 : decide (g < 4) = false := decide_eq_false c4
              clear hall
              go_wp2_with fail
              go_ret
              exact ⟨by rw [HF.out]; first | rfl | (exact ret_bool (by assumption)), HB.out⟩
          · have d3 : decide (0 ≤ g) = false := decide_eq_false c3
            clear hall
            go_wp2_with fail
            go_ret
            exact ⟨by rw [HF.out]; first | rfl | (exact ret_bool (by assumption)), HB.out⟩
        · have d2 : decide (f ≤ 1099511627776) = false := decide_eq_false c2
          clear hall
          go_wp2_with fail
          go_ret
          exact ⟨by rw [HF.out]; first | rfl | (exact ret_bool (by assumption)), HB.out⟩
      · have d1 : decide (0 ≤ f) = false := decide_eq_false c1
        clear hall
        go_wp2_with fail
        go_ret
        exact ⟨by rw [HF.out]; first | rfl | (exact ret_bool (by assumption)), HB.out⟩
end Go.Proofs.YthicmbjiblbcmaaGreat

/- The contract of code.Short: a number, short. -/
namespace Go.Proofs.YthicmbjiblbcmaaGreat
open Go.RowKit

theorem bc_of {n : Nat} (h : n < 256) : bc (UInt8.ofNat n) = .int .u8 (n : Int) := by
  unfold bc
  have : (UInt8.ofNat n).toNat = n := by simp [UInt8.toNat_ofNat']; omega
  rw [this]
end Go.Proofs.YthicmbjiblbcmaaGreat

/- The contract of code.ReadShort. -/
namespace Go.Proofs.YthicmbjiblbcmaaGreat
open Go.RowKit

theorem jump_ret {l : Nat} {J : Act → World → Prop} {Q : Exit → Act → World → Prop} {a : Act} {w : World} : Exit.jump l J Q .ret a w = Q .ret a w := rfl
end Go.Proofs.YthicmbjiblbcmaaGreat
