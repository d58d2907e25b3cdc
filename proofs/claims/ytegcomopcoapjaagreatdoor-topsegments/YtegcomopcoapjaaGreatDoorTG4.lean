/- CM SHp K0 K1 K2, joined. -/
import Derived.Test.YtegcomopcoapjaaGreatDoorTG1
import Derived.Test.YtegcomopcoapjaaGreatDoorTG3
import Derived.SliceStrings
import Derived.Lib.SmallJoins
import Derived.OpenShut
import Derived.ProofKit
/- Texts and numbers go there and back: no program in sight. -/
namespace Go.Proofs.YtegcomopcoapjaaGreatDoor

theorem rtF_step {x : UInt8} (t acc : List UInt8) (i : Nat) (hx : ¬ x.toNat = 0) (ht : t ≠ []) : rtF (x :: t) acc i = rtF t (acc ++ [x]) (i + 1) := by
  cases t with
  | nil => exact absurd rfl ht
  | cons y t => rw [rtF_cons2, if_neg hx]
theorem rtF_tx (s : List UInt8) : ∀ (m acc : List UInt8) i, rtF (txb s ++ 0 :: 1 :: m) acc i = (acc ++ s, i + (tx s).length, 0) := by
  induction s with
  | nil =>
    intro m acc i
    show rtF (0 :: 1 :: m) acc i = _
    rw [rtF_cons2, if_pos (by decide), if_neg (by decide), if_pos (by decide)]
    simp [tx, txb]
  | cons x s ih =>
    intro m acc i
    have hlen : (tx (x :: s)).length = (if x.toNat = 0 then 2 else 1) + (tx s).length := by
      unfold tx
      by_cases hx : x.toNat = 0
      · rw [txb_cons0 s hx, if_pos hx]; simp; omega
      · rw [txb_cons1 s hx, if_neg hx]; simp; omega
    by_cases hx : x.toNat = 0
    · rw [hlen, if_pos hx, txb_cons0 s hx]
      have ex : x = 0 := by rw [← u8_of hx]; rfl
      show rtF (0 :: 255 :: (txb s ++ 0 :: 1 :: m)) acc i = _
      rw [rtF_cons2, if_pos (by decide), if_pos (by decide), ih, ex]
      simp; omega
    · rw [hlen, if_neg hx, txb_cons1 s hx]
      show rtF (x :: (txb s ++ 0 :: 1 :: m)) acc i = _
      rw [rtF_step _ _ _ hx (by simp), ih]
      simp; omega
theorem foldl_bv (l : List UInt8) : ∀ p : Int, (l.map fun x => (x.toNat : Int)).foldl (fun n x => n * 256 + x) p = p * 256 ^ l.length + (bv l : Int) := by
  induction l with
  | nil => intro p; simp [bv]
  | cons x l ih =>
    intro p
    simp only [List.map_cons, List.foldl_cons]
    rw [ih]
    simp only [bv, List.length_cons]
    have e1 : (((x.toNat * 256 ^ l.length + bv l : Nat)) : Int) = (x.toNat : Int) * 256 ^ l.length + (bv l : Int) := by
      rw [Int.natCast_add, Int.natCast_mul, Int.natCast_pow]; rfl
    rw [e1, Int.pow_succ, Int.add_mul, Int.mul_assoc, Int.mul_comm 256 (256 ^ l.length)]
    omega
theorem rnF_nb (n : Int) (h1 : -9223372036854775808 ≤ n) (h2 : n ≤ 9223372036854775807) (m : List UInt8) : rnF (nb n ++ m) = (n, 8, 0) := by
  have hl := nb_len n
  unfold rnF
  rw [if_neg (by simp; omega)]
  have ht : (nb n ++ m).take 8 = nb n := by rw [List.take_append_of_le_length (by omega), List.take_of_length_le (by omega)]
  rw [ht]
  have hb := foldl_bv (nb n) 0
  have e : beval ((nb n).map fun x => (x.toNat : Int)) = (bv (nb n) : Int) := by
    unfold beval; rw [hb]; simp
  rw [e, bv_nb n h1 h2]
  congr 1
  omega
end Go.Proofs.YtegcomopcoapjaaGreatDoor

/- Short numbers: what is written is read, and what is read is written so. -/
namespace Go.Proofs.YtegcomopcoapjaaGreatDoor
open Go.RowKit

theorem rsF_sh (u : Nat) : ∀ (m : List UInt8) i v, v < 128 ^ i → v + 128 ^ i * u < 18446744073709551616 → (0 < i → 0 < u) → rsF (sh u ++ m) i v = (v + 128 ^ i * u, i + (sh u).length, 0) := by
  induction u using Nat.strongRecOn with
  | _ u ih =>
    intro m i v hv hlt hpos
    have f : ∀ k : Nat, k < 256 → (UInt8.ofNat k).toNat = k := fun k hk => by simp [UInt8.toNat_ofNat']; omega
    by_cases h : u < 128
    · rw [sh_lo h]
      show rsF (UInt8.ofNat u :: m) i v = _
      rw [rsF_cons, f u (by omega)]
      have h9 : ¬ (i = 9 ∧ 1 < u) := by
        rintro ⟨rfl, h1⟩
        have h2 : 128 ^ 9 * 2 ≤ 128 ^ 9 * u := Nat.mul_le_mul_left _ h1
        have e : (128 : Nat) ^ 9 * 2 = 18446744073709551616 := by decide
        omega
      rw [if_neg h9, if_neg (by omega), if_neg (by omega), Nat.mod_eq_of_lt h, Nat.mul_comm u]
      rfl
    · rw [sh_hi h]
      show rsF (UInt8.ofNat (u % 128 + 128) :: (sh (u / 128) ++ m)) i v = _
      rw [rsF_cons, f _ (by omega)]
      have hp : 128 ^ (i + 1) = 128 * 128 ^ i := by rw [Nat.pow_succ, Nat.mul_comm]
      have h9 : ¬ (i = 9 ∧ 1 < u % 128 + 128) := by
        rintro ⟨rfl, _⟩
        have h2 : 128 ^ 9 * 128 ≤ 128 ^ 9 * u := Nat.mul_le_mul_left _ (by omega)
        have e : (128 : Nat) ^ 9 * 2 = 18446744073709551616 := by decide
        omega
      have em : (u % 128 + 128) % 128 = u % 128 := by omega
      rw [if_neg h9, if_pos (by omega), em]
      have hsum : v + u % 128 * 128 ^ i + 128 ^ (i + 1) * (u / 128) = v + 128 ^ i * u := by
        have e1 : u = u % 128 + 128 * (u / 128) := by omega
        have e2 : 128 ^ i * u = 128 ^ i * (u % 128) + 128 ^ i * (128 * (u / 128)) := by rw [← Nat.mul_add, ← e1]
        have e3 : 128 ^ (i + 1) * (u / 128) = 128 ^ i * (128 * (u / 128)) := by rw [Nat.pow_succ, Nat.mul_assoc]
        rw [e2, e3, Nat.mul_comm (u % 128)]; omega
      have h1 : u % 128 * 128 ^ i ≤ 127 * 128 ^ i := Nat.mul_le_mul_right _ (by omega)
      rw [ih (u / 128) (by omega) m (i + 1) (v + u % 128 * 128 ^ i) (by rw [hp]; generalize 128 ^ i = q at *; omega) (by rw [hsum]; exact hlt) (fun _ => by omega), hsum]
      simp; omega
end Go.Proofs.YtegcomopcoapjaaGreatDoor

/- Texts that a slice reads, whoever made it; keys as arguments. -/
namespace Go.Proofs.YtegcomopcoapjaaGreatDoor
open Go.ChangeShapes Go.WideShapes Go.ChangeAt Go.RowKit Go.Joins

/-- A slice value reads these texts. -/
def SReads (w : World) (v : Value) (L : List ByteArray) : Prop :=
  (L = [] ∧ ∃ a cap, v = .slice a 0 cap ∧ (a = none → cap = 0)) ∨
  ∃ b off cap, v = .slice (some ⟨b, off, none⟩) L.length cap ∧ 0 < L.length ∧ L.length ≤ cap ∧ cap ≤ maxLen ∧ b < w.heap.size ∧ (∀ j (h : j < L.length), w.cell? ⟨b, off + j, none⟩ = some (.string L[j])) ∧ ∀ s ∈ L, s.size ≤ maxLen
theorem SReads.below {w w' : World} {v : Value} {L : List ByteArray} (h : SReads w v L) (hb : Below w.heap.size w w') : SReads w' v L := by
  rcases h with h | ⟨b, off, cap, h1, h2, h3, h4, h5, h6, h7⟩
  · exact .inl h
  · have := hb.size
    exact .inr ⟨b, off, cap, h1, h2, h3, h4, by omega, fun j hj => (hb.cell (p := ⟨b, off + j, none⟩) h5).trans (h6 j hj), h7⟩
theorem SReads.form {w : World} {v : Value} {L : List ByteArray} (h : SReads w v L) : ∃ a cap, v = .slice a L.length cap ∧ L.length ≤ maxLen := by
  rcases h with ⟨rfl, a, cap, h, _⟩ | ⟨b, off, cap, h1, h2, h3, h4, h5, h6, h7⟩
  · exact ⟨a, cap, h, by simp⟩
  · exact ⟨_, cap, h1, by omega⟩
theorem SReads.at {w : World} {a : Option Addr} {n cap : Nat} {L : List ByteArray} (h : SReads w (.slice a n cap) L) (j : Nat) (hj : j < L.length) : ∃ b off, a = some ⟨b, off, none⟩ ∧ b < w.heap.size ∧ w.cell? ⟨b, off + j, none⟩ = some (.string L[j]) := by
  rcases h with ⟨rfl, _⟩ | ⟨b, off, cap', hv, h2, h3, h4, h5, h6, h7⟩
  · simp at hj
  · simp at hv
    exact ⟨b, off, hv.1, h5, h6 j hj⟩
theorem SReads.size {w : World} {v : Value} {L : List ByteArray} (h : SReads w v L) : ∀ s ∈ L, s.size ≤ maxLen := by
  rcases h with ⟨rfl, _⟩ | ⟨_, _, _, _, _, _, _, _, _, h7⟩
  · intro s hs; simp at hs
  · exact h7
theorem openS' {H : Type} {enc : TypeId × Value → H} {W : World} {base : Nat} {spare : Nat → Bool} {held : Bool} {v : Value} {x : DataW H × List MemPlace} {fuel : Nat}
    (h : DataW.trod enc Tryz.prog W base spare held fuel 51 [v] = some x) : ∃ L : List ByteArray, SReads W v L := by
  rcases open_strings Tryz.underlying51 Tryz.underlying9 (by kernel_rfl) h with ⟨hcs, _⟩ | ⟨a, len, cap, ss, hcs, _, hl, hm, hz, _, hcell, hwz⟩
  · simp at hcs
    subst hcs
    exact ⟨[], .inl ⟨rfl, _, _, rfl, fun _ => rfl⟩⟩
  · simp at hcs
    subst hcs
    have hzl : len ≤ ss.length := by rw [hz]; split <;> omega
    rcases Nat.eq_zero_or_pos len with h0 | h0
    · subst h0; exact ⟨[], .inl ⟨rfl, _, _, rfl, fun h => by cases h⟩⟩
    · have hlen : (ss.take len).length = len := by simp; omega
      have c0 := hcell 0 (by omega)
      have e0 : a.add 0 = a := by simp [Addr.add]
      rw [e0] at c0
      obtain ⟨hb, hs⟩ := cell_block c0
      obtain ⟨b, off, spot⟩ := a
      simp only at hb hs
      subst hs
      refine ⟨ss.take len, .inr ⟨b, off, cap, by rw [hlen], by omega, by omega, hm, hb, fun j hj => ?_, fun s hs => hwz s (List.mem_of_mem_take hs)⟩⟩
      have hj' : j < len := by omega
      have cj := hcell j (by omega)
      have ea : (⟨b, off, none⟩ : Addr).add j = ⟨b, off + j, none⟩ := by simp [Addr.add]
      rw [ea] at cj
      rw [cj]
      have hzj : j < ss.length := by omega
      simp [List.getD, hzj]
set_option maxRecDepth 100000 in
theorem openS {H : Type} {enc : TypeId × Value → H} {W : World} {r : Reach} {b0 base : Nat} {spare : Nat → Bool} {held : Bool} {v : Value} {d : DataW H} {p : List MemPlace}
    (hv : Value.okWide Tryz.prog W r b0 51 v) (h : DataW.Trod enc Tryz.prog W base spare held 51 v d p) : ∃ L : List ByteArray, SReads W v L := by
  obtain ⟨a, len, cap, rfl⟩ := okWide_slice Tryz.underlying51 hv
  obtain ⟨fuel, hf⟩ := h
  exact openS' (fuel := fuel) (by simpa [Value.cells] using hf)
/-- A key: its dimensions' slice, when it begins, how coarse it is. -/
structure Ky where
  v : Value
  L : List ByteArray
  f : Int
  g : Int
def Ky.val (k : Ky) : Value := .agg #[k.v, .int .i64 k.f, .int .i64 k.g]
/-- It lies there. -/
structure KLies (k : Ky) (w : World) : Prop where
  r : SReads w k.v k.L
  f1 : -9223372036854775808 ≤ k.f
  f2 : k.f ≤ 9223372036854775807
  g1 : -9223372036854775808 ≤ k.g
  g2 : k.g ≤ 9223372036854775807
theorem KLies.below {k : Ky} {w w' : World} (h : KLies k w) (hb : Below w.heap.size w w') : KLies k w' := ⟨h.r.below hb, h.f1, h.f2, h.g1, h.g2⟩
set_option maxRecDepth 100000 in
theorem openK {H : Type} {enc : TypeId × Value → H} {W : World} {r : Reach} {b0 base : Nat} {spare : Nat → Bool} {held : Bool} {v : Value} {d : DataW H} {p : List MemPlace}
    (hv : Value.okWide Tryz.prog W r b0 149 v) (h : DataW.Trod enc Tryz.prog W base spare held 149 v d p) :
    ∃ k : Ky, v = k.val ∧ KLies k W := by
  obtain ⟨v0, v1, v2, y0, y1, y2, n, rfl, _, _, h0, h1, h2⟩ := open_agg3 Tryz.underlying149 (by kernel_rfl) (by kernel_rfl) hv h
  obtain ⟨f, e1, _, w1⟩ := DataW.trod_int Tryz.underlying2 h1
  obtain ⟨g, e2, _, w2⟩ := DataW.trod_int Tryz.underlying3 h2
  simp at e1 e2
  subst e1 e2
  obtain ⟨L, hL⟩ := openS' h0
  have b1 := bounds_i64 w1
  have b2 := bounds_i64 w2
  exact ⟨⟨v0, L, f, g⟩, rfl, hL, b1.1, b1.2, b2.1, b2.2⟩
end Go.Proofs.YtegcomopcoapjaaGreatDoor

/- The contracts of key.mayBe and key.Right. -/
namespace Go.Proofs.YtegcomopcoapjaaGreatDoor
open Go.RowKit

/-- May a key with these dimensions be? -/
def mayB (L : List ByteArray) : Bool := decide (L.length ≤ 4 ∧ ∀ s ∈ L, s.size ≤ 16)
theorem mayB_iff {L : List ByteArray} : mayB L = true ↔ L.length ≤ 4 ∧ ∀ s ∈ L, s.size ≤ 16 := by unfold mayB; exact decide_eq_true_iff
theorem mayB_no {L : List ByteArray} (h : ¬ (L.length ≤ 4 ∧ ∀ s ∈ L, s.size ≤ 16)) : mayB L = false := by unfold mayB; exact decide_eq_false h
theorem ret_bool {a b : Bool} (h : a = b) : Ending.returned (.bool a) = .returned (.bool b) := by rw [h]
def rightB (L : List ByteArray) (f g : Int) : Bool := mayB L && decide (0 ≤ f ∧ f ≤ 1099511627776 ∧ 0 ≤ g ∧ g ≤ 3)
set_option maxRecDepth 100000 in
set_option maxHeartbeats 1000000 in
theorem mayBe_some (b off cap : Nat) (L : List ByteArray) (hl : L.length ≤ maxLen) (hs : ∀ s ∈ L, s.size ≤ maxLen) (w : World) (hc : ∀ j (h : j < L.length), w.cell? ⟨b, off + j, none⟩ = some (.string L[j])) :
    Calls Tryz.prog 105 #[.slice (some ⟨b, off, none⟩) L.length cap] w fun e w' => e = .returned (.bool (mayB L)) ∧ w' = w := by
  have HC : Hid (∀ j (h : j < L.length), w.cell? ⟨b, off + j, none⟩ = some (.string L[j])) := hc
  have HS : Hid (∀ s ∈ L, s.size ≤ maxLen) := hs
  unfold maxLen at hl
  clear hc hs
  by_cases h4 : 4 < L.length
  · have HM : Hid (mayB L = false) := mayB_no (by omega)
    have i1 : (4 : Int) < (L.length : Int) := by omega
    clear h4
    go_enter Tryz.func105, Tryz.ntmps105
    go_wp2_with fail
    go_ret
    exact ⟨by rw [HM.out]; rfl, rfl⟩
  · have i1 : ¬ (4 : Int) < (L.length : Int) := by omega
    go_enter Tryz.func105, Tryz.ntmps105
    go_wp2_with fail
    go_loop [10] (fun i => ∃ k : Nat, k ≤ L.length ∧ i = .int .i64 k ∧ Hid (∀ s ∈ L.take k, s.size ≤ 16)) (fun i => L.length - (intOf i).toNat)
    case atStart => exact ⟨0, Nat.zero_le _, rfl, by intro s hs; simp at hs⟩
    case round =>
      obtain ⟨k, hk, rfl, HK⟩ := hrel
      by_cases hlt : k < L.length
      · have hcell := HC.out k hlt
        have hsz : L[k].size ≤ maxLen := HS.out _ (List.getElem_mem hlt)
        unfold maxLen at hsz
        by_cases h16 : 16 < L[k].size
        · have HM : Hid (mayB L = false) := mayB_no (by intro h; have := h.2 _ (List.getElem_mem hlt); omega)
          have i2 : (16 : Int) < (L[k].size : Int) := by omega
          go_wp2_with fail
          go_ret
          exact ⟨by rw [HM.out]; rfl, rfl⟩
        · have i2 : ¬ (16 : Int) < (L[k].size : Int) := by omega
          have HK1 : Hid (∀ s ∈ L.take (k + 1), s.size ≤ 16) := by
            intro s hs
            rw [List.take_succ_eq_append_getElem hlt] at hs
            rcases List.mem_append.1 hs with hs | hs
            · exact HK.out s hs
            · simp at hs; subst hs; omega
          go_wp2_with fail
          go_round
          case rel => exact ⟨k + 1, by omega, by go_num, HK1⟩
          case measure => simp [intOf]; omega
      · have HM : Hid (mayB L = true) := by
          refine mayB_iff.2 ⟨by omega, ?_⟩
          have := HK.out
          rwa [List.take_of_length_le (by omega)] at this
        go_wp2_with fail
        go_ret
        exact ⟨by rw [HM.out]; rfl, rfl⟩
theorem mayBe_none (a : Option Addr) (cap : Nat) (w : World) :
    Calls Tryz.prog 105 #[.slice a 0 cap] w fun e w' => e = .returned (.bool (mayB [])) ∧ w' = w := by
  go_enter Tryz.func105, Tryz.ntmps105
  go_wp2_with fail
  go_loop [10] (fun i => i = .int .i64 0) (fun _ => 0)
  case atStart => rfl
  case round =>
    subst hrel
    go_wp2_with fail
    go_ret
    exact ⟨rfl, rfl⟩
theorem mayBe_any (v : Value) (L : List ByteArray) (w : World) (h : SReads w v L) :
    Calls Tryz.prog 105 #[v] w fun e w' => e = .returned (.bool (mayB L)) ∧ w' = w := by
  rcases h with ⟨rfl, a, cap, rfl, _⟩ | ⟨b, off, cap, rfl, h2, h3, h4, h5, h6, h7⟩
  · exact mayBe_none a cap w
  · exact mayBe_some b off cap L (by omega) h7 w h6
set_option maxRecDepth 100000 in
set_option maxHeartbeats 1000000 in
theorem right_any (k : Ky) (w : World) (h : KLies k w) :
    Calls Tryz.prog 93 #[k.val] w fun e w' => e = .returned (.bool (rightB k.L k.f k.g)) ∧ Below w.heap.size w w' := by
  obtain ⟨v, L, f, g⟩ := k
  obtain ⟨hr, f1, f2, g1, g2⟩ := h
  simp only at hr f1 f2 g1 g2
  obtain ⟨a, cap, rfl, hm⟩ := hr.form
  unfold Ky.val
  simp only
  have hr1 : SReads (w.alloc (.cells #[.slice a L.length cap, .int .i64 f, .int .i64 g] 149)) (.slice a L.length cap) L := hr.below ((Below.refl _ _).alloc (Nat.le_refl _) _)
  have HB : Hid (Below w.heap.size w (w.alloc (.cells #[.slice a L.length cap, .int .i64 f, .int .i64 g] 149))) := (Below.refl _ _).alloc (Nat.le_refl _) _
  have HR : Hid (rightB L f g = (mayB L && decide (0 ≤ f ∧ f ≤ 1099511627776 ∧ 0 ≤ g ∧ g ≤ 3))) := rfl
  clear hr
  go_enter Tryz.func93, Tryz.ntmps93
  go_wp2_with fail
  refine (mayBe_any _ L _ hr1).mono ?_
  rintro e w1 ⟨rfl, hw⟩
  subst w1
  clear hr1
  cases hmb : mayB L with
  | false =>
    have HF : Hid (rightB L f g = false) := by rw [HR.out, hmb]; rfl
    clear hmb
    go_wp2_with fail
    go_ret
    exact ⟨by rw [HF.out]; rfl, HB.out⟩
  | true =>
    by_cases hall : 0 ≤ f ∧ f ≤ 1099511627776 ∧ 0 ≤ g ∧ g ≤ 3
    · have HF : Hid (rightB L f g = true) := by unfold Hid; rw [HR.out, hmb, decide_eq_true hall]; rfl
      obtain ⟨c1, c2, c3, c4⟩ := hall
      have c5 : g < 4 := by omega
      clear HR hmb c4
      go_wp2_with fail
      go_ret
      exact ⟨by rw [HF.out]; rfl, HB.out⟩
    · have HF : Hid (rightB L f g = false) := by unfold Hid; rw [HR.out, hmb, decide_eq_false hall]; rfl
      clear HR hmb
      by_cases c1 : 0 ≤ f
      · by_cases c2 : f ≤ 1099511627776
        · by_cases c3 : 0 ≤ g
          · by_cases c4 : g < 4
            · exfalso; exact hall ⟨c1, c2, c3, by omega⟩
            · have d4 : decide (g < 4) = false := decide_eq_false c4
              clear hall
              go_wp2_with fail
              go_ret
              exact ⟨by rw [HF.out]; first | rfl | (exact ret_bool (by assumption)), HB.out⟩
          · have d3 : decide (0 ≤ g) = false := decide_eq_false c3
            clear hall
            go_wp2_with fail
            go_ret
            exact ⟨by rw [HF.out]; first | rfl | (exact ret_bool (by assumption)), HB.out⟩
        · have d2 : decide (f ≤ 1099511627776) = false := decide_eq_false c2
          clear hall
          go_wp2_with fail
          go_ret
          exact ⟨by rw [HF.out]; first | rfl | (exact ret_bool (by assumption)), HB.out⟩
      · have d1 : decide (0 ≤ f) = false := decide_eq_false c1
        clear hall
        go_wp2_with fail
        go_ret
        exact ⟨by rw [HF.out]; first | rfl | (exact ret_bool (by assumption)), HB.out⟩
end Go.Proofs.YtegcomopcoapjaaGreatDoor

/- The contracts of key.joined and key.Group. -/
namespace Go.Proofs.YtegcomopcoapjaaGreatDoor
open Go.RowKit

/-- The dimensions' bytes, and those of the group. -/
def jb (L : List ByteArray) : List UInt8 := L.flatMap fun s => 1 :: tx s.data.toList
def jn (L : List ByteArray) : List UInt8 := jb L ++ [0]
theorem jb_snoc (L : List ByteArray) (s : ByteArray) : jb (L ++ [s]) = jb L ++ 1 :: tx s.data.toList := by simp [jb]
theorem jb_cons (s : ByteArray) (L : List ByteArray) : jb (s :: L) = 1 :: (tx s.data.toList ++ jb L) := by simp [jb]
theorem tx_len (l : List UInt8) : (tx l).length ≤ 2 * l.length + 2 := by
  have := txb_len l
  unfold tx; simp; omega
theorem jb_len (L : List ByteArray) (h : ∀ s ∈ L, s.size ≤ 16) : (jb L).length ≤ 35 * L.length := by
  induction L with
  | nil => simp [jb]
  | cons s L ih =>
    have h1 := h s (List.mem_cons_self ..)
    have h2 := ih fun t ht => h t (List.mem_cons_of_mem _ ht)
    have h3 := tx_len s.data.toList
    have h4 : s.data.toList.length = s.size := Array.length_toList
    rw [jb_cons]; simp; omega
theorem sread_in {w w' : World} {b off n : Nat} {L : List ByteArray} (hb : Below n w w') (hbn : b < n) (h : ∀ j (h : j < L.length), w.cell? ⟨b, off + j, none⟩ = some (.string L[j])) : ∀ j (h : j < L.length), w'.cell? ⟨b, off + j, none⟩ = some (.string L[j]) := fun j hj => (hb.cell (p := ⟨b, off + j, none⟩) hbn).trans (h j hj)
end Go.Proofs.YtegcomopcoapjaaGreatDoor
