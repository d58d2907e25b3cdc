/- Whether lists are too long; a filter that no call made. -/
import Derived.Test.YtgdjjpnejdedhaaB6
import Derived.Test.YtgdjjpnejdedhaaLR
namespace Go.Proofs.Ytgdjjpnejdedhaa
open Go.RowKit

def lgF (L : List (List UInt8)) : Bool := decide (100 < L.length) || L.any fun l => decide (300 < l.length)
theorem lg_no {L : List (List UInt8)} (h : lgF L = false) : L.length ≤ 100 ∧ ∀ l ∈ L, l.length ≤ 300 := by
  unfold lgF at h
  simp only [Bool.or_eq_false_iff, decide_eq_false_iff_not, List.any_eq_false, decide_eq_true_eq] at h
  exact ⟨by omega, fun l hl => by have := h.2 l hl; omega⟩
set_option maxRecDepth 100000 in
set_option maxHeartbeats 1000000 in
theorem long_any (v : Value) (L : List (List UInt8)) (w : World) (hL : LReads w v L) : Calls Try.prog 9 #[v] w fun e w' => e = .returned (.bool (lgF L)) ∧ w' = w := by
  obtain ⟨a, cap, rfl, hcap, hm, hL3⟩ := hL
  unfold maxLen at hm
  by_cases g : 100 < L.length
  · have g' : (100 : Int) < (L.length : Int) := by omega
    have e : lgF L = true := by unfold lgF; simp [g]
    rw [e]
    clear hL3 e
    go_enter Try.func9, Try.ntmps9
    go_wp2_with fail
    go_ret
    exact ⟨rfl, rfl⟩
  · have g' : ¬ (100 : Int) < (L.length : Int) := by omega
    have HL3 : Hid _ := hL3
    clear hL3
    go_enter Try.func9, Try.ntmps9
    go_wp2_with fail
    go_loop [3] (fun i => ∃ k : Nat, k ≤ L.length ∧ i = .int .i64 (k : Int) ∧ Hid (∀ l ∈ L.take k, l.length ≤ 300)) (fun i => L.length - (intOf i).toNat)
    case atStart => exact ⟨0, by omega, rfl, fun l hl => by simp at hl⟩
    case round =>
      obtain ⟨k, hk, rfl, HS⟩ := hrel
      by_cases hlt : k < L.length
      · obtain ⟨bA, oA, rfl, hbA, hA⟩ := HL3.out.resolve_left (fun h => by rw [h] at hlt; simp at hlt)
        obtain ⟨vx, hx1, hx2⟩ := hA k hlt
        obtain ⟨X, HX⟩ := hid_ex L[k]
        rw [← HX.out] at hx2
        obtain ⟨ax, cx, rfl, _⟩ := hx2.form
        clear hA hx2
        by_cases gX : (300 : Int) < (X.length : Int)
        · have HE : Hid (lgF L = true) := by
            unfold Hid lgF
            rw [List.any_eq_true.2 ⟨L[k], List.getElem_mem hlt, by rw [← HX.out]; simp; omega⟩]; simp
          clear HS HX
          go_wp2_with fail
          go_ret
          exact ⟨by rw [HE.out]; rfl, rfl⟩
        · have HS2 : Hid (∀ l ∈ L.take (k + 1), l.length ≤ 300) := by
            intro l hl
            rw [List.take_add_one, List.getElem?_eq_getElem hlt] at hl
            rcases List.mem_append.1 hl with hl | hl
            · exact HS.out l hl
            · simp at hl; subst hl; rw [← HX.out]; omega
          clear HS HX
          go_wp2_with fail
          go_round
          case rel => exact ⟨k + 1, by omega, by go_num, HS2⟩
          case measure => simp [intOf]; omega
      · have HE : Hid (lgF L = false) := by
          have hke : k = L.length := by omega
          have h := HS.out
          rw [hke, List.take_length] at h
          unfold Hid lgF
          rw [List.any_eq_false.2 (fun l hl => by simp; exact h l hl)]; simp; omega
        clear HS
        go_wp2_with fail
        go_ret
        exact ⟨by rw [HE.out]; rfl, rfl⟩
theorem made_nil (w : World) : Calls Try.prog 24 #[.pointer none] w fun e w' => e = .returned (.bool false) ∧ w' = w := by
  go_enter Try.func24, Try.ntmps24
  go_wp2_with fail
  go_ret
  exact ⟨rfl, rfl⟩
theorem made_zero (w : World) (B : Nat) (c0 : w.cell? ⟨B, 0, none⟩ = some (.int .i64 0)) : Calls Try.prog 24 #[.pointer (some ⟨B, 0, none⟩)] w fun e w' => e = .returned (.bool false) ∧ w' = w := by
  go_enter Try.func24, Try.ntmps24
  go_wp2_with fail
  go_ret
  exact ⟨rfl, rfl⟩
/-- No filter, or one that no call made. -/
def NoF (w : World) (p : Option Addr) : Prop := p = none ∨ ∃ B, p = some ⟨B, 0, none⟩ ∧ B < w.heap.size ∧ w.cell? ⟨B, 0, none⟩ = some (.int .i64 0)
theorem NoF.below {w w' : World} {p : Option Addr} (h : NoF w p) (hb : Below w.heap.size w w') : NoF w' p := by
  rcases h with h | ⟨B, h1, h2, h3⟩
  · exact .inl h
  · exact .inr ⟨B, h1, Nat.lt_of_lt_of_le h2 hb.size, (hb.cell (p := ⟨B, 0, none⟩) h2).trans h3⟩
theorem made_no {w : World} {p : Option Addr} (h : NoF w p) : Calls Try.prog 24 #[.pointer p] w fun e w' => e = .returned (.bool false) ∧ w' = w := by
  rcases h with rfl | ⟨B, rfl, _, h3⟩
  · exact made_nil w
  · exact made_zero w B h3
theorem add_no (p : Option Addr) (a : Option Addr) (len cap : Nat) (w : World) (h : NoF w p) : Calls Try.prog 13 #[.pointer p, .slice a len cap] w fun e w' => e = .returned (.int .i64 6) ∧ Below w.heap.size w w' := by
  have HN : Hid (NoF (w.alloc (.cells #[.pointer p] 25)) p) := h.below ((Below.refl _ _).alloc (Nat.le_refl _) _)
  have HB : Hid (Below w.heap.size w (w.alloc (.cells #[.pointer p] 25))) := (Below.refl _ _).alloc (Nat.le_refl _) _
  go_enter Try.func13, Try.ntmps13
  go_wp2_with fail
  refine (made_no HN.out).mono ?_
  rintro e w' ⟨rfl, hw⟩
  subst w'
  go_wp2_with fail
  go_ret
  exact ⟨rfl, HB.out⟩
theorem may_no (p : Option Addr) (a : Option Addr) (len cap : Nat) (w : World) (h : NoF w p) : Calls Try.prog 15 #[.pointer p, .slice a len cap] w fun e w' => e = .returned (.bool true) ∧ Below w.heap.size w w' := by
  have hb1 := ((Below.refl w.heap.size w).alloc (Nat.le_refl _) (.cells #[.pointer p] 25)).alloc (by simp) (.cells #[.bool false] 4)
  have HN : Hid (NoF ((w.alloc (.cells #[.pointer p] 25)).alloc (.cells #[.bool false] 4)) p) := h.below hb1
  clear hb1
  go_enter Try.func15, Try.ntmps15
  go_wp2_with fail
  refine (made_no HN.out).mono ?_
  rintro e w' ⟨rfl, hw⟩
  subst w'
  go_wp2_with fail
  have hbx := Boxed.new (w.alloc (.cells #[.pointer p] 25)) 4 (.bool true)
  rw [World.size_alloc] at hbx
  exact bodyPost_ret (results_box rfl _ _ ⟨w.heap.size + 1, 0, none⟩ (.bool true) rfl hbx.cell (by simp [isAgg, go_sem])) rfl ⟨rfl, ((Below.refl w.heap.size w).alloc (Nat.le_refl _) _).alloc (by simp) _⟩
theorem write_no (p : Option Addr) (w : World) (h : NoF w p) : Calls Try.prog 17 #[.pointer p] w fun e w' => e = .returned (.tuple #[.slice none 0 0, .int .i64 6]) ∧ w' = w := by
  have HN : Hid (NoF w p) := h
  clear h
  go_enter Try.func17, Try.ntmps17
  go_wp2_with fail
  refine (made_no HN.out).mono ?_
  rintro e w' ⟨rfl, hw⟩
  subst w'
  go_wp2_with fail
  go_ret2
  exact ⟨rfl, rfl⟩
end Go.Proofs.Ytgdjjpnejdedhaa
