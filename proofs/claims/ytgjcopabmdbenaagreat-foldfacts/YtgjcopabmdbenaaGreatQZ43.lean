/- FL20, joined. -/
import Derived.Test.YtgjcopabmdbenaaGreatQZ42
/- The contract of slices.SortStableFunc of any number of items. -/
namespace Go.Proofs.YtgjcopabmdbenaaGreat
open Go.RowKit Go.Shelf

set_option maxRecDepth 100000 in
set_option maxHeartbeats 8000000 in
theorem stable_any (w : World) (base g n cap : Nat) (its0 its : List It) (W : World) (h : PmI w base g n cap its0 its W) (hn : n ≤ 100000) :
    Calls Tryz.prog 32 #[.slice (some ⟨g, 0, none⟩) n cap, .int .i64 (n : Int), .func (.func 17) #[] #[]] W (IsPost w base g n cap its0) := by
  have HIN : Hid (∀ (its : List It) (W : World) (a b : Nat), PmI w base g n cap its0 its W → a ≤ n → b ≤ n → Calls Tryz.prog 54 #[.slice (some ⟨g, 0, none⟩) n cap, .int .i64 (a : Int), .int .i64 (b : Int), .func (.func 17) #[] #[]] W (IsPost w base g n cap its0)) := fun its W a b hp ha hb => insSort_any w base g n cap its0 its W hp hn a b ha hb
  have HSY : Hid (∀ (a m b : Nat) (its : List It) (W : World), a < m → m < b → b ≤ n → PmI w base g n cap its0 its W → SyC w base g n cap its0 a m b W) := fun a m b its W h1 h2 h3 h4 => sym_any w base g n cap its0 hn (b - a) a m b its W (Nat.le_refl _) h1 h2 h3 h4
  have HI0 : Hid (PmI w base g n cap its0 its W) := h
  clear h
  go_enter Tryz.func32, Tryz.ntmps32
  go_wp2_with fail
  go_loopw [7, 8] (fun av bv wr => ∃ (a : Nat) (l : List It), av = .int .i64 (a : Int) ∧ bv = .int .i64 ((a : Int) + 20) ∧ a ≤ n ∧ Hid (PmI w base g n cap its0 l wr)) (fun av _ _ => n - (intOf av).toNat)
  case atStart => exact ⟨0, its, rfl, rfl, by omega, HI0⟩
  case round =>
    clear HI0
    obtain ⟨a, l, rfl, rfl, ha, HI⟩ := hrel
    by_cases hlt : a + 20 ≤ n
    · go_wp2_with fail
      refine (HIN.out l _ a (a + 20) HI.out ha hlt).mono ?_
      rintro e w2 ⟨⟨v, rfl⟩, l2, hl2⟩
      have HI2 : Hid _ := hl2
      clear hl2
      go_wp2_with fail
      go_roundw
      case rel => exact ⟨a + 20, l2, by go_num, by go_num, by omega, HI2⟩
      case measure => simp [intOf]; omega
    · go_wp2_with fail
      refine (HIN.out l _ a n HI.out ha (Nat.le_refl _)).mono ?_
      rintro e w2 ⟨⟨v, rfl⟩, l2, hl2⟩
      have HI2 : Hid _ := hl2
      clear hl2
      go_wp2_with fail
      go_loopw [6, 7, 8] (fun sv av bv wr => ∃ (s a2 b2 : Nat) (l : List It), sv = .int .i64 (s : Int) ∧ av = .int .i64 (a2 : Int) ∧ bv = .int .i64 (b2 : Int) ∧ 1 ≤ s ∧ s ≤ 200000 ∧ Hid (PmI w base g n cap its0 l wr)) (fun sv _ _ _ => n - (intOf sv).toNat)
      case atStart => exact ⟨20, a, a + 20, l2, rfl, rfl, by go_num, by omega, by omega, HI2⟩
      case round =>
        clear HI2 HI
        obtain ⟨s, a2, b2, l, rfl, rfl, rfl, hs1, hs2, HI⟩ := hrel
        by_cases hsn : s < n
        · go_wp2_with fail
          go_loopw [7, 8] (fun av bv wq => ∃ (a : Nat) (l : List It), av = .int .i64 (a : Int) ∧ bv = .int .i64 ((a : Int) + 2 * (s : Int)) ∧ a ≤ n ∧ Hid (PmI w base g n cap its0 l wq)) (fun av _ _ => n - (intOf av).toNat)
          case atStart => exact ⟨0, l, rfl, by go_num, by omega, HI⟩
          case round =>
            clear HI
            obtain ⟨c, l, rfl, rfl, hc, HI⟩ := hrel
            by_cases hcn : c + 2 * s ≤ n
            · go_wp2_with fail
              refine (HSY.out c (c + s) (c + 2 * s) l _ (by omega) (by omega) hcn HI.out).mono ?_
              rintro e w3 ⟨⟨v, rfl⟩, l3, hl3⟩
              have HI3 : Hid _ := hl3
              clear hl3
              go_wp2_with fail
              go_roundw
              case rel => exact ⟨c + 2 * s, l3, by go_num, by go_num, by omega, HI3⟩
              case measure => simp [intOf]; omega
            · by_cases hm : c + s < n
              · go_wp2_with fail
                refine (HSY.out c (c + s) n l _ (by omega) hm (Nat.le_refl _) HI.out).mono ?_
                rintro e w3 ⟨⟨v, rfl⟩, l3, hl3⟩
                have HI3 : Hid _ := hl3
                clear hl3
                go_wp2_with fail
                go_roundw
                case rel => exact ⟨2 * s, c, c + 2 * s, l3, by go_num, rfl, by go_num, by omega, by omega, HI3⟩
                case measure => simp [intOf]; omega
              · go_wp2_with fail
                go_roundw
                case rel => exact ⟨2 * s, c, c + 2 * s, l, by go_num, rfl, by go_num, by omega, by omega, HI⟩
                case measure => simp [intOf]; omega
        · have HE : Hid (IsPost w base g n cap its0 (.returned (.tuple #[])) _) := ⟨⟨_, rfl⟩, l, HI.out⟩
          clear HI
          go_wp2_with fail
          exact bodyPost_end (results_none rfl _ _ _) rfl HE.out
theorem sorts_all (n : Nat) (hn : n ≤ 100000) : Sorts n := sorts_of n fun w base g cap its0 its W h => stable_any w base g n cap its0 its W h hn
end Go.Proofs.YtgjcopabmdbenaaGreat
