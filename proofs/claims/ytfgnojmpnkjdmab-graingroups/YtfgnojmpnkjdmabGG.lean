/- The walk of GrainGroups. -/
import Derived.Test.YtfgnojmpnkjdmabG8
import Derived.Test.YtfgnojmpnkjdmabOR
namespace Go.Proofs.Ytfgnojmpnkjdmab
open Go.RowKit

theorem has_step (R : Rl) (t wm : Int) : ∃ K, Hid (fE R t wm = 0 → IsStep R t wm K) := by
  by_cases h0 : fE R t wm = 0
  · obtain ⟨K, hK⟩ := step_exists (fE_ok h0).1 t wm; exact ⟨K, fun _ => hK⟩
  · exact ⟨0, fun h => absurd h h0⟩
theorem st_ok {R : Rl} {t w : Int} {K : Nat} (h : fE R t w = 0) : stA R t w K = K := by unfold stA; rw [if_pos h]
theorem bu_ok {R : Rl} {t w : Int} {K : Nat} (h : fE R t w = 0) : buA R t w K = t - t % R.sz K := by unfold buA; rw [if_pos h]

set_option maxRecDepth 100000 in
set_option maxHeartbeats 1000000 in
theorem groups_no (R : Rl) (t u wm lt : Int) (K L : Nat) (HK : Hid (fE R t wm = 0 → IsStep R t wm K)) (HM : Hid (fE R u wm = 0 → IsStep R u wm L)) (w : World) (hL : Lies R w.heap.size w)
    (h : fE R t wm ≠ 0 ∨ fE R u wm ≠ 0 ∨ buA R t wm K ≠ buA R u wm L ∨ stA R t wm K ≠ stA R u wm L ∨ lt < wm) :
    Calls Try.prog 3 #[.agg #[.slice R.a R.len R.cap, .int .i64 R.kp], .int .i64 t, .int .i64 u, .int .i64 wm, .int .i64 lt] w fun e w' => e = .returned (.bool true) ∧ Below w.heap.size w w' := by
  have K1 : Hid (∀ w, Lies R w.heap.size w → Calls Try.prog 5 #[.agg #[.slice R.a R.len R.cap, .int .i64 R.kp], .int .i64 t, .int .i64 wm] w fun e w' => e = .returned (.tuple #[.int .i64 (buA R t wm K), .int .i64 (stA R t wm K), .int .i64 (fE R t wm)]) ∧ Below w.heap.size w w') := fun w h => bucket_any R t wm K HK.out w h
  have K2 : Hid (∀ w, Lies R w.heap.size w → Calls Try.prog 5 #[.agg #[.slice R.a R.len R.cap, .int .i64 R.kp], .int .i64 u, .int .i64 wm] w fun e w' => e = .returned (.tuple #[.int .i64 (buA R u wm L), .int .i64 (stA R u wm L), .int .i64 (fE R u wm)]) ∧ Below w.heap.size w w') := fun w h => bucket_any R u wm L HM.out w h
  clear HK HM
  generalize fE R t wm = e1 at *
  generalize fE R u wm = e2 at *
  generalize buA R t wm K = a at *
  generalize buA R u wm L = b at *
  generalize stA R t wm K = i at *
  generalize stA R u wm L = k at *
  by_cases h1 : e1 = 0
  · by_cases h2 : e2 = 0
    · by_cases h3 : a = b
      · by_cases h4 : i = k
        · have h5 : lt < wm := by rcases h with h | h | h | h | h; exact absurd h1 h; exact absurd h2 h; exact absurd h3 h; exact absurd h4 h; exact h
          subst h1 h2 h3 h4
          clear h
          have HL : Hid (Lies R w.heap.size w) := hL
          have HB0 : Hid (Below w.heap.size w (w.alloc (.cells #[.slice R.a R.len R.cap, .int .i64 R.kp] 24))) := new_below _ _
          have HX0 : Hid (RBox R w.heap.size (w.alloc (.cells #[.slice R.a R.len R.cap, .int .i64 R.kp] 24))) := RBox.new R w _
          have HL0 : Hid (Lies R (w.alloc (.cells #[.slice R.a R.len R.cap, .int .i64 R.kp] 24)).heap.size (w.alloc (.cells #[.slice R.a R.len R.cap, .int .i64 R.kp] 24))) := HL.out.at HB0.out
          clear hL
          go_enter Try.func3, Try.ntmps3
          go_wp2_with fail
          refine (K1.out _ HL0.out).mono ?_
          rintro e w1 ⟨rfl, hb1⟩
          have HB1 : Hid (Below w.heap.size w w1) := HB0.out.trans (hb1.mono HB0.out.size)
          have HX1 : Hid (RBox R w.heap.size w1) := HX0.out.below hb1
          have HL1 : Hid (Lies R w1.heap.size w1) := HL.out.at HB1.out
          clear hb1
          (try clear c0 c1)
          obtain ⟨_, c0, c1⟩ := HX1.out
          go_wp2_with fail
          refine (K2.out _ HL1.out).mono ?_
          rintro e w2 ⟨rfl, hb2⟩
          have HB2 : Hid (Below w.heap.size w w2) := HB1.out.trans (hb2.mono HB1.out.size)
          have HX2 : Hid (RBox R w.heap.size w2) := HX1.out.below hb2
          have HL2 : Hid (Lies R w2.heap.size w2) := HL.out.at HB2.out
          clear hb2
          (try clear c0 c1)
          obtain ⟨_, c0, c1⟩ := HX2.out
          go_wp2_with fail
          refine (alive_any _).mono ?_
          rintro e w3 ⟨rfl, hb3⟩
          have HB3 : Hid (Below w.heap.size w w3) := HB2.out.trans (hb3.mono HB2.out.size)
          have HX3 : Hid (RBox R w.heap.size w3) := HX2.out.below hb3
          have HL3 : Hid (Lies R w3.heap.size w3) := HL.out.at HB3.out
          clear hb3
          (try clear c0 c1)
          obtain ⟨_, c0, c1⟩ := HX3.out
          go_wp2_with fail
          go_ret
          exact ⟨rfl, HB3.out⟩
        · subst h1 h2 h3
          have g1 : (i == k) = false := by simpa using h4
          have g2 : (i != k) = true := by simpa using h4
          clear h h4
          have HL : Hid (Lies R w.heap.size w) := hL
          have HB0 : Hid (Below w.heap.size w (w.alloc (.cells #[.slice R.a R.len R.cap, .int .i64 R.kp] 24))) := new_below _ _
          have HX0 : Hid (RBox R w.heap.size (w.alloc (.cells #[.slice R.a R.len R.cap, .int .i64 R.kp] 24))) := RBox.new R w _
          have HL0 : Hid (Lies R (w.alloc (.cells #[.slice R.a R.len R.cap, .int .i64 R.kp] 24)).heap.size (w.alloc (.cells #[.slice R.a R.len R.cap, .int .i64 R.kp] 24))) := HL.out.at HB0.out
          clear hL
          go_enter Try.func3, Try.ntmps3
          go_wp2_with fail
          refine (K1.out _ HL0.out).mono ?_
          rintro e w1 ⟨rfl, hb1⟩
          have HB1 : Hid (Below w.heap.size w w1) := HB0.out.trans (hb1.mono HB0.out.size)
          have HX1 : Hid (RBox R w.heap.size w1) := HX0.out.below hb1
          have HL1 : Hid (Lies R w1.heap.size w1) := HL.out.at HB1.out
          clear hb1
          (try clear c0 c1)
          obtain ⟨_, c0, c1⟩ := HX1.out
          go_wp2_with fail
          refine (K2.out _ HL1.out).mono ?_
          rintro e w2 ⟨rfl, hb2⟩
          have HB2 : Hid (Below w.heap.size w w2) := HB1.out.trans (hb2.mono HB1.out.size)
          have HX2 : Hid (RBox R w.heap.size w2) := HX1.out.below hb2
          have HL2 : Hid (Lies R w2.heap.size w2) := HL.out.at HB2.out
          clear hb2
          (try clear c0 c1)
          obtain ⟨_, c0, c1⟩ := HX2.out
          go_wp2_with fail
          refine (alive_any _).mono ?_
          rintro e w3 ⟨rfl, hb3⟩
          have HB3 : Hid (Below w.heap.size w w3) := HB2.out.trans (hb3.mono HB2.out.size)
          have HX3 : Hid (RBox R w.heap.size w3) := HX2.out.below hb3
          have HL3 : Hid (Lies R w3.heap.size w3) := HL.out.at HB3.out
          clear hb3
          (try clear c0 c1)
          obtain ⟨_, c0, c1⟩ := HX3.out
          go_wp2_with fail
          go_ret
          exact ⟨rfl, HB3.out⟩
      · subst h1 h2
        have g1 : (a == b) = false := by simpa using h3
        have g2 : (a != b) = true := by simpa using h3
        clear h h3
        have HL : Hid (Lies R w.heap.size w) := hL
        have HB0 : Hid (Below w.heap.size w (w.alloc (.cells #[.slice R.a R.len R.cap, .int .i64 R.kp] 24))) := new_below _ _
        have HX0 : Hid (RBox R w.heap.size (w.alloc (.cells #[.slice R.a R.len R.cap, .int .i64 R.kp] 24))) := RBox.new R w _
        have HL0 : Hid (Lies R (w.alloc (.cells #[.slice R.a R.len R.cap, .int .i64 R.kp] 24)).heap.size (w.alloc (.cells #[.slice R.a R.len R.cap, .int .i64 R.kp] 24))) := HL.out.at HB0.out
        clear hL
        go_enter Try.func3, Try.ntmps3
        go_wp2_with fail
        refine (K1.out _ HL0.out).mono ?_
        rintro e w1 ⟨rfl, hb1⟩
        have HB1 : Hid (Below w.heap.size w w1) := HB0.out.trans (hb1.mono HB0.out.size)
        have HX1 : Hid (RBox R w.heap.size w1) := HX0.out.below hb1
        have HL1 : Hid (Lies R w1.heap.size w1) := HL.out.at HB1.out
        clear hb1
        (try clear c0 c1)
        obtain ⟨_, c0, c1⟩ := HX1.out
        go_wp2_with fail
        refine (K2.out _ HL1.out).mono ?_
        rintro e w2 ⟨rfl, hb2⟩
        have HB2 : Hid (Below w.heap.size w w2) := HB1.out.trans (hb2.mono HB1.out.size)
        have HX2 : Hid (RBox R w.heap.size w2) := HX1.out.below hb2
        have HL2 : Hid (Lies R w2.heap.size w2) := HL.out.at HB2.out
        clear hb2
        (try clear c0 c1)
        obtain ⟨_, c0, c1⟩ := HX2.out
        go_wp2_with fail
        refine (alive_any _).mono ?_
        rintro e w3 ⟨rfl, hb3⟩
        have HB3 : Hid (Below w.heap.size w w3) := HB2.out.trans (hb3.mono HB2.out.size)
        have HX3 : Hid (RBox R w.heap.size w3) := HX2.out.below hb3
        have HL3 : Hid (Lies R w3.heap.size w3) := HL.out.at HB3.out
        clear hb3
        (try clear c0 c1)
        obtain ⟨_, c0, c1⟩ := HX3.out
        go_wp2_with fail
        go_ret
        exact ⟨rfl, HB3.out⟩
    · subst h1
      have g1 : (e2 == 0) = false := by simpa using h2
      have g2 : (e2 != 0) = true := by simpa using h2
      clear h h2
      have HL : Hid (Lies R w.heap.size w) := hL
      have HB0 : Hid (Below w.heap.size w (w.alloc (.cells #[.slice R.a R.len R.cap, .int .i64 R.kp] 24))) := new_below _ _
      have HX0 : Hid (RBox R w.heap.size (w.alloc (.cells #[.slice R.a R.len R.cap, .int .i64 R.kp] 24))) := RBox.new R w _
      have HL0 : Hid (Lies R (w.alloc (.cells #[.slice R.a R.len R.cap, .int .i64 R.kp] 24)).heap.size (w.alloc (.cells #[.slice R.a R.len R.cap, .int .i64 R.kp] 24))) := HL.out.at HB0.out
      clear hL
      go_enter Try.func3, Try.ntmps3
      go_wp2_with fail
      refine (K1.out _ HL0.out).mono ?_
      rintro e w1 ⟨rfl, hb1⟩
      have HB1 : Hid (Below w.heap.size w w1) := HB0.out.trans (hb1.mono HB0.out.size)
      have HX1 : Hid (RBox R w.heap.size w1) := HX0.out.below hb1
      have HL1 : Hid (Lies R w1.heap.size w1) := HL.out.at HB1.out
      clear hb1
      (try clear c0 c1)
      obtain ⟨_, c0, c1⟩ := HX1.out
      go_wp2_with fail
      refine (K2.out _ HL1.out).mono ?_
      rintro e w2 ⟨rfl, hb2⟩
      have HB2 : Hid (Below w.heap.size w w2) := HB1.out.trans (hb2.mono HB1.out.size)
      have HX2 : Hid (RBox R w.heap.size w2) := HX1.out.below hb2
      have HL2 : Hid (Lies R w2.heap.size w2) := HL.out.at HB2.out
      clear hb2
      (try clear c0 c1)
      obtain ⟨_, c0, c1⟩ := HX2.out
      go_wp2_with fail
      refine (alive_any _).mono ?_
      rintro e w3 ⟨rfl, hb3⟩
      have HB3 : Hid (Below w.heap.size w w3) := HB2.out.trans (hb3.mono HB2.out.size)
      have HX3 : Hid (RBox R w.heap.size w3) := HX2.out.below hb3
      have HL3 : Hid (Lies R w3.heap.size w3) := HL.out.at HB3.out
      clear hb3
      (try clear c0 c1)
      obtain ⟨_, c0, c1⟩ := HX3.out
      go_wp2_with fail
      go_ret
      exact ⟨rfl, HB3.out⟩
  · have g1 : (e1 == 0) = false := by simpa using h1
    have g2 : (e1 != 0) = true := by simpa using h1
    clear h h1
    have HL : Hid (Lies R w.heap.size w) := hL
    have HB0 : Hid (Below w.heap.size w (w.alloc (.cells #[.slice R.a R.len R.cap, .int .i64 R.kp] 24))) := new_below _ _
    have HX0 : Hid (RBox R w.heap.size (w.alloc (.cells #[.slice R.a R.len R.cap, .int .i64 R.kp] 24))) := RBox.new R w _
    have HL0 : Hid (Lies R (w.alloc (.cells #[.slice R.a R.len R.cap, .int .i64 R.kp] 24)).heap.size (w.alloc (.cells #[.slice R.a R.len R.cap, .int .i64 R.kp] 24))) := HL.out.at HB0.out
    clear hL
    go_enter Try.func3, Try.ntmps3
    go_wp2_with fail
    refine (K1.out _ HL0.out).mono ?_
    rintro e w1 ⟨rfl, hb1⟩
    have HB1 : Hid (Below w.heap.size w w1) := HB0.out.trans (hb1.mono HB0.out.size)
    have HX1 : Hid (RBox R w.heap.size w1) := HX0.out.below hb1
    have HL1 : Hid (Lies R w1.heap.size w1) := HL.out.at HB1.out
    clear hb1
    (try clear c0 c1)
    obtain ⟨_, c0, c1⟩ := HX1.out
    go_wp2_with fail
    refine (K2.out _ HL1.out).mono ?_
    rintro e w2 ⟨rfl, hb2⟩
    have HB2 : Hid (Below w.heap.size w w2) := HB1.out.trans (hb2.mono HB1.out.size)
    have HX2 : Hid (RBox R w.heap.size w2) := HX1.out.below hb2
    have HL2 : Hid (Lies R w2.heap.size w2) := HL.out.at HB2.out
    clear hb2
    (try clear c0 c1)
    obtain ⟨_, c0, c1⟩ := HX2.out
    go_wp2_with fail
    refine (alive_any _).mono ?_
    rintro e w3 ⟨rfl, hb3⟩
    have HB3 : Hid (Below w.heap.size w w3) := HB2.out.trans (hb3.mono HB2.out.size)
    have HX3 : Hid (RBox R w.heap.size w3) := HX2.out.below hb3
    have HL3 : Hid (Lies R w3.heap.size w3) := HL.out.at HB3.out
    clear hb3
    (try clear c0 c1)
    obtain ⟨_, c0, c1⟩ := HX3.out
    go_wp2_with fail
    go_ret
    exact ⟨rfl, HB3.out⟩

/-- One bucket at a watermark: one at each later one. -/
theorem groups_math (R : Rl) (t u wm lt : Int) (K : Nat) (h1 : fE R t wm = 0) (h2 : fE R u wm = 0) (hK : IsStep R t wm K) (ha : t - t % R.sz K = u - u % R.sz K) (hl : wm ≤ lt) :
    fE R t lt = fE R u lt ∧ ∃ M, (fE R t lt = 0 → IsStep R t lt M) ∧ (fE R u lt = 0 → IsStep R u lt M) ∧ buA R t lt M = buA R u lt M ∧ stA R t lt M = stA R u lt M := by
  obtain ⟨hR, ht, hw⟩ := fE_ok h1
  obtain ⟨_, hu, _⟩ := fE_ok h2
  have he : fE R t lt = fE R u lt := by unfold fE; rw [ht, hu]
  refine ⟨he, ?_⟩
  obtain ⟨M, hM⟩ := step_exists hR t lt
  have hs := (isS_iff _).1 (sz_ok hR hK.1)
  have hq := quot_of_fl hs.1 ha
  have hKM : K ≤ M := by
    rcases Nat.lt_or_ge M K with hlt | hge
    · exfalso
      rcases hK.2.1 with h0 | h0
      · omega
      · refine hM.2.2 K hlt hK.1 ?_
        unfold cnd at *; omega
    · exact hge
  have hqM := quot_ge hR hq hKM hM.1
  refine ⟨M, fun _ => hM, fun _ => step_same hR hM hqM, ?_, ?_⟩
  · unfold buA; rw [he, fl_same hqM]
  · unfold stA; rw [he]
set_option maxRecDepth 100000 in
set_option maxHeartbeats 1000000 in
theorem groups_yes (R : Rl) (t u wm lt : Int) (K : Nat) (w : World) (hL : Lies R w.heap.size w) (h1 : fE R t wm = 0) (h2 : fE R u wm = 0) (hK : IsStep R t wm K) (hM : IsStep R u wm K) (ha : t - t % R.sz K = u - u % R.sz K) (hl : wm ≤ lt) :
    Calls Try.prog 3 #[.agg #[.slice R.a R.len R.cap, .int .i64 R.kp], .int .i64 t, .int .i64 u, .int .i64 wm, .int .i64 lt] w fun e w' => e = .returned (.bool true) ∧ Below w.heap.size w w' := by
  obtain ⟨m1, M, m2, m3, m4, m5⟩ := groups_math R t u wm lt K h1 h2 hK ha hl
  have HK : Hid (fE R t wm = 0 → IsStep R t wm K) := fun _ => hK
  have HM : Hid (fE R u wm = 0 → IsStep R u wm K) := fun _ => hM
  have N2 : Hid (fE R t lt = 0 → IsStep R t lt M) := m2
  have N3 : Hid (fE R u lt = 0 → IsStep R u lt M) := m3
  have N1 : Hid (fE R u lt = fE R t lt) := m1.symm
  have N4 : Hid (buA R u lt M = buA R t lt M) := m4.symm
  have N5 : Hid (stA R u lt M = stA R t lt M) := m5.symm
  have H1 : Hid (fE R t wm = 0) := h1
  have H2 : Hid (fE R u wm = 0) := h2
  have B1 : Hid (buA R t wm K = t - t % R.sz K) := bu_ok h1
  have B2 : Hid (buA R u wm K = t - t % R.sz K) := (bu_ok h2).trans ha.symm
  have S1 : Hid (stA R t wm K = K) := st_ok h1
  have S2 : Hid (stA R u wm K = K) := st_ok h2
  have g : ¬ lt < wm := by omega
  clear m1 m2 m3 m4 m5 h1 h2 hK hM ha hl
  generalize t - t % R.sz K = fl at *
  have HL : Hid (Lies R w.heap.size w) := hL
  have HB0 : Hid (Below w.heap.size w (w.alloc (.cells #[.slice R.a R.len R.cap, .int .i64 R.kp] 24))) := new_below _ _
  have HX0 : Hid (RBox R w.heap.size (w.alloc (.cells #[.slice R.a R.len R.cap, .int .i64 R.kp] 24))) := RBox.new R w _
  have HL0 : Hid (Lies R (w.alloc (.cells #[.slice R.a R.len R.cap, .int .i64 R.kp] 24)).heap.size (w.alloc (.cells #[.slice R.a R.len R.cap, .int .i64 R.kp] 24))) := HL.out.at HB0.out
  clear hL
  go_enter Try.func3, Try.ntmps3
  go_wp2_with fail
  refine (bucket_any R t wm K HK.out _ HL0.out).mono ?_
  rw [B1.out, S1.out, H1.out]
  rintro e w1 ⟨rfl, hb1⟩
  have HB1 : Hid (Below w.heap.size w w1) := HB0.out.trans (hb1.mono HB0.out.size)
  have HX1 : Hid (RBox R w.heap.size w1) := HX0.out.below hb1
  have HL1 : Hid (Lies R w1.heap.size w1) := HL.out.at HB1.out
  clear hb1
  (try clear c0 c1)
  obtain ⟨_, c0, c1⟩ := HX1.out
  go_wp2_with fail
  refine (bucket_any R u wm K HM.out _ HL1.out).mono ?_
  rw [B2.out, S2.out, H2.out]
  rintro e w2 ⟨rfl, hb2⟩
  have HB2 : Hid (Below w.heap.size w w2) := HB1.out.trans (hb2.mono HB1.out.size)
  have HX2 : Hid (RBox R w.heap.size w2) := HX1.out.below hb2
  have HL2 : Hid (Lies R w2.heap.size w2) := HL.out.at HB2.out
  clear hb2
  (try clear c0 c1)
  obtain ⟨_, c0, c1⟩ := HX2.out
  go_wp2_with fail
  refine (bucket_any R t lt M N2.out _ HL2.out).mono ?_
  rintro e w3 ⟨rfl, hb3⟩
  have HB3 : Hid (Below w.heap.size w w3) := HB2.out.trans (hb3.mono HB2.out.size)
  have HX3 : Hid (RBox R w.heap.size w3) := HX2.out.below hb3
  have HL3 : Hid (Lies R w3.heap.size w3) := HL.out.at HB3.out
  clear hb3
  (try clear c0 c1)
  obtain ⟨_, c0, c1⟩ := HX3.out
  go_wp2_with fail
  refine (bucket_any R u lt M N3.out _ HL3.out).mono ?_
  rw [N1.out, N4.out, N5.out]
  rintro e w4 ⟨rfl, hb4⟩
  have HB4 : Hid (Below w.heap.size w w4) := HB3.out.trans (hb4.mono HB3.out.size)
  have HX4 : Hid (RBox R w.heap.size w4) := HX3.out.below hb4
  have HL4 : Hid (Lies R w4.heap.size w4) := HL.out.at HB4.out
  clear hb4
  (try clear c0 c1)
  obtain ⟨_, c0, c1⟩ := HX4.out
  go_wp2_with fail
  refine (alive_any _).mono ?_
  rintro e w5 ⟨rfl, hb5⟩
  have HB5 : Hid (Below w.heap.size w w5) := HB4.out.trans (hb5.mono HB4.out.size)
  have HX5 : Hid (RBox R w.heap.size w5) := HX4.out.below hb5
  have HL5 : Hid (Lies R w5.heap.size w5) := HL.out.at HB5.out
  clear hb5
  (try clear c0 c1)
  obtain ⟨_, c0, c1⟩ := HX5.out
  go_wp2_with fail
  go_ret
  exact ⟨rfl, HB5.out⟩
theorem groupsWalk (R : Rl) (t u wm lt : Int) (w : World) (hL : Lies R w.heap.size w) :
    Calls Try.prog 3 #[.agg #[.slice R.a R.len R.cap, .int .i64 R.kp], .int .i64 t, .int .i64 u, .int .i64 wm, .int .i64 lt] w fun e w' => e = .returned (.bool true) ∧ Below w.heap.size w w' := by
  obtain ⟨K, HK⟩ := has_step R t wm
  obtain ⟨L, HM⟩ := has_step R u wm
  by_cases h : fE R t wm ≠ 0 ∨ fE R u wm ≠ 0 ∨ buA R t wm K ≠ buA R u wm L ∨ stA R t wm K ≠ stA R u wm L ∨ lt < wm
  · exact groups_no R t u wm lt K L HK HM w hL h
  · have h1 : fE R t wm = 0 := Classical.byContradiction fun hh => h (.inl hh)
    have h2 : fE R u wm = 0 := Classical.byContradiction fun hh => h (.inr (.inl hh))
    have h3 : buA R t wm K = buA R u wm L := Classical.byContradiction fun hh => h (.inr (.inr (.inl hh)))
    have h4 : stA R t wm K = stA R u wm L := Classical.byContradiction fun hh => h (.inr (.inr (.inr (.inl hh))))
    have h5 : ¬ lt < wm := fun hh => h (.inr (.inr (.inr (.inr hh))))
    rw [st_ok h1, st_ok h2] at h4
    have e : K = L := by omega
    subst e
    rw [bu_ok h1, bu_ok h2] at h3
    exact groups_yes R t u wm lt K w hL h1 h2 (HK.out h1) (HM.out h2) h3 (by omega)
end Go.Proofs.Ytfgnojmpnkjdmab
