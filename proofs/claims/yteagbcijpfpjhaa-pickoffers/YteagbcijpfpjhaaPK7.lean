/- The contract of full. -/
import Derived.Test.YteagbcijpfpjhaaPK6
namespace Go.Proofs.Yteagbcijpfpjhaa
open Go.RowKit Go.Shelf

/-- Is a level of a tree full? -/
def fulF (L : List Rn) (lv : Int) : Bool := if lv = 0 then decide (1 < (filF [0] L).length) else if lv = 1 then L.any (overP 1 64) else if lv = 2 then L.any (overP 2 256) else false
theorem eg_full1 : ∀ args w, (callFunc 32 args).run Try.prog w = .ok (.enter 32 args) w := enters_of Try.func32 (by kernel_rfl) rfl
theorem filF_len (ls : List Int) (L : List Rn) : (filF ls L).length ≤ L.length := by
  unfold filF
  rw [srt_len]
  exact pkF_len _ _
theorem reads1 (w : World) (x : Int) (T : TypeId) (B : Nat) (hB : B = w.heap.size) : Reads (w.alloc (.cells #[.int .i64 x] T)) (.slice (some ⟨B, 0, none⟩) 1 1) [x] := by
  subst hB
  refine .inr ⟨w.heap.size, 0, 1, rfl, by simp, by simp, by simp [maxLen], by simp, fun j hj => ?_⟩
  have : j = 0 := by simpa using hj
  subst this
  simp [ic]
theorem reads2 (w : World) (x y : Int) (T : TypeId) (B : Nat) (hB : B = w.heap.size) : Reads (w.alloc (.cells #[.int .i64 x, .int .i64 y] T)) (.slice (some ⟨B, 0, none⟩) 2 2) [x, y] := by
  subst hB
  refine .inr ⟨w.heap.size, 0, 2, rfl, by simp, by simp, by simp [maxLen], by simp, fun j hj => ?_⟩
  have : j = 0 ∨ j = 1 := by simp at hj; omega
  rcases this with rfl | rfl <;> simp [ic]
theorem over_any (L : List Rn) (lv m : Int) (hlm : (lv = 1 ∧ m = 64) ∨ (lv = 2 ∧ m = 256)) (v : Value) (w : World) (hR : NReads w v L) (T : TypeId) (B : Nat) (hB : B = w.heap.size) :
    Calls Try.prog 31 #[v, .func (.func 32) #[] #[.pointer (some ⟨B, 0, none⟩)]] (w.alloc (.cells #[.int .i64 lv] T)) fun e w' => e = .returned (.bool (L.any (overP lv m))) ∧ Below w.heap.size w w' := by
  have hb : Below w.heap.size w (w.alloc (.cells #[.int .i64 lv] T)) := (Below.refl _ _).alloc (Nat.le_refl _) _
  refine (containsF_any (overP lv m) _ _ eg_full1 v L _ (hR.below hb) (full1_says lv m hlm B _ (by rw [hB]; simp) (by rw [hB]; simp))).mono ?_
  rintro e w' ⟨rfl, h⟩
  exact ⟨rfl, hb.trans (h.mono hb.size)⟩
set_option maxRecDepth 100000 in
set_option maxHeartbeats 2000000 in
theorem full_any (v : Value) (L : List Rn) (lv : Int) (w : World) (hR : NReads w v L) (h64 : L.length ≤ 64) (h0 : 0 ≤ lv) (h3 : lv ≤ 3) :
    Calls Try.prog 22 #[v, .int .i64 lv] w fun e w' => e = .returned (.bool (fulF L lv)) ∧ Below w.heap.size w w' := by
  have HR : Hid (NReads w v L) := hR
  obtain ⟨a, cap, rfl, hl1, hl2⟩ := hR.form
  clear hR
  obtain ⟨q, Hq⟩ := hid_ex (fulF L lv)
  rw [← Hq.out]
  have hcs : lv = 0 ∨ lv = 1 ∨ lv = 2 ∨ lv = 3 := by omega
  clear h0 h3
  rcases hcs with rfl | rfl | rfl | rfl
  · go_enter Try.func22, Try.ntmps22
    go_wp2_with fail
    have hb0 : Below w.heap.size w (w.alloc (.cells #[.int .i64 0] 3)) := (Below.refl _ _).alloc (Nat.le_refl _) _
    have hb1 : Below w.heap.size w ((w.alloc (.cells #[.int .i64 0] 3)).alloc (.cells #[.int .i64 0] 3)) := hb0.alloc (by simp) _
    refine (filesOf_any _ _ L [0] _ (HR.out.below hb1) (reads1 (w.alloc (.cells #[.int .i64 0] 3)) 0 3 (w.heap.size + 1) (by simp)) h64).mono ?_
    rintro e w' ⟨v', rfl, hO, hB⟩
    have HB : Hid (Below w.heap.size w w') := hb1.trans (hB.mono hb1.size)
    obtain ⟨fa, fc, rfl, _⟩ := hO.form
    have hfl := filF_len [0] L
    have HQ : Hid (q = decide (1 < (filF [0] L).length)) := Hq.out
    clear hb0 hb1 hO hB
    generalize (filF [0] L).length = n at *
    go_wp2_with fail
    go_ret
    refine ⟨?_, HB.out⟩
    rw [HQ.out]
    simp
    omega
  · go_enter Try.func22, Try.ntmps22
    go_wp2_with fail
    refine (over_any L 1 64 (.inl ⟨rfl, rfl⟩) _ w HR.out _ _ rfl).mono ?_
    rintro e w' ⟨rfl, hB⟩
    have HB : Hid (Below w.heap.size w w') := hB
    clear hB
    go_wp2_with fail
    go_ret
    exact ⟨by rw [Hq.out]; rfl, HB.out⟩
  · go_enter Try.func22, Try.ntmps22
    go_wp2_with fail
    refine (over_any L 2 256 (.inr ⟨rfl, rfl⟩) _ w HR.out _ _ rfl).mono ?_
    rintro e w' ⟨rfl, hB⟩
    have HB : Hid (Below w.heap.size w w') := hB
    clear hB
    go_wp2_with fail
    go_ret
    exact ⟨by rw [Hq.out]; rfl, HB.out⟩
  · go_enter Try.func22, Try.ntmps22
    go_wp2_with fail
    go_ret
    exact ⟨by rw [Hq.out]; rfl, (Below.refl _ _).alloc (Nat.le_refl _) _⟩
end Go.Proofs.Yteagbcijpfpjhaa
