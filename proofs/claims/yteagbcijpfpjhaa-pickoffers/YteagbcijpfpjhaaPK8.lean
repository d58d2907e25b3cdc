/- The contract of renewed. -/
import Derived.Test.YteagbcijpfpjhaaPK7
namespace Go.Proofs.Yteagbcijpfpjhaa
open Go.RowKit Go.Shelf

def stepR (lv : Int) (m : Int) (r : Rn) : Int := if r.l = lv ∧ r.s = true ∧ (m = 0 ∨ r.f < m) then r.f else m
/-- The least file of a level's stale runs; 0: there is none. -/
def renF (L : List Rn) (lv : Int) : Int := L.foldl (stepR lv) 0
/-- A task: files, level, whether there is one. -/
structure Tk where
  fs : List Int
  lv : Int
  s : Bool
def tkZ : Tk := ⟨[], 0, false⟩
def renT (L : List Rn) (lv : Int) : Tk := if renF L lv = 0 then tkZ else ⟨[renF L lv], lv, true⟩
theorem renF_take (L : List Rn) (lv : Int) (k : Nat) (hk : k < L.length) : (L.take (k + 1)).foldl (stepR lv) 0 = stepR lv ((L.take k).foldl (stepR lv) 0) L[k] := by
  rw [List.take_succ_eq_append_getElem hk, List.foldl_append]
  rfl
theorem own_stW {w W : World} {base : Nat} {v : Value} {l : List Int} {g off : Nat} {cur : Array Value} {T : TypeId} {vs : List Value} (h : Own w base v l) (hW : StW w W g off cur T vs) (hg : w.heap[g]? = some (.cells cur T)) (hT : T ≠ 3) : Own W base v l := by
  obtain ⟨h1, h2⟩ := h
  refine ⟨h1, ?_⟩
  rcases h2 with h2 | ⟨b, cap, c2, hv, hb, hw, r⟩
  · exact .inl h2
  · refine .inr ⟨b, cap, c2, hv, hb, (hW.o b (fun e => ?_)).trans hw, r⟩
    subst e
    rw [hg] at hw
    simp at hw
    exact hT hw.2
theorem box_stW {w W : World} {g : Nat} {cur : Array Value} {T : TypeId} {vs : List Value} (h : StW w W g 0 cur T vs) (hb : cur.size = vs.length) : W.heap[g]? = some (.cells vs.toArray T) := by
  obtain ⟨cur', h1, h2, _, h4⟩ := h.c
  have e : cur' = vs.toArray := by
    apply Array.ext (by simp; omega)
    intro i hi hj
    have := h4 i (by simpa using hj)
    rw [Nat.zero_add, Array.getElem?_eq_getElem hi] at this
    simpa using this
  rw [e] at h1
  exact h1
theorem own1 (w : World) (x : Int) (base B : Nat) (hb : base ≤ B) (hB : B = w.heap.size) : Own (w.alloc (.cells #[.int .i64 x] 3)) base (.slice (some ⟨B, 0, none⟩) 1 1) [x] := by
  subst hB
  exact ⟨rfl, .inr ⟨w.heap.size, 1, #[.int .i64 x], rfl, hb, heap_alloc_new _ _, Nat.le_refl _, by simp [maxLen], rfl, rfl⟩⟩
/-- What renewed answers. -/
def RwPost (t : Tk) (w : World) (e : Ending) (w' : World) : Prop := ∃ v', e = .returned (.tuple #[.agg #[v', .int .i64 t.lv], .bool t.s]) ∧ Own w' w.heap.size v' t.fs ∧ Below w.heap.size w w'
set_option maxRecDepth 100000 in
set_option maxHeartbeats 2000000 in
theorem renewed_any (v : Value) (L : List Rn) (lv : Int) (w : World) (hR : NReads w v L) (h64 : L.length ≤ 64) :
    Calls Try.prog 24 #[v, .int .i64 lv] w (RwPost (renT L lv) w) := by
  have HR : Hid (NReads w v L) := hR
  obtain ⟨a, cap, rfl, hl1, hl2⟩ := hR.form
  clear hR
  unfold maxLen at hl2
  obtain ⟨T, HT⟩ := hid_ex (renT L lv)
  rw [← HT.out]
  go_enter Try.func24, Try.ntmps24
  go_wp2_with fail
  obtain ⟨w0, HW0⟩ := hid_ex (w.alloc (.cells #[.slice none 0 0, .int .i64 0] 28))
  have HB0 : Hid (Below w.heap.size w w0) := by rw [HW0.out]; exact (Below.refl _ _).alloc (Nat.le_refl _) _
  have HX0 : Hid (w0.heap[w.heap.size]? = some (.cells #[.slice none 0 0, .int .i64 0] 28)) := by rw [HW0.out]; exact heap_alloc_new _ _
  rw [← HW0.out]
  clear HW0
  go_loopw [6, 11] (fun mv i wr => ∃ (k : Nat) (m : Int), k ≤ L.length ∧ i = .int .i64 (k : Int) ∧ mv = .int .i64 m ∧ Hid (m = (L.take k).foldl (stepR lv) 0) ∧ Hid (Below w0.heap.size w0 wr)) (fun _ i _ => L.length - (intOf i).toNat)
  case atStart => exact ⟨0, 0, by omega, rfl, rfl, rfl, Below.refl _ _⟩
  case round =>
    obtain ⟨k, m, hk, rfl, rfl, HM, HB⟩ := hrel
    have HBw : Hid (Below w.heap.size w wr) := HB0.out.trans (HB.out.mono HB0.out.size)
    by_cases hlt : k < L.length
    · obtain ⟨b, off, rfl, hb⟩ := HR.out.ptr (by omega)
      obtain ⟨r, Hr⟩ := hid_ex L[k]
      obtain ⟨c0, c1, c2, c3⟩ := (HR.out.below HBw.out).four hlt r Hr.out
      go_wp2_with (refine stop_store 48 _ _ rfl ?_)
      refine Stop.of ?_
      refine wpList_storeN rfl _ _ _ rfl wr.heap.size 0 (r4 r) rfl rfl _ _ (heap_alloc_new _ _) (by rw [r4_len]; simp) (by kernel_rfl) (by kernel_rfl) ?_
      intro W hW
      obtain ⟨hbW, hxW, hlW⟩ := stW_new hW (by simp [r4_len])
      have HBW : Hid (Below w0.heap.size w0 W) := HB.out.trans (hbW.mono HB.out.size)
      obtain ⟨d0, d1, d2, d3⟩ := box4 hxW
      clear hW hbW hxW c0 c1 c2 c3
      have HN : Hid ((L.take (k + 1)).foldl (stepR lv) 0 = stepR lv m r) := by
        unfold Hid
        rw [renF_take L lv k hlt, ← HM.out, ← Hr.out]
      by_cases hl : r.l = lv
      · have hbl : (r.l == lv) = true := by simpa using hl
        cases hs : r.s with
        | true =>
          rw [hs] at d3
          by_cases hm : m = 0
          · have HN2 : Hid (r.f = (L.take (k + 1)).foldl (stepR lv) 0) := by
              unfold Hid
              rw [HN.out]
              simp [stepR, hl, hs, hm]
            have hbm : (m == 0) = true := by simpa using hm
            clear hl hs hm
            go_wp2_with fail
            go_roundw
            case rel => exact ⟨k + 1, r.f, by omega, by go_num, rfl, HN2.out, HBW.out⟩
            case measure => simp [intOf]; omega
          · have hbm : (m == 0) = false := by simpa using hm
            by_cases hf : r.f < m
            · have HN2 : Hid (r.f = (L.take (k + 1)).foldl (stepR lv) 0) := by
                unfold Hid
                rw [HN.out]
                simp [stepR, hl, hs, hf]
              clear hl hs hm
              go_wp2_with fail
              go_roundw
              case rel => exact ⟨k + 1, r.f, by omega, by go_num, rfl, HN2.out, HBW.out⟩
              case measure => simp [intOf]; omega
            · have HN2 : Hid (m = (L.take (k + 1)).foldl (stepR lv) 0) := by
                unfold Hid
                rw [HN.out]
                simp [stepR, hm, hf]
              clear hl hs hm
              go_wp2_with fail
              go_roundw
              case rel => exact ⟨k + 1, m, by omega, by go_num, rfl, HN2.out, HBW.out⟩
              case measure => simp [intOf]; omega
        | false =>
          rw [hs] at d3
          have HN2 : Hid (m = (L.take (k + 1)).foldl (stepR lv) 0) := by
            unfold Hid
            rw [HN.out]
            simp [stepR, hs]
          clear hl hs
          go_wp2_with fail
          go_roundw
          case rel => exact ⟨k + 1, m, by omega, by go_num, rfl, HN2.out, HBW.out⟩
          case measure => simp [intOf]; omega
      · have hbl : (r.l == lv) = false := by simpa using hl
        have HN2 : Hid (m = (L.take (k + 1)).foldl (stepR lv) 0) := by
          unfold Hid
          rw [HN.out]
          simp [stepR, hl]
        clear hl
        go_wp2_with fail
        go_roundw
        case rel => exact ⟨k + 1, m, by omega, by go_num, rfl, HN2.out, HBW.out⟩
        case measure => simp [intOf]; omega
    · obtain rfl : k = L.length := by omega
      have HF : Hid (m = renF L lv) := by
        unfold Hid
        rw [HM.out, List.take_length]
        rfl
      have HX1 : Hid (wr.heap[w.heap.size]? = some (.cells #[.slice none 0 0, .int .i64 0] 28)) := (HB.out.block _ (Array.getElem?_eq_some_iff.1 HX0.out).1).trans HX0.out
      by_cases hm : m = 0
      · have hbm : (m == 0) = true := by simpa using hm
        have HTT : Hid (T = tkZ) := by
          unfold Hid
          rw [HT.out, renT, ← HF.out, if_pos hm]
        clear hm
        go_wp2_with (refine stop_store 28 _ _ rfl ?_)
        refine Stop.of ?_
        refine wpList_storeN rfl _ _ _ rfl w.heap.size 0 [.slice none 0 0, .int .i64 0] rfl rfl _ _ HX1.out (by simp) (by kernel_rfl) (by kernel_rfl) ?_
        intro W hW
        have hx := box_stW hW rfl
        have f0 := (cell_row hx 0 (by simp)).1
        have f1 := (cell_row hx 1 (by simp)).1
        simp only [List.getElem_toArray, List.getElem_cons_zero, List.getElem_cons_succ] at f0 f1
        have HBW : Hid (Below w.heap.size w W) := HBw.out.trans (hW.b _ (Nat.le_refl _))
        clear hW hx
        go_wp2_with fail
        refine bodyPost_ret (v := .tuple #[.agg #[.slice none 0 0, .int .i64 0], .bool false]) (by simp [results, Try.results24, go_sem, f0, f1]) rfl ?_
        rw [HTT.out]
        exact ⟨_, rfl, Own.nil _ _, HBW.out⟩
      · have hbm : (m == 0) = false := by simpa using hm
        have HTT : Hid (T = ⟨[m], lv, true⟩) := by
          unfold Hid
          rw [HT.out, renT, ← HF.out, if_neg hm]
        clear hm
        have hwr : w.heap.size < wr.heap.size := (Array.getElem?_eq_some_iff.1 HX1.out).1
        obtain ⟨wn, Hwn⟩ := hid_ex (wr.alloc (.cells #[.int .i64 m] 3))
        have HBn : Hid (Below wr.heap.size wr wn) := by rw [Hwn.out]; exact (Below.refl _ _).alloc (Nat.le_refl _) _
        have HON : Hid (Own wn w.heap.size (.slice (some ⟨wr.heap.size, 0, none⟩) 1 1) [m]) := by rw [Hwn.out]; exact own1 wr m w.heap.size _ (by omega) rfl
        have HXn : Hid (wn.heap[w.heap.size]? = some (.cells #[.slice none 0 0, .int .i64 0] 28)) := (HBn.out.block _ hwr).trans HX1.out
        go_wp2_with (refine stop_store 28 _ _ rfl ?_)
        rw [← Hwn.out]
        refine Stop.of ?_
        refine wpList_storeN rfl _ _ _ rfl w.heap.size 0 [.slice (some ⟨wr.heap.size, 0, none⟩) 1 1, .int .i64 lv] rfl rfl _ _ HXn.out (by simp) (by kernel_rfl) (by kernel_rfl) ?_
        intro W hW
        have hx := box_stW hW rfl
        have f0 := (cell_row hx 0 (by simp)).1
        have f1 := (cell_row hx 1 (by simp)).1
        simp only [List.getElem_toArray, List.getElem_cons_zero, List.getElem_cons_succ] at f0 f1
        have HBW : Hid (Below w.heap.size w W) := (HBw.out.trans (HBn.out.mono (by omega))).trans (hW.b _ (Nat.le_refl _))
        have HOW : Hid (Own W w.heap.size (.slice (some ⟨wr.heap.size, 0, none⟩) 1 1) [m]) := own_stW HON.out hW HXn.out (by decide)
        clear hW hx
        go_wp2_with fail
        refine bodyPost_ret (v := .tuple #[.agg #[.slice (some ⟨wr.heap.size, 0, none⟩) 1 1, .int .i64 lv], .bool true]) (by simp [results, Try.results24, go_sem, f0, f1]) rfl ?_
        rw [HTT.out]
        exact ⟨_, rfl, HOW.out, HBW.out⟩
end Go.Proofs.Yteagbcijpfpjhaa
