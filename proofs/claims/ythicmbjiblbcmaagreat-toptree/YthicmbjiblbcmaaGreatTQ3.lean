/- PK8 PK9 PK10 PK11 PK12, joined. -/
import Derived.Test.YthicmbjiblbcmaaGreatTQ2
/- The contract of renewed. -/
namespace Go.Proofs.YthicmbjiblbcmaaGreat
open Go.RowKit Go.Shelf

def stepR (lv : Int) (m : Int) (r : Rn) : Int := if r.l = lv ∧ r.s = true ∧ (m = 0 ∨ r.f < m) then r.f else m
/-- The least file of a level's stale runs; 0: there is none. -/
def renF (L : List Rn) (lv : Int) : Int := L.foldl (stepR lv) 0
/-- A task: files, level, whether there is one. -/
structure Tk where
  fs : List Int
  lv : Int
  s : Bool
def tkZ : Tk := ⟨[], 0, false⟩
def renT (L : List Rn) (lv : Int) : Tk := if renF L lv = 0 then tkZ else ⟨[renF L lv], lv, true⟩
theorem renF_take (L : List Rn) (lv : Int) (k : Nat) (hk : k < L.length) : (L.take (k + 1)).foldl (stepR lv) 0 = stepR lv ((L.take k).foldl (stepR lv) 0) L[k] := by
  rw [List.take_succ_eq_append_getElem hk, List.foldl_append]
  rfl
theorem own_stW {w W : World} {base : Nat} {v : Value} {l : List Int} {g off : Nat} {cur : Array Value} {T : TypeId} {vs : List Value} (h : OwnP w base v l) (hW : StWP w W g off cur T vs) (hg : w.heap[g]? = some (.cells cur T)) (hT : T ≠ 3) : OwnP W base v l := by
  obtain ⟨h1, h2⟩ := h
  refine ⟨h1, ?_⟩
  rcases h2 with h2 | ⟨b, cap, c2, hv, hb, hw, r⟩
  · exact .inl h2
  · refine .inr ⟨b, cap, c2, hv, hb, (hW.o b (fun e => ?_)).trans hw, r⟩
    subst e
    rw [hg] at hw
    simp at hw
    exact hT hw.2
theorem box_stW {w W : World} {g : Nat} {cur : Array Value} {T : TypeId} {vs : List Value} (h : StWP w W g 0 cur T vs) (hb : cur.size = vs.length) : W.heap[g]? = some (.cells vs.toArray T) := by
  obtain ⟨cur', h1, h2, _, h4⟩ := h.c
  have e : cur' = vs.toArray := by
    apply Array.ext (by simp; omega)
    intro i hi hj
    have := h4 i (by simpa using hj)
    rw [Nat.zero_add, Array.getElem?_eq_getElem hi] at this
    simpa using this
  rw [e] at h1
  exact h1
theorem own1 (w : World) (x : Int) (base B : Nat) (hb : base ≤ B) (hB : B = w.heap.size) : OwnP (w.alloc (.cells #[.int .i64 x] 3)) base (.slice (some ⟨B, 0, none⟩) 1 1) [x] := by
  subst hB
  exact ⟨rfl, .inr ⟨w.heap.size, 1, #[.int .i64 x], rfl, hb, heap_alloc_new _ _, Nat.le_refl _, by simp [maxLen], rfl, rfl⟩⟩
/-- What renewed answers. -/
def RwPost (t : Tk) (w : World) (e : Ending) (w' : World) : Prop := ∃ v', e = .returned (.tuple #[.agg #[v', .int .i64 t.lv], .bool t.s]) ∧ OwnP w' w.heap.size v' t.fs ∧ Below w.heap.size w w'
set_option maxRecDepth 100000 in
set_option maxHeartbeats 2000000 in
theorem renewed_any (v : Value) (L : List Rn) (lv : Int) (w : World) (hR : NReads w v L) (h64 : L.length ≤ 64) :
    Calls Tryz.prog 18 #[v, .int .i64 lv] w (RwPost (renT L lv) w) := by
  have HR : Hid (NReads w v L) := hR
  obtain ⟨a, cap, rfl, hl1, hl2⟩ := hR.form
  clear hR
  unfold maxLen at hl2
  obtain ⟨T, HT⟩ := hid_exP (renT L lv)
  rw [← HT.out]
  go_enter Tryz.func18, Tryz.ntmps18
  go_wp2_with fail
  obtain ⟨w0, HW0⟩ := hid_exP (w.alloc (.cells #[.slice none 0 0, .int .i64 0] 38))
  have HB0 : Hid (Below w.heap.size w w0) := by rw [HW0.out]; exact (Below.refl _ _).alloc (Nat.le_refl _) _
  have HX0 : Hid (w0.heap[w.heap.size]? = some (.cells #[.slice none 0 0, .int .i64 0] 38)) := by rw [HW0.out]; exact heap_alloc_new _ _
  rw [← HW0.out]
  clear HW0
  go_loopw [6, 11] (fun mv i wr => ∃ (k : Nat) (m : Int), k ≤ L.length ∧ i = .int .i64 (k : Int) ∧ mv = .int .i64 m ∧ Hid (m = (L.take k).foldl (stepR lv) 0) ∧ Hid (Below w0.heap.size w0 wr)) (fun _ i _ => L.length - (intOf i).toNat)
  case atStart => exact ⟨0, 0, by omega, rfl, rfl, rfl, Below.refl _ _⟩
  case round =>
    obtain ⟨k, m, hk, rfl, rfl, HM, HB⟩ := hrel
    have HBw : Hid (Below w.heap.size w wr) := HB0.out.trans (HB.out.mono HB0.out.size)
    by_cases hlt : k < L.length
    · obtain ⟨b, off, rfl, hb⟩ := HR.out.ptr (by omega)
      obtain ⟨r, Hr⟩ := hid_exP L[k]
      obtain ⟨c0, c1, c2, c3⟩ := (HR.out.below HBw.out).four hlt r Hr.out
      go_wp2_with (refine stop_storeP 47 _ _ rfl ?_)
      refine StopP.of ?_
      refine wpList_storeNP rfl _ _ _ rfl wr.heap.size 0 (r4 r) rfl rfl _ _ (heap_alloc_new _ _) (by rw [r4_len]; simp) (by kernel_rfl) (by kernel_rfl) ?_
      intro W hW
      obtain ⟨hbW, hxW, hlW⟩ := stW_new hW (by simp [r4_len])
      have HBW : Hid (Below w0.heap.size w0 W) := HB.out.trans (hbW.mono HB.out.size)
      obtain ⟨d0, d1, d2, d3⟩ := box4 hxW
      clear hW hbW hxW c0 c1 c2 c3
      have HN : Hid ((L.take (k + 1)).foldl (stepR lv) 0 = stepR lv m r) := by
        unfold Hid
        rw [renF_take L lv k hlt, ← HM.out, ← Hr.out]
      by_cases hl : r.l = lv
      · have hbl : (r.l == lv) = true := by simpa using hl
        cases hs : r.s with
        | true =>
          rw [hs] at d3
          by_cases hm : m = 0
          · have HN2 : Hid (r.f = (L.take (k + 1)).foldl (stepR lv) 0) := by
              unfold Hid
              rw [HN.out]
              simp [stepR, hl, hs, hm]
            have hbm : (m == 0) = true := by simpa using hm
            clear hl hs hm
            go_wp2_with fail
            go_roundw
            case rel => exact ⟨k + 1, r.f, by omega, by go_num, rfl, HN2.out, HBW.out⟩
            case measure => simp [intOf]; omega
          · have hbm : (m == 0) = false := by simpa using hm
            by_cases hf : r.f < m
            · have HN2 : Hid (r.f = (L.take (k + 1)).foldl (stepR lv) 0) := by
                unfold Hid
                rw [HN.out]
                simp [stepR, hl, hs, hf]
              clear hl hs hm
              go_wp2_with fail
              go_roundw
              case rel => exact ⟨k + 1, r.f, by omega, by go_num, rfl, HN2.out, HBW.out⟩
              case measure => simp [intOf]; omega
            · have HN2 : Hid (m = (L.take (k + 1)).foldl (stepR lv) 0) := by
                unfold Hid
                rw [HN.out]
                simp [stepR, hm, hf]
              clear hl hs hm
              go_wp2_with fail
              go_roundw
              case rel => exact ⟨k + 1, m, by omega, by go_num, rfl, HN2.out, HBW.out⟩
              case measure => simp [intOf]; omega
        | false =>
          rw [hs] at d3
          have HN2 : Hid (m = (L.take (k + 1)).foldl (stepR lv) 0) := by
            unfold Hid
            rw [HN.out]
            simp [stepR, hs]
          clear hl hs
          go_wp2_with fail
          go_roundw
          case rel => exact ⟨k + 1, m, by omega, by go_num, rfl, HN2.out, HBW.out⟩
          case measure => simp [intOf]; omega
      · have hbl : (r.l == lv) = false := by simpa using hl
        have HN2 : Hid (m = (L.take (k + 1)).foldl (stepR lv) 0) := by
          unfold Hid
          rw [HN.out]
          simp [stepR, hl]
        clear hl
        go_wp2_with fail
        go_roundw
        case rel => exact ⟨k + 1, m, by omega, by go_num, rfl, HN2.out, HBW.out⟩
        case measure => simp [intOf]; omega
    · obtain rfl : k = L.length := by omega
      have HF : Hid (m = renF L lv) := by
        unfold Hid
        rw [HM.out, List.take_length]
        rfl
      have HX1 : Hid (wr.heap[w.heap.size]? = some (.cells #[.slice none 0 0, .int .i64 0] 38)) := (HB.out.block _ (Array.getElem?_eq_some_iff.1 HX0.out).1).trans HX0.out
      by_cases hm : m = 0
      · have hbm : (m == 0) = true := by simpa using hm
        have HTT : Hid (T = tkZ) := by
          unfold Hid
          rw [HT.out, renT, ← HF.out, if_pos hm]
        clear hm
        go_wp2_with (refine stop_storeP 38 _ _ rfl ?_)
        refine StopP.of ?_
        refine wpList_storeNP rfl _ _ _ rfl w.heap.size 0 [.slice none 0 0, .int .i64 0] rfl rfl _ _ HX1.out (by simp) (by kernel_rfl) (by kernel_rfl) ?_
        intro W hW
        have hx := box_stW hW rfl
        have f0 := (cell_rowP hx 0 (by simp)).1
        have f1 := (cell_rowP hx 1 (by simp)).1
        simp only [List.getElem_toArray, List.getElem_cons_zero, List.getElem_cons_succ] at f0 f1
        have HBW : Hid (Below w.heap.size w W) := HBw.out.trans (hW.b _ (Nat.le_refl _))
        clear hW hx
        go_wp2_with fail
        refine bodyPost_ret (v := .tuple #[.agg #[.slice none 0 0, .int .i64 0], .bool false]) (by simp [results, Tryz.results18, go_sem, f0, f1]) rfl ?_
        rw [HTT.out]
        exact ⟨_, rfl, OwnP.nil _ _, HBW.out⟩
      · have hbm : (m == 0) = false := by simpa using hm
        have HTT : Hid (T = ⟨[m], lv, true⟩) := by
          unfold Hid
          rw [HT.out, renT, ← HF.out, if_neg hm]
        clear hm
        have hwr : w.heap.size < wr.heap.size := (Array.getElem?_eq_some_iff.1 HX1.out).1
        obtain ⟨wn, Hwn⟩ := hid_exP (wr.alloc (.cells #[.int .i64 m] 3))
        have HBn : Hid (Below wr.heap.size wr wn) := by rw [Hwn.out]; exact (Below.refl _ _).alloc (Nat.le_refl _) _
        have HON : Hid (OwnP wn w.heap.size (.slice (some ⟨wr.heap.size, 0, none⟩) 1 1) [m]) := by rw [Hwn.out]; exact own1 wr m w.heap.size _ (by omega) rfl
        have HXn : Hid (wn.heap[w.heap.size]? = some (.cells #[.slice none 0 0, .int .i64 0] 38)) := (HBn.out.block _ hwr).trans HX1.out
        go_wp2_with (refine stop_storeP 38 _ _ rfl ?_)
        rw [← Hwn.out]
        refine StopP.of ?_
        refine wpList_storeNP rfl _ _ _ rfl w.heap.size 0 [.slice (some ⟨wr.heap.size, 0, none⟩) 1 1, .int .i64 lv] rfl rfl _ _ HXn.out (by simp) (by kernel_rfl) (by kernel_rfl) ?_
        intro W hW
        have hx := box_stW hW rfl
        have f0 := (cell_rowP hx 0 (by simp)).1
        have f1 := (cell_rowP hx 1 (by simp)).1
        simp only [List.getElem_toArray, List.getElem_cons_zero, List.getElem_cons_succ] at f0 f1
        have HBW : Hid (Below w.heap.size w W) := (HBw.out.trans (HBn.out.mono (by omega))).trans (hW.b _ (Nat.le_refl _))
        have HOW : Hid (OwnP W w.heap.size (.slice (some ⟨wr.heap.size, 0, none⟩) 1 1) [m]) := own_stW HON.out hW HXn.out (by decide)
        clear hW hx
        go_wp2_with fail
        refine bodyPost_ret (v := .tuple #[.agg #[.slice (some ⟨wr.heap.size, 0, none⟩) 1 1, .int .i64 lv], .bool true]) (by simp [results, Tryz.results18, go_sem, f0, f1]) rfl ?_
        rw [HTT.out]
        exact ⟨_, rfl, HOW.out, HBW.out⟩
end Go.Proofs.YthicmbjiblbcmaaGreat

/- The contract of Offer (written by mkpk9.py). -/
namespace Go.Proofs.YthicmbjiblbcmaaGreat
open Go.RowKit Go.Shelf

/-- What is stale on the lowest of the first levels. -/
def stT (L : List Rn) : Nat → Tk
  | 0 => tkZ
  | k + 1 => if (stT L k).s then stT L k else renT L (k : Int)
/-- What is offered. -/
def offT (L : List Rn) : Tk := if fulF L 0 then ⟨filF [0, 1] L, 1, true⟩ else if fulF L 1 then ⟨filF [1, 2] L, 2, true⟩ else if fulF L 2 then ⟨filF [2, 3] L, 3, true⟩ else stT L 4
theorem offT_full {L : List Rn} {k : Nat} (hk : k < 4) (h : ∀ j : Nat, j < k → fulF L (j : Int) = false) (hf : fulF L (k : Int) = true) : offT L = ⟨filF [(k : Int), (k : Int) + 1] L, (k : Int) + 1, true⟩ := by
  unfold offT
  have hc : k = 0 ∨ k = 1 ∨ k = 2 ∨ k = 3 := by omega
  rcases hc with rfl | rfl | rfl | rfl
  · have hf : fulF L 0 = true := hf
    rw [if_pos hf]; rfl
  · have h0 : fulF L 0 = false := h 0 (by omega)
    have hf : fulF L 1 = true := hf
    rw [if_neg (by rw [h0]; simp), if_pos hf]; rfl
  · have h0 : fulF L 0 = false := h 0 (by omega)
    have h1 : fulF L 1 = false := h 1 (by omega)
    have hf : fulF L 2 = true := hf
    rw [if_neg (by rw [h0]; simp), if_neg (by rw [h1]; simp), if_pos hf]; rfl
  · have hf : fulF L 3 = true := hf
    simp [fulF] at hf
theorem offT_none {L : List Rn} (h : ∀ j : Nat, j < 4 → fulF L (j : Int) = false) : offT L = stT L 4 := by
  unfold offT
  have h0 : fulF L 0 = false := h 0 (by omega)
  have h1 : fulF L 1 = false := h 1 (by omega)
  have h2 : fulF L 2 = false := h 2 (by omega)
  rw [if_neg (by rw [h0]; simp), if_neg (by rw [h1]; simp), if_neg (by rw [h2]; simp)]
def OfPost (L : List Rn) (w : World) (e : Ending) (w' : World) : Prop :=
  Below w.heap.size w w' ∧ (okB L = true → ∃ v', e = .returned (.tuple #[.agg #[v', .int .i64 (offT L).lv], .bool (offT L).s, .int .i64 0]) ∧ OwnP w' w.heap.size v' (offT L).fs) ∧ (okB L = false → e = .returned (.tuple #[.agg #[.slice none 0 0, .int .i64 0], .bool false, .int .i64 1]))
def OfQ (L : List Rn) (w : World) (ok : Bool) (e : Ending) (w' : World) : Prop :=
  Below w.heap.size w w' ∧ (ok = true → ∃ v', e = .returned (.tuple #[.agg #[v', .int .i64 (offT L).lv], .bool (offT L).s, .int .i64 0]) ∧ OwnP w' w.heap.size v' (offT L).fs) ∧ (ok = false → e = .returned (.tuple #[.agg #[.slice none 0 0, .int .i64 0], .bool false, .int .i64 1]))
set_option maxRecDepth 100000 in
set_option maxHeartbeats 4000000 in
theorem offer_any (v : Value) (L : List Rn) (w : World) (hR : NReads w v L) : Calls Tryz.prog 8 #[v] w (OfPost L w) := by
  have HR : Hid (NReads w v L) := hR
  obtain ⟨a, cap, rfl, hl1, hl2⟩ := hR.form
  clear hR
  unfold maxLen at hl2
  obtain ⟨ok, HA⟩ := hid_exP (okB L)
  show Calls Tryz.prog 8 #[.slice a L.length cap] w (OfQ L w (okB L))
  rw [← HA.out]
  go_enter Tryz.func8, Tryz.ntmps8
  go_wp2_with fail
  go_step3
  go_wp2_with fail
  obtain ⟨w0, HW0⟩ := hid_exP (w.alloc (.cells #[.slice none 0 0, .int .i64 0] 38))
  have HB0 : Hid (Below w.heap.size w w0) := by rw [HW0.out]; exact (Below.refl _ _).alloc (Nat.le_refl _) _
  have HX0 : Hid (w0.heap[w.heap.size]? = some (.cells #[.slice none 0 0, .int .i64 0] 38)) := by rw [HW0.out]; exact heap_alloc_new _ _
  rw [← HW0.out]
  clear HW0
  refine (right_anyP _ L _ (HR.out.below HB0.out)).mono ?_
  rw [← HA.out]
  rintro e w1 ⟨rfl, hb1⟩
  have HB1 : Hid (Below w.heap.size w w1) := HB0.out.trans (hb1.mono HB0.out.size)
  have HX1 : Hid (w1.heap[w.heap.size]? = some (.cells #[.slice none 0 0, .int .i64 0] 38)) := (hb1.block _ (Array.getElem?_eq_some_iff.1 HX0.out).1).trans HX0.out
  clear hb1 HX0 HB0
  cases ok with
  | false =>
    go_wp2_with (refine stop_storeP 38 _ _ rfl ?_)
    refine StopP.of ?_
    refine wpList_storeNP rfl _ _ _ rfl w.heap.size 0 [.slice none 0 0, .int .i64 0] rfl rfl _ _ HX1.out (by simp) (by kernel_rfl) (by kernel_rfl) ?_
    intro V hV
    have hx := box_stW hV rfl
    have f0 := (cell_rowP hx 0 (by simp)).1
    have f1 := (cell_rowP hx 1 (by simp)).1
    simp only [List.getElem_toArray, List.getElem_cons_zero, List.getElem_cons_succ] at f0 f1
    have HBV : Hid (Below w.heap.size w V) := HB1.out.trans (hV.b _ (Nat.le_refl _))
    clear hV hx
    go_wp2_with fail
    rw [Exit.noGoto_ret]
    refine bodyPost_ret (v := .tuple #[.agg #[.slice none 0 0, .int .i64 0], .bool false, .int .i64 1]) (by simp [results, Tryz.results8, go_sem, f0, f1]) rfl ?_
    exact ⟨HBV.out, fun h => absurd h (by simp), fun _ => rfl⟩
  | true =>
    have h64 : L.length ≤ 64 := (okB_iff.1 HA.out.symm).1
    go_wp2_with fail
    go_step3
    go_wp2_with fail
    obtain ⟨B0, HBB⟩ := hid_exP w1.heap.size
    obtain ⟨w2, HW2⟩ := hid_exP (w1.alloc (.cells #[.slice none 0 0, .int .i64 0] 38))
    have HB2 : Hid (Below w.heap.size w w2) := by rw [HW2.out]; exact HB1.out.alloc HB1.out.size _
    have HX2 : Hid (w2.heap[w.heap.size]? = some (.cells #[.slice none 0 0, .int .i64 0] 38)) := by
      unfold Hid
      rw [HW2.out, Below.heap_alloc _ _ _ (Array.getElem?_eq_some_iff.1 HX1.out).1]
      exact HX1.out
    have HT2 : Hid (w2.heap[B0]? = some (.cells #[.slice none 0 0, .int .i64 0] 38)) := by rw [HW2.out, HBB.out]; exact heap_alloc_new _ _
    have HBl : Hid (w.heap.size < B0) := by
      unfold Hid
      rw [HBB.out]
      exact (Array.getElem?_eq_some_iff.1 HX1.out).1
    rw [← HW2.out, ← HBB.out]
    clear HW2 HBB HX1 HB1
    go_loopw [6, 12] (fun sv i wr => ∃ (k : Nat) (T : Tk) (v' : Value), k ≤ 4 ∧ i = .int .i64 (k : Int) ∧ sv = .bool T.s ∧ Hid (T = stT L k) ∧ Hid (∀ j : Nat, j < k → fulF L (j : Int) = false) ∧ Hid (wr.heap[B0]? = some (.cells #[v', .int .i64 T.lv] 38)) ∧ Hid (OwnP wr w.heap.size v' T.fs) ∧ Hid (Below B0 w2 wr)) (fun _ i _ => 4 - (intOf i).toNat)
    case atStart => exact ⟨0, tkZ, _, by omega, rfl, rfl, rfl, fun j hj => absurd hj (by omega), HT2.out, OwnP.nil _ _, Below.refl _ _⟩
    case round =>
      obtain ⟨k, T, v', hk, rfl, rfl, HT, HFu, HTB, HO, HB⟩ := hrel
      have HBr : Hid (Below w.heap.size w wr) := HB2.out.trans (HB.out.mono (by have := HBl.out; omega))
      have HXr : Hid (wr.heap[w.heap.size]? = some (.cells #[.slice none 0 0, .int .i64 0] 38)) := (HB.out.block _ HBl.out).trans HX2.out
      have hBr : B0 < wr.heap.size := (Array.getElem?_eq_some_iff.1 HTB.out).1
      by_cases hlt : k < 4
      · obtain ⟨q, Hq⟩ := hid_exP (fulF L (k : Int))
        go_wp2_with fail
        refine (full_any _ L (k : Int) _ (HR.out.below HBr.out) h64 (by omega) (by omega)).mono ?_
        rw [← Hq.out]
        rintro e w3 ⟨rfl, hb3⟩
        have HB3 : Hid (Below w.heap.size w w3) := HBr.out.trans (hb3.mono HBr.out.size)
        have HB23 : Hid (Below B0 w2 w3) := HB.out.trans (hb3.mono (by omega))
        have HO3 : Hid (OwnP w3 w.heap.size v' T.fs) := HO.out.below hb3
        have HT3 : Hid (w3.heap[B0]? = some (.cells #[v', .int .i64 T.lv] 38)) := (hb3.block _ hBr).trans HTB.out
        have HX3 : Hid (w3.heap[w.heap.size]? = some (.cells #[.slice none 0 0, .int .i64 0] 38)) := (HB23.out.block _ HBl.out).trans HX2.out
        have hB3 : B0 < w3.heap.size := (Array.getElem?_eq_some_iff.1 HT3.out).1
        clear hb3
        cases q with
        | true =>
          have HEQ : Hid ((⟨filF [(k : Int), (k : Int) + 1] L, (k : Int) + 1, true⟩ : Tk) = offT L) := (offT_full hlt HFu.out Hq.out.symm).symm
          have hbn : Below w3.heap.size w3 (w3.alloc (.cells #[.int .i64 (k : Int), .int .i64 ((k : Int) + 1)] 3)) := (Below.refl _ _).alloc (Nat.le_refl _) _
          have HBN : Hid _ := hbn
          clear hbn
          go_wp2_with fail
          refine (filesOf_any _ _ L [(k : Int), (k : Int) + 1] _ (HR.out.below (HB3.out.trans (HBN.out.mono HB3.out.size))) (reads2 w3 _ _ _ _ rfl) h64).mono ?_
          rintro e w4 ⟨vf, rfl, hO4, hb4⟩
          have hsz3 : w3.heap.size ≤ (w3.alloc (.cells #[.int .i64 (k : Int), .int .i64 ((k : Int) + 1)] 3)).heap.size := HBN.out.size
          have hb34 : Below w3.heap.size w3 w4 := HBN.out.trans (hb4.mono hsz3)
          have HB4 : Hid (Below w.heap.size w w4) := HB3.out.trans (hb34.mono HB3.out.size)
          have HT4 : Hid (w4.heap[B0]? = some (.cells #[v', .int .i64 T.lv] 38)) := (hb34.block _ hB3).trans HT3.out
          have HX4 : Hid (w4.heap[w.heap.size]? = some (.cells #[.slice none 0 0, .int .i64 0] 38)) := (hb34.block _ (by have := HBl.out; omega)).trans HX3.out
          have HO4 : Hid (OwnP w4 w.heap.size vf (filF [(k : Int), (k : Int) + 1] L)) := hO4.mono (by have := HB3.out.size; omega)
          obtain ⟨va, vc, rfl, hvl⟩ := hO4.form
          clear hO4 hb4 hb34 HBN
          go_wp2_with (refine stop_storeP 38 _ _ rfl ?_)
          refine StopP.of ?_
          refine wpList_storeNP rfl _ _ _ rfl B0 0 [.slice va (filF [(k : Int), (k : Int) + 1] L).length vc, .int .i64 ((k : Int) + 1)] rfl rfl _ _ HT4.out (by simp) (by kernel_rfl) (by kernel_rfl) ?_
          intro W hW
          have HTB : Hid (W.heap[B0]? = some (.cells #[.slice va (filF [(k : Int), (k : Int) + 1] L).length vc, .int .i64 ((k : Int) + 1)] 38)) := box_stW hW rfl
          have HBW : Hid (Below w.heap.size w W) := HB4.out.trans (hW.b _ (by have := HBl.out; omega))
          have HXX : Hid (W.heap[w.heap.size]? = some (.cells #[.slice none 0 0, .int .i64 0] 38)) := (hW.o _ (by have := HBl.out; omega)).trans HX4.out
          have HOW : Hid (OwnP W w.heap.size (.slice va (filF [(k : Int), (k : Int) + 1] L).length vc) (filF [(k : Int), (k : Int) + 1] L)) := own_stW HO4.out hW HT4.out (by decide)
          clear hW
          generalize filF [(k : Int), (k : Int) + 1] L = fl at *
          have hg0 := (cell_rowP HTB.out 0 (by simp)).1
          have hg1 := (cell_rowP HTB.out 1 (by simp)).1
          simp only [List.getElem_toArray, List.getElem_cons_zero, List.getElem_cons_succ] at hg0 hg1
          go_wp2_with (refine stop_storeP 38 _ _ rfl ?_)
          refine StopP.of ?_
          refine wpList_storeNP rfl _ _ _ rfl w.heap.size 0 [.slice va fl.length vc, .int .i64 ((k : Int) + 1)] rfl rfl _ _ HXX.out (by simp) (by kernel_rfl) (by kernel_rfl) ?_
          intro V hV
          have hx := box_stW hV rfl
          have f0 := (cell_rowP hx 0 (by simp)).1
          have f1 := (cell_rowP hx 1 (by simp)).1
          simp only [List.getElem_toArray, List.getElem_cons_zero, List.getElem_cons_succ] at f0 f1
          have HBV : Hid (Below w.heap.size w V) := HBW.out.trans (hV.b _ (Nat.le_refl _))
          have HOV : Hid (OwnP V w.heap.size (.slice va fl.length vc) fl) := own_stW HOW.out hV HXX.out (by decide)
          clear hV hx hg0 hg1
          go_wp2_with fail
          rw [Exit.noGoto_ret]
          refine bodyPost_ret (v := .tuple #[.agg #[.slice va fl.length vc, .int .i64 ((k : Int) + 1)], .bool true, .int .i64 0]) (by simp [results, Tryz.results8, go_sem, f0, f1]) rfl ?_
          exact ⟨HBV.out, fun _ => ⟨_, by rw [← HEQ.out], by rw [← HEQ.out]; exact HOV.out⟩, fun h => absurd h (by simp)⟩
        | false =>
          have HFn : Hid (∀ j : Nat, j < k + 1 → fulF L (j : Int) = false) := by
            intro j hj
            rcases Nat.lt_or_ge j k with h9 | h9
            · exact HFu.out j h9
            · obtain rfl : j = k := by omega
              exact Hq.out.symm
          cases hs : T.s with
          | true =>
            have HTn : Hid (T = stT L (k + 1)) := by
              unfold Hid
              rw [stT, ← HT.out, if_pos hs]
            have HSs : Hid (T.s = true) := hs
            clear hs
            go_wp2_with fail
            go_roundw
            case rel => exact ⟨k + 1, T, v', by omega, by go_num, by rw [HSs.out], HTn.out, HFn.out, HT3.out, HO3.out, HB23.out⟩
            case measure => simp [intOf]; omega
          | false =>
            obtain ⟨T2, HT2n⟩ := hid_exP (renT L (k : Int))
            have HTn : Hid (T2 = stT L (k + 1)) := by
              unfold Hid
              rw [stT, ← HT.out, if_neg (by rw [hs]; simp), HT2n.out]
            go_wp2_with fail
            refine (renewed_any _ L (k : Int) _ (HR.out.below HB3.out) h64).mono ?_
            rw [← HT2n.out]
            rintro e w4 ⟨vf, rfl, hO4, hb4⟩
            have HB4 : Hid (Below w.heap.size w w4) := HB3.out.trans (hb4.mono HB3.out.size)
            have HB24 : Hid (Below B0 w2 w4) := HB23.out.trans (hb4.mono (by omega))
            have HT4 : Hid (w4.heap[B0]? = some (.cells #[v', .int .i64 T.lv] 38)) := (hb4.block _ hB3).trans HT3.out
            have HO4 : Hid (OwnP w4 w.heap.size vf T2.fs) := hO4.mono HB3.out.size
            obtain ⟨va, vc, rfl, hvl⟩ := hO4.form
            clear hO4 hb4 hs
            go_wp2_with (refine stop_storeP 38 _ _ rfl ?_)
            refine StopP.of ?_
            refine wpList_storeNP rfl _ _ _ rfl B0 0 [.slice va T2.fs.length vc, .int .i64 T2.lv] rfl rfl _ _ HT4.out (by simp) (by kernel_rfl) (by kernel_rfl) ?_
            intro W hW
            have HTB2 : Hid (W.heap[B0]? = some (.cells #[.slice va T2.fs.length vc, .int .i64 T2.lv] 38)) := box_stW hW rfl
            have HBW : Hid (Below B0 w2 W) := HB24.out.trans (hW.b _ (Nat.le_refl _))
            have HOW : Hid (OwnP W w.heap.size (.slice va T2.fs.length vc) T2.fs) := own_stW HO4.out hW HT4.out (by decide)
            clear hW
            go_wp2_with fail
            go_roundw
            case rel => exact ⟨k + 1, T2, _, by omega, by go_num, rfl, HTn.out, HFn.out, HTB2.out, HOW.out, HBW.out⟩
            case measure => simp [intOf]; omega
      · obtain rfl : k = 4 := by omega
        have HEQ : Hid (T = offT L) := by
          unfold Hid
          rw [offT_none HFu.out]
          exact HT.out
        have HBW : Hid (Below w.heap.size w wr) := HBr.out
        have HOW : Hid (OwnP wr w.heap.size v' T.fs) := HO.out
        have HXX : Hid (wr.heap[w.heap.size]? = some (.cells #[.slice none 0 0, .int .i64 0] 38)) := HXr.out
        obtain ⟨va, vc, rfl, hvl⟩ := HO.out.form
        obtain ⟨fs, lv, s⟩ := T
        dsimp only at *
        have hg0 := (cell_rowP HTB.out 0 (by simp)).1
        have hg1 := (cell_rowP HTB.out 1 (by simp)).1
        simp only [List.getElem_toArray, List.getElem_cons_zero, List.getElem_cons_succ] at hg0 hg1
        go_wp2_with (refine stop_storeP 38 _ _ rfl ?_)
        refine StopP.of ?_
        refine wpList_storeNP rfl _ _ _ rfl w.heap.size 0 [.slice va fs.length vc, .int .i64 lv] rfl rfl _ _ HXX.out (by simp) (by kernel_rfl) (by kernel_rfl) ?_
        intro V hV
        have hx := box_stW hV rfl
        have f0 := (cell_rowP hx 0 (by simp)).1
        have f1 := (cell_rowP hx 1 (by simp)).1
        simp only [List.getElem_toArray, List.getElem_cons_zero, List.getElem_cons_succ] at f0 f1
        have HBV : Hid (Below w.heap.size w V) := HBW.out.trans (hV.b _ (Nat.le_refl _))
        have HOV : Hid (OwnP V w.heap.size (.slice va fs.length vc) fs) := own_stW HOW.out hV HXX.out (by decide)
        clear hV hx hg0 hg1
        go_wp2_with fail
        rw [Exit.noGoto_ret]
        refine bodyPost_ret (v := .tuple #[.agg #[.slice va fs.length vc, .int .i64 lv], .bool s, .int .i64 0]) (by simp [results, Tryz.results8, go_sem, f0, f1]) rfl ?_
        exact ⟨HBV.out, fun _ => ⟨_, by rw [← HEQ.out], by rw [← HEQ.out]; exact HOV.out⟩, fun h => absurd h (by simp)⟩
end Go.Proofs.YthicmbjiblbcmaaGreat

/- law16's alive: what comes of fixed calls. -/
namespace Go.Proofs.YthicmbjiblbcmaaGreat
open Go.RowKit Go.Shelf

end Go.Proofs.YthicmbjiblbcmaaGreat

/- Full; what is offered: plain facts. -/
namespace Go.Proofs.YthicmbjiblbcmaaGreat
open Go.RowKit Go.Shelf

/-- The lowest full level of the last d ones; -1: none is. -/
def lowG (L : List Rn) : Nat → Int
  | 0 => -1
  | d + 1 => if fulF L (3 - (d : Int)) then 3 - (d : Int) else lowG L d
theorem lowG4 (L : List Rn) : lowG L 4 = if fulF L 0 then 0 else if fulF L 1 then 1 else if fulF L 2 then 2 else -1 := by
  have h3 : fulF L 3 = false := by simp [fulF]
  simp [lowG, h3]
theorem lowG_bnd (L : List Rn) (d : Nat) (hd : d ≤ 4) : -1 ≤ lowG L d ∧ lowG L d ≤ 3 := by
  induction d with
  | zero => simp [lowG]
  | succ d ih =>
    have := ih (by omega)
    unfold lowG
    split
    · omega
    · exact this
theorem mem_filF {ls : List Int} {L : List Rn} {x : Int} : x ∈ filF ls L ↔ ∃ r ∈ L, r.l ∈ ls ∧ r.f = x := by
  unfold filF
  rw [(srt_perm _).mem_iff]
  unfold pkF
  simp [has, and_assoc]
theorem foldl_stepR (lv : Int) : ∀ (L : List Rn) (m : Int), L.foldl (stepR lv) m = m ∨ ∃ r ∈ L, r.l = lv ∧ r.s = true ∧ L.foldl (stepR lv) m = r.f
  | [], m => .inl rfl
  | r :: L, m => by
    rw [List.foldl_cons]
    rcases foldl_stepR lv L (stepR lv m r) with h | ⟨x, hx, h1, h2, h3⟩
    · rw [h]
      unfold stepR
      split
      · rename_i hc
        exact .inr ⟨r, List.mem_cons_self .., hc.1, hc.2.1, rfl⟩
      · exact .inl rfl
    · exact .inr ⟨x, List.mem_cons_of_mem _ hx, h1, h2, h3⟩
theorem renT_some {L : List Rn} {lv : Int} (h : (renT L lv).s = true) : ∃ r ∈ L, r.l = lv ∧ r.s = true ∧ renT L lv = ⟨[r.f], lv, true⟩ := by
  unfold renT at h ⊢
  split at h
  · simp [tkZ] at h
  · rename_i hn
    rw [if_neg hn]
    rcases foldl_stepR lv L 0 with h0 | ⟨r, hr, h1, h2, h3⟩
    · exact absurd h0 hn
    · refine ⟨r, hr, h1, h2, ?_⟩
      have : renF L lv = r.f := h3
      rw [this]
theorem stT_some {L : List Rn} : ∀ {k : Nat}, (stT L k).s = true → ∃ r ∈ L, r.s = true ∧ stT L k = ⟨[r.f], r.l, true⟩
  | 0, h => by simp [stT, tkZ] at h
  | k + 1, h => by
    rw [stT] at h ⊢
    by_cases hc : (stT L k).s = true
    · rw [if_pos hc]
      exact stT_some hc
    · rw [if_neg hc] at h ⊢
      obtain ⟨r, hr, h1, h2, h3⟩ := renT_some h
      exact ⟨r, hr, h2, by rw [h3, h1]⟩
/-- What is offered, either way. -/
theorem offT_some {L : List Rn} (h : (offT L).s = true) : (0 ≤ lowG L 4 ∧ lowG L 4 ≤ 2 ∧ offT L = ⟨filF [lowG L 4, lowG L 4 + 1] L, lowG L 4 + 1, true⟩) ∨ (lowG L 4 = -1 ∧ ∃ r ∈ L, r.s = true ∧ offT L = ⟨[r.f], r.l, true⟩) := by
  rw [lowG4]
  unfold offT at h ⊢
  by_cases h0 : fulF L 0 = true
  · rw [if_pos h0, if_pos h0]; exact .inl ⟨by omega, by omega, rfl⟩
  · rw [if_neg h0, if_neg h0]
    rw [if_neg h0] at h
    by_cases h1 : fulF L 1 = true
    · rw [if_pos h1, if_pos h1]; exact .inl ⟨by omega, by omega, rfl⟩
    · rw [if_neg h1, if_neg h1]
      rw [if_neg h1] at h
      by_cases h2 : fulF L 2 = true
      · rw [if_pos h2, if_pos h2]; exact .inl ⟨by omega, by omega, rfl⟩
      · rw [if_neg h2, if_neg h2]
        rw [if_neg h2] at h
        exact .inr ⟨rfl, stT_some h⟩
end Go.Proofs.YthicmbjiblbcmaaGreat

/- Runs put behind runs of one's own; the same runs in another order. -/
namespace Go.Proofs.YthicmbjiblbcmaaGreat
open Go.RowKit Go.Shelf

theorem wp_app_runP {w w' : World} {o : Oper} {a : Act} {K : Act → World → Prop} {Q : Exit → Act → World → Prop} (s x : Operand) (t ty : TypeId) (ho : o.op = .call { callee := .builtin .append, args := #[s, x], argTypes := #[t, t] }) (hty : o.type = ty) (v vx v' : Value) (hs : a.eval s = v) (hx : a.eval x = vx)
    (hrun : (Builtin.append_ #[t, t] ty #[v, vx]).run Tryz.prog w = .ok v' w') (h : K (a.put o.dst v') w') : o.wp Tryz.prog a w K Q := by
  subst hty
  unfold Oper.wp
  simp [execOp, ho, resolve, invoke, builtin, hs, hx, hrun, Result.andThen]
  exact h
theorem wpList_app_runP {w w' : World} {ops : Array Oper} {rest : List Oper} {o : Oper} {a : Act} {Q : Exit → Act → World → Prop} (hgd : o.guard = none) (s x : Operand) (t ty : TypeId) (ho : o.op = .call { callee := .builtin .append, args := #[s, x], argTypes := #[t, t] }) (hty : o.type = ty) (v vx v' : Value) (hs : a.eval s = v) (hx : a.eval x = vx)
    (hrun : (Builtin.append_ #[t, t] ty #[v, vx]).run Tryz.prog w = .ok v' w') (h : wpList Tryz.prog ops Q rest (a.put o.dst v') w') : wpList Tryz.prog ops Q (o :: rest) a w :=
  wpList_plain hgd fun _ hK => wp_app_runP s x t ty ho hty v vx v' hs hx hrun (hK _ _ h)
theorem oneR4 {r : Rn} : ∀ u ∈ r4 r, u.oneCell' = true := by
  intro u hu
  simp [r4] at hu
  rcases hu with rfl | rfl | rfl | rfl <;> rfl
theorem newsR4 {w : World} {r : Rn} {T : TypeId} : ∀ j u, (r4 r)[j]? = some u → (w.alloc (.cells #[.int .i64 r.f, .int .i64 r.l, .int .i64 r.c, .bool r.s] T)).cell? ((⟨w.heap.size, 0, none⟩ : Addr).add j) = some u := by
  intro j u hj
  match j, hj with
  | 0, hj => simp [r4] at hj; subst hj; simp [Addr.add]
  | 1, hj => simp [r4] at hj; subst hj; simp [Addr.add]
  | 2, hj => simp [r4] at hj; subst hj; simp [Addr.add]
  | 3, hj => simp [r4] at hj; subst hj; simp [Addr.add]
  | j + 4, hj => simp [r4] at hj
/-- One run, just laid, behind runs of one's own. -/
theorem run_appN {S T : TypeId} (und : Tryz.prog.underlying S = some (.slice T)) (inf : (Tryz.prog.info? T).map (fun i => (i.zero, i.size, i.bytes)) = some (some (.agg #[.int .i64 0, .int .i64 0, .int .i64 0, .bool false]), 4, 32)) {w0 : World} (ty : TypeId) (base : Nat) (v : Value) (L : List Rn) (r : Rn) (M : List Rn) (hM : M = L ++ [r]) (hown : NOwn T w0 base v L) (hr : RnOk r) (hlen : L.length ≤ 1000000) (hbase : base ≤ w0.heap.size) :
    ∃ v' w', (Builtin.append_ #[S, S] ty #[v, .slice (some ⟨w0.heap.size, 0, none⟩) 1 1]).run Tryz.prog (w0.alloc (.cells #[.int .i64 r.f, .int .i64 r.l, .int .i64 r.c, .bool r.s] T)) = .ok v' w' ∧ NOwn T w' base v' M ∧ Below base w0 w' := by
  subst hM
  obtain ⟨i0, hi, hz0, hz1, hz2⟩ := info_parts inf
  obtain ⟨v', w', hrun, hown', hgrow, _⟩ := run_append_own (P := Tryz.prog) (w0.alloc (.cells #[.int .i64 r.f, .int .i64 r.l, .int .i64 r.c, .bool r.s] T)) base S ty T i0 _ 4 32 und hi hz0 hz1 hz2 rfl (by decide) v L.length (L.flatMap r4) (hown.1.alloc _) ⟨w0.heap.size, 0, none⟩ 1 1 (r4 r) rfl newsR4 oneR4 (by unfold maxLen; omega) (by omega) (by simp; omega)
  refine ⟨v', w', hrun, ⟨?_, ?_⟩, ((Below.refl _ _).alloc hbase _).grown hgrow (by simp; omega) (own_blockP hown.1)⟩
  · rw [List.flatMap_append, List.length_append]
    simpa using hown'
  · intro x hx
    rcases List.mem_append.1 hx with h | h
    · exact hown.2 x h
    · simp at h; subst h; exact hr
theorem infoN : (Tryz.prog.info? 47).map (fun i => (i.zero, i.size, i.bytes)) = some (some (.agg #[.int .i64 0, .int .i64 0, .int .i64 0, .bool false]), 4, 32) := by kernel_rfl
theorem apart_symm {a b : Rn} (h : apart a b) : apart b a := ⟨fun e => h.1 e.symm, fun ⟨h1, h2⟩ => h.2 ⟨by omega, h2.symm⟩⟩
theorem foldl_le (lv : Int) : ∀ (L : List Rn) (m : Int), (∀ r ∈ L, 1 ≤ r.f) → 0 ≤ m → 0 ≤ L.foldl (stepR lv) m ∧ (m ≠ 0 → L.foldl (stepR lv) m ≠ 0 ∧ L.foldl (stepR lv) m ≤ m) ∧ ∀ r ∈ L, r.l = lv → r.s = true → L.foldl (stepR lv) m ≠ 0 ∧ L.foldl (stepR lv) m ≤ r.f
  | [], m, _, hm => ⟨hm, fun h => ⟨h, Int.le_refl _⟩, fun r hr => by simp at hr⟩
  | r :: L, m, hL, hm => by
    have h1 : 1 ≤ r.f := hL r (List.mem_cons_self ..)
    have hs : 0 ≤ stepR lv m r ∧ (m ≠ 0 → stepR lv m r ≠ 0 ∧ stepR lv m r ≤ m) ∧ (r.l = lv → r.s = true → stepR lv m r ≠ 0 ∧ stepR lv m r ≤ r.f) := by
      unfold stepR
      split
      · rename_i hc
        exact ⟨by omega, fun h => ⟨by omega, by rcases hc.2.2 with h | h <;> omega⟩, fun _ _ => ⟨by omega, Int.le_refl _⟩⟩
      · rename_i hc
        refine ⟨hm, fun h => ⟨h, Int.le_refl _⟩, fun h2 h3 => ?_⟩
        have h4 : ¬ (m = 0 ∨ r.f < m) := fun h => hc ⟨h2, h3, h⟩
        exact ⟨fun e => h4 (.inl e), by omega⟩
    obtain ⟨i1, i2, i3⟩ := foldl_le lv L (stepR lv m r) (fun x hx => hL x (List.mem_cons_of_mem _ hx)) hs.1
    rw [List.foldl_cons]
    refine ⟨i1, fun h => ?_, fun x hx h2 h3 => ?_⟩
    · obtain ⟨a1, a2⟩ := hs.2.1 h
      obtain ⟨b1, b2⟩ := i2 a1
      exact ⟨b1, by omega⟩
    · rcases List.mem_cons.1 hx with rfl | hx
      · obtain ⟨a1, a2⟩ := hs.2.2 h2 h3
        obtain ⟨b1, b2⟩ := i2 a1
        exact ⟨b1, by omega⟩
      · exact i3 x hx h2 h3
theorem renF_le {L : List Rn} (hL : ∀ r ∈ L, 1 ≤ r.f) (lv : Int) {r : Rn} (hr : r ∈ L) (h1 : r.l = lv) (h2 : r.s = true) : renF L lv ≠ 0 ∧ renF L lv ≤ r.f := (foldl_le lv L 0 hL (Int.le_refl _)).2.2 r hr h1 h2
end Go.Proofs.YthicmbjiblbcmaaGreat
