/- TN3 TN4 TT1 CP1, joined. -/
import Derived.Test.YtlpjdfgknmfmnaaTZ0
import Derived.Test.YtlpjdfgknmfmnaaTF11
import Derived.Test.YtlpjdfgknmfmnaaTF12
import Derived.Test.YtlpjdfgknmfmnaaTF13
import Derived.Test.YtlpjdfgknmfmnaaTF17
import Derived.Test.YtlpjdfgknmfmnaaTF18
import Derived.Laws.IdiomCopy
/- framed, and remembered of none. -/
namespace Go.Proofs.Ytlpjdfgknmfmnaa
open Go.RowKit

theorem framed_reads (v : Value) (l : List UInt8) (hl : l.length ≤ 65535) (w : World) (hr : Reads w v l) : Calls Try.prog 18 #[v] w fun e w' => ∃ v', e = .returned v' ∧ Own w' w.heap.size v' (frm l) ∧ Below w.heap.size w w' := by
  go_enter Try.func18, Try.ntmps18
  go_wp2_with fail
  refine (frame_any v l hl _ hr).mono ?_
  rintro e w1 ⟨v', rfl, HO, HB⟩
  go_wp2_with fail
  go_ret
  exact ⟨_, rfl, HO, HB⟩
set_option maxRecDepth 100000 in
theorem remembered_nil (w : World) : Calls Try.prog 22 #[.slice none 0 0] w fun e w' => ∃ v', e = .returned v' ∧ Own w' w.heap.size v' [6, 0] ∧ Below w.heap.size w w' := by
  go_enter Try.func22, Try.ntmps22
  go_wp2_with fail
  refine (fit_any 0 _).mono ?_
  rintro e w0 ⟨rfl, hw⟩
  rw [hw]
  clear hw w0
  rw [show fitF 0 = (8, 6, 0) from rfl]
  go_wp2_with fail
  refine (new_ok 1 6 (by unfold newOk; omega) _).mono ?_
  rintro e w1 ⟨v1, rfl, hf1, hb1⟩
  have HF1 : Hid (Fil w1 w.heap.size v1 6 (List.replicate 1 0)) := hf1
  have HB1 : Hid (Below w.heap.size w w1) := hb1
  clear hf1 hb1
  go_wp2_with fail
  go_loopw [27] (fun i wr => wr = w1 ∧ i = .int .i64 0) (fun _ _ => 0)
  case atStart => exact ⟨rfl, rfl⟩
  case round =>
    obtain ⟨hw, rfl⟩ := hrel
    rw [hw]
    clear hw
    go_wp2_with fail
    refine (write_any_B v1 6 _ _ _ HF1.out).mono ?_
    rintro e w2 ⟨v2, rfl, ho2, hb2⟩
    have HO2 : Hid (Own w2 w.heap.size v2 [6, 0]) := ho2.mono HB1.out.size
    have HB2 : Hid (Below w.heap.size w w2) := HB1.out.trans (hb2.mono HB1.out.size)
    clear ho2 hb2
    go_wp2_with fail
    go_ret
    exact ⟨_, rfl, HO2.out, HB2.out⟩
end Go.Proofs.Ytlpjdfgknmfmnaa

/- slices.Chunk of none, for table.Write of none: the walk of Write goes on from here: mayBe_nil, chunk_nil, then Code.rangeFunc. -/
namespace Go.Proofs.Ytlpjdfgknmfmnaa
open Go.RowKit

theorem chunk_nil (w : World) : Calls Try.prog 16 #[.slice none 0 0, .int .i64 16] w fun e w' => e = .returned (.func (.func 50) #[] #[.pointer (some ⟨w.heap.size, 0, none⟩), .pointer (some ⟨w.heap.size + 1, 0, none⟩)]) ∧ w' = (w.alloc (.cells #[.slice none 0 0] 22)).alloc (.cells #[.int .i64 16] 3) := by
  go_enter Try.func16, Try.ntmps16
  go_wp2_with fail
  go_ret
  exact ⟨rfl, rfl⟩
end Go.Proofs.Ytlpjdfgknmfmnaa

/- table: slices.Chunk of any list. -/
namespace Go.Proofs.Ytlpjdfgknmfmnaa
open Go.RowKit

theorem elemTe : Try.prog.elem 22 = 43 := by kernel_rfl
theorem undTe : Try.prog.underlying 22 = some (.slice (Try.prog.elem 22)) := by rw [elemTe]; exact Try.underlying22
theorem sizeTe (w : World) : (sizeOf 43).run Try.prog w = .ok 7 w := by
  simp [sizeOf]
  rfl
theorem TRd.sliced {w : World} {a : Option Addr} {cap : Nat} {L : List Et} (h : TRd w (.slice a L.length cap) L) {c d m : Nat} (hc : c < d) (hd : d ≤ L.length) (hm : d ≤ m) (hmc : m ≤ cap) : TRd w (Go.sliced a c d m 7) ((L.take d).drop c) := by
  obtain ⟨a', cap', he, h1, h2, h3⟩ := h
  simp only [Value.slice.injEq] at he
  obtain ⟨rfl, _, rfl⟩ := he
  unfold Go.sliced
  rw [if_neg (by omega)]
  have hl : ((L.take d).drop c).length = d - c := by simp; omega
  refine ⟨_, m - c, by rw [hl], by omega, by omega, fun j hj => ?_⟩
  rw [hl] at hj
  obtain ⟨b, off, kv, g1, g2, g3, g4, g5⟩ := h3 (c + j) (by omega)
  have e : ((L.take d).drop c)[j]'(by rw [hl]; exact hj) = L[c + j]'(by omega) := by simp
  refine ⟨b, off + c * 7, kv, by rw [g1]; simp [Addr.add], g2, fun i hi => ?_, by rw [e]; exact g4, by rw [e]; exact g5⟩
  rw [show off + c * 7 + j * 7 + i = off + (c + j) * 7 + i by omega]
  rw [g3 i hi]
  simp only [e]
  rfl
theorem tCh_eq (L : List Et) (j : Nat) (d : Nat) (hd : d = min (16 * j + 16) L.length) (h : 16 * j ≤ L.length) : (L.take d).drop (16 * j) = tCh L j := by
  unfold tCh
  subst hd
  rw [List.drop_take]
  by_cases h2 : 16 * j + 16 ≤ L.length
  · rw [Nat.min_eq_left h2]; congr 1; omega
  · rw [Nat.min_eq_right (by omega), List.take_of_length_le (by simp), List.take_of_length_le (by simp; omega)]
/-- What Chunk hands over. -/
def PreT (w : World) (L : List Et) (pre : List Value) (x : Value) (_ : World) : Prop := TRd w x (tCh L pre.length) ∧ 16 * pre.length < L.length
def GT (Bs Bn : Nat) (v : Value) (A : World) : Prop := A.cell? ⟨Bs, 0, none⟩ = some v ∧ A.cell? ⟨Bn, 0, none⟩ = some (.int .i64 16)
theorem chunk_any (a : Option Addr) (n cap : Nat) (w : World) : Calls Try.prog 16 #[.slice a n cap, .int .i64 16] w fun e w' => e = .returned (.func (.func 50) #[] #[.pointer (some ⟨w.heap.size, 0, none⟩), .pointer (some ⟨w.heap.size + 1, 0, none⟩)]) ∧ w' = (w.alloc (.cells #[.slice a n cap] 22)).alloc (.cells #[.int .i64 16] 3) := by
  go_enter Try.func16, Try.ntmps16
  go_wp2_with fail
  go_ret
  exact ⟨rfl, rfl⟩
set_option maxRecDepth 100000 in
set_option maxHeartbeats 2000000 in
theorem chunk1_in (n : Nat) (_hn : 1 ≤ n) (n₀ l Bs Bn : Nat) (v : Value) (L : List Et) (w : World) (hR : TRd w v L) (hL : L.length ≤ 1000000) (J : List Value → World → Prop) (W : World)
    (hJ : ∀ pre A B, J pre A → Below A.heap.size A B → J pre B) (hG : ∀ pre A, J pre A → GT Bs Bn v A)
    (hY : ∀ pre x W1, J pre W1 → PreT w L pre x W1 → n₀ ≤ W1.heap.size → YieldAt Fence.wide (n - 1) Try.prog l #[x] W1 fun e W' => e = .returned (.bool true) ∧ J (pre ++ [x]) W' ∧ Below n₀ W1 W')
    (hn0 : n₀ ≤ W.heap.size) (h0 : J [] W) :
    CallsIn Fence.wide n Try.prog 50 #[.func (.yield l) #[] #[], .pointer (some ⟨Bs, 0, none⟩), .pointer (some ⟨Bn, 0, none⟩)] W fun e W' => (∃ v, e = .returned v) ∧ ∃ xs, xs.length = tK L.length ∧ J xs W' := by
  refine callsIn_of_wp Try.func50 rfl trivial ?_ rfl
  simp only [Try.ntmps50, List.size_toArray, List.length_cons, List.length_nil, Nat.reduceAdd, Nat.reduceSub, Array.replicate_succ, Array.replicate_zero, List.push_toArray, List.append_toArray, List.nil_append, List.cons_append]
  obtain ⟨a, cap, rfl, hcap, hm⟩ : ∃ a cap, v = .slice a L.length cap ∧ L.length ≤ cap ∧ cap ≤ maxLen := by obtain ⟨a, cap, h1, h2, h3, _⟩ := hR; exact ⟨a, cap, h1, h2, h3⟩
  unfold maxLen at hm
  have HR : Hid (TRd w (.slice a L.length cap) L) := hR
  obtain ⟨N, HN⟩ : ∃ n, Hid (L.length = n) := ⟨_, rfl⟩
  have HG : Hid (∀ pre A, J pre A → GT Bs Bn (.slice a N cap) A) := by unfold Hid; rw [← HN.out]; exact hG
  have HY : Hid (∀ pre x W1, J pre W1 → PreT w L pre x W1 → n₀ ≤ W1.heap.size → YieldAt Fence.wide (n - 1) Try.prog l #[x] W1 fun e W' => e = .returned (.bool true) ∧ J (pre ++ [x]) W' ∧ Below n₀ W1 W') := hY
  rw [HN.out] at hcap hL ⊢
  have HJ : Hid (∀ pre A B, J pre A → Below A.heap.size A B → J pre B) := hJ
  clear hJ hG hY hR
  gi_wp2
  gi_loopw [4] (fun i wr => ∃ (j : Nat) (pre : List Value), i = .int .i64 ((16 * j : Nat) : Int) ∧ Hid (pre.length = j) ∧ 16 * j < N + 16 ∧ Hid (J pre wr) ∧ n₀ ≤ wr.heap.size) (fun i _ => N + 16 - (intOf i).toNat)
  case atStart => exact ⟨0, [], rfl, rfl, by omega, h0, hn0⟩
  case round =>
    obtain ⟨j, pre, rfl, HP, hj, HJp, hnz⟩ := hrel
    obtain ⟨hcs, hcn⟩ := HG.out _ _ HJp.out
    obtain ⟨I, HI⟩ : ∃ n : Nat, Hid (16 * j = n) := ⟨_, rfl⟩
    rw [HI.out] at hj ⊢
    by_cases hlt : I < N
    · have hlt' : (I : Int) < (N : Int) := by omega
      obtain ⟨E, HE⟩ : ∃ n : Nat, Hid (min 16 (N - I) = n) := ⟨_, rfl⟩
      have hE1 : E ≤ 16 := by rw [← HE.out]; omega
      have hE2 : I + E ≤ N := by rw [← HE.out]; omega
      have hE0 : 0 < E := by rw [← HE.out]; omega
      have hmin : (if ((N - I : Nat) : Int) < 16 then ((N - I : Nat) : Int) else 16) = (E : Int) := by rw [← HE.out]; split <;> omega
      obtain ⟨A1, C1, HS1⟩ : ∃ A1 C1, Hid (∀ w', (Instr.slice 22 (.slice a N cap) (some (.int .i64 (I : Int))) none none).run Try.prog w' = .ok (.slice A1 (N - I) C1) w') := ⟨_, _, fun w' => by
        rw [run_slice_l _ _ _ _ _ undTe _ _ (by omega) (by omega), elemTe, sizeTe]; rfl⟩
      obtain ⟨v2, HS2, HR2⟩ : ∃ v2, Hid (∀ w', (Instr.slice 22 (.slice a N cap) (some (.int .i64 (I : Int))) (some (.int .i64 ((I : Int) + (E : Int)))) (some (.int .i64 ((I : Int) + (E : Int))))).run Try.prog w' = .ok v2 w') ∧ Hid (TRd w v2 (tCh L j)) := by
        refine ⟨Go.sliced a I (I + E) (I + E) 7, fun w' => ?_, ?_⟩
        · rw [run_slice_lhm _ _ _ _ _ undTe _ _ _ _ _ _ (by omega) (by omega) (by omega) (by omega), elemTe, sizeTe]
          simp only [Result.andThen]
          congr 2
        · have h := HR.out
          have q := h.sliced (c := I) (d := I + E) (m := I + E) (by omega) (by rw [HN.out]; omega) (Nat.le_refl _) (by omega)
          rw [← HI.out, tCh_eq L j _ (by rw [HI.out, HN.out, ← HE.out]; omega) (by rw [HI.out, HN.out]; omega)] at q
          rw [← HI.out]
          exact q
      have hs1 := HS1.out
      gi_wp2
      refine wpIn_wide.2 ?_
      refine wp_region_noPanic ?_
      refine wp_region_held_drew (S := fun w' => w'.cell? ⟨Bs, 0, none⟩ = some (.slice a N cap) ∧ w'.cell? ⟨Bn, 0, none⟩ = some (.int .i64 16)) (by kernel_rfl) ?_ (fun hHeld => ?_)
      · exact ⟨hcs, hcn⟩
      refine tk (i := 0) (v := .int .i64 16) rfl ?_ ?_
      · intro w1 hSw; go_simp
      simp only [za, zc, Act.put, zd, ze, zf]
      refine tk (i := 1) (v := .slice a N cap) rfl ?_ ?_
      · intro w1 hSw; go_simp
      simp only [za, zb, zc, Act.put, zd, ze, zf]
      refine tk (i := 2) (v := .int .i64 (I : Int)) rfl ?_ ?_
      · intro w1 hSw; go_simp
      simp only [za, zb, zc, Act.put, zd, ze, zf]
      refine tk (i := 3) (v := .slice A1 (N - I) C1) rfl ?_ ?_
      · intro w1 hSw; go_simp
      simp only [za, zb, zc, Act.put, zd, ze, zf]
      refine tk (i := 4) (v := .int .i64 ((N - I : Nat) : Int)) rfl ?_ ?_
      · intro w1 hSw; go_simp
      simp only [za, zb, zc, Act.put, zd, ze, zf]
      refine tk (i := 5) (v := .int .i64 (E : Int)) rfl ?_ ?_
      · intro w1 hSw; go_simp
      simp only [za, zb, zc, Act.put, zd, ze, zf]
      refine tk (i := 6) (v := .int .i64 (E : Int)) rfl ?_ ?_
      · intro w1 hSw; go_simp
      simp only [za, zb, zc, Act.put, zd, ze, zf]
      refine wpAnyH_done (by kernel_rfl) ?_ _
      refine NoPanic.normal ?_
      have hJ2 : J pre wr.drew := HJ.out pre _ _ HJp.out (Below.refl _ _).drew
      obtain ⟨fn, tmps, assign, body, hy, hRd⟩ := HY.out pre v2 wr.drew hJ2 ⟨by rw [HP.out]; exact HR2.out, by rw [HP.out, HN.out, HI.out]; exact hlt⟩ hnz
      have hs2 := HS2.out
      clear hJ2
      gi_wp2
      refine hRd.mono ?_
      rintro e W3 ⟨rfl, hJ3, hk3⟩
      have HJ3 : Hid (J (pre ++ [v2]) W3) := hJ3
      obtain ⟨hcs3, hcn3⟩ := HG.out _ _ hJ3
      have hnz3 : n₀ ≤ W3.heap.size := by have := hk3.size; have : wr.drew.heap.size = wr.heap.size := rfl; omega
      clear hy hRd hk3 hJ3 hcs hcn hs1 hs2
      gi_wp2
      go_roundw
      case rel =>
        have hi := HI.out
        exact ⟨j + 1, _, by rw [← HI.out]; go_num, by simp [Hid, HP.out], by omega, HJ3, hnz3⟩
      case measure => simp [intOf]; omega
    · have hlt' : ¬ (I : Int) < (N : Int) := by omega
      gi_wp2
      refine bodyPost_end (results_none rfl _ _ _) rfl ?_
      exact ⟨⟨_, rfl⟩, pre, by rw [HP.out]; have := HI.out; unfold tK; omega, HJp.out⟩
end Go.Proofs.Ytlpjdfgknmfmnaa

/- Bytes that are copied into the middle of bytes of one's own. -/
namespace Go.Proofs.Ytlpjdfgknmfmnaa
open Go.RowKit

theorem copy_gen {w : World} {base g n off m : Nat} {L l : List UInt8} {v : Value} (ty : TypeId) (hO : Own w base (.slice (some ⟨g, 0, none⟩) n n) L) (hR : Reads w v l) (hl : off + l.length ≤ n) (hm : m = n - off) :
    ∃ w3, (Builtin.copy_ #[25, 25] ty #[.slice (some ⟨g, off, none⟩) m m, v]).run Try.prog w = .ok (goInt l.length) w3 ∧ Own w3 base (.slice (some ⟨g, 0, none⟩) n n) (L.take off ++ l ++ L.drop (off + l.length)) ∧ Hid (Below base w w3) ∧ Hid (w.grownBy w3 (some g)) := by
  subst hm
  obtain ⟨i0, hi, hz0, hz1, hz2⟩ := info_parts info5
  have hLn : L.length = n := by
    obtain ⟨a, cap, hv, _⟩ := hO.form
    simp at hv; omega
  have hOw := hO
  obtain ⟨h1, h2⟩ := hO
  rcases h2 with ⟨h2, _⟩ | ⟨g', cap, cur, hv, hg, hw, hn, hm, hs, ht⟩
  · simp at h2
  · simp at hv
    obtain ⟨rfl, hv2, rfl⟩ := hv
    rcases hR with ⟨rfl, a, cp, rfl, _⟩ | ⟨b, o, cp, rfl, r2, r3, r4, r5, r6⟩
    · refine ⟨w, ?_, by simpa using hOw, Below.refl _ _, ⟨rfl, rfl, rfl, Nat.le_refl _, fun _ _ _ => rfl⟩⟩
      exact run_copy_none w 25 25 ty 5 _ a (n - off) (n - off) 0 cp Try.underlying25 (by rw [hi]; simp [hz1]) (Nat.zero_min _)
    · have hcl : cur.toList = L.map bc := by
        rw [← ht, List.take_of_length_le (by simp; omega)]
      have hrun := run_copy_row (P := Try.prog) w 25 25 ty 5 g off (n - off) (n - off) ⟨b, o, none⟩ l.length cp cur 5 (l.map bc) Try.underlying25 (by rw [hi]; simp [hz1]) hw (by rw [List.length_map]; exact (Nat.min_eq_left (by omega)).symm) (newsR r6) (by simp; omega) one_bc
      rw [List.length_map] at hrun
      refine ⟨_, hrun, ?_, below_setRow (Below.refl _ _) hg _, ?_⟩
      · have hheap := setRow_heap w g cur (cur.toList.take off ++ l.map bc ++ cur.toList.drop (off + l.length)).toArray 5 (0, 0) hw
        have e1 : cur.toList.take off ++ l.map bc ++ cur.toList.drop (off + l.length) = (L.take off ++ l ++ L.drop (off + l.length)).map bc := by
          rw [hcl]; simp
        rw [e1] at hheap ⊢
        have hlen : (L.take off ++ l ++ L.drop (off + l.length)).length = n := by simp; omega
        refine ⟨by simp, .inr ⟨g, n, _, by rw [hlen], hg, hheap, by omega, hm, by rw [List.size_toArray, List.length_map]; omega, ?_⟩⟩
        rw [hlen, List.toList_toArray, Nat.mul_one]; exact List.take_of_length_le (by rw [List.length_map]; omega)
      · have hb := below_setRow (Below.refl 0 w) (Nat.zero_le g) (cur.toList.take off ++ l.map bc ++ cur.toList.drop (off + l.length)).toArray
        refine ⟨rfl, rfl, rfl, hb.size, fun k hk hne => ?_⟩
        show (w.heap.modify g _)[k]? = _
        rw [Array.getElem?_modify, if_neg (fun e => hne (by rw [e]))]
theorem copy_none {w : World} {d a : Option Addr} {m c c' : Nat} (ty : TypeId) : (Builtin.copy_ #[25, 25] ty #[.slice d m c, .slice a 0 c']).run Try.prog w = .ok (goInt 0) w := by
  obtain ⟨i0, hi, hz0, hz1, hz2⟩ := info_parts info5
  exact run_copy_none w 25 25 ty 5 d a m c 0 c' Try.underlying25 (by rw [hi]; simp [hz1]) (Nat.zero_min _)
end Go.Proofs.Ytlpjdfgknmfmnaa
