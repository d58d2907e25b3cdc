/- B7 CP0 B8 TA2, joined. -/
import Derived.Test.YtlpjdfgknmfmnaaTZ0
import Derived.Test.YtlpjdfgknmfmnaaTF2
import Derived.Test.YtlpjdfgknmfmnaaTF8
import Derived.Test.YtlpjdfgknmfmnaaTF10
import Derived.Laws.CopyOwn
import Derived.Laws.OwnMore
/- Whether lists are too long; a filter that no call made. -/
namespace Go.Proofs.Ytlpjdfgknmfmnaa
open Go.RowKit

/-- No filter, or one that no call made. -/
def NoF (w : World) (p : Option Addr) : Prop := p = none ∨ ∃ B, p = some ⟨B, 0, none⟩ ∧ B < w.heap.size ∧ w.cell? ⟨B, 0, none⟩ = some (.int .i64 0)
theorem NoF.below {w w' : World} {p : Option Addr} (h : NoF w p) (hb : Below w.heap.size w w') : NoF w' p := by
  rcases h with h | ⟨B, h1, h2, h3⟩
  · exact .inl h
  · exact .inr ⟨B, h1, Nat.lt_of_lt_of_le h2 hb.size, (hb.cell (p := ⟨B, 0, none⟩) h2).trans h3⟩
end Go.Proofs.Ytlpjdfgknmfmnaa

/- Bytes that are copied into bytes of one's own; bytes just made. -/
namespace Go.Proofs.Ytlpjdfgknmfmnaa
open Go.RowKit

theorem copy_own {w : World} {base g n off : Nat} {L l : List UInt8} {v : Value} (ty : TypeId) (hO : Own w base (.slice (some ⟨g, 0, none⟩) n n) L) (hR : Reads w v l) (h0 : 0 < l.length) (hl : off + l.length = n) :
    ∃ w3, (Builtin.copy_ #[25, 25] ty #[.slice (some ⟨g, off, none⟩) (n - off) (n - off), v]).run Try.prog w = .ok (goInt l.length) w3 ∧ Own w3 base (.slice (some ⟨g, 0, none⟩) n n) (L.take off ++ l) ∧ Hid (Below base w w3) ∧ Hid (w.grownBy w3 (some g)) := by
  obtain ⟨i0, hi, hz0, hz1, hz2⟩ := info_parts info5
  have hLn : L.length = n := by
    obtain ⟨a, cap, hv, _⟩ := hO.form
    simp at hv; omega
  have hOw := hO
  obtain ⟨h1, h2⟩ := hO
  rcases h2 with ⟨h2, _⟩ | ⟨g', cap, cur, hv, hg, hw, hn, hm, hs, ht⟩
  · simp at h2
  · simp at hv
    obtain ⟨rfl, hv2, rfl⟩ := hv
    rcases hR with ⟨rfl, _⟩ | ⟨b, o, cp, rfl, r2, r3, r4, r5, r6⟩
    · simp at h0
    · have hcl : cur.toList = L.map bc := by
        rw [← ht, List.take_of_length_le (by simp; omega)]
      have hrun := run_copy_row (P := Try.prog) w 25 25 ty 5 g off (n - off) (n - off) ⟨b, o, none⟩ l.length cp cur 5 (l.map bc) Try.underlying25 (by rw [hi]; simp [hz1]) hw (by rw [List.length_map]; exact (Nat.min_eq_left (by omega)).symm) (newsR r6) (by simp; omega) one_bc
      rw [List.length_map] at hrun
      refine ⟨_, hrun, ?_, below_setRow (Below.refl _ _) hg _, ?_⟩
      · have hheap := setRow_heap w g cur (cur.toList.take off ++ l.map bc ++ cur.toList.drop (off + l.length)).toArray 5 (0, 0) hw
        have e1 : cur.toList.take off ++ l.map bc ++ cur.toList.drop (off + l.length) = (L.take off ++ l).map bc := by
          rw [hcl, hl, List.drop_of_length_le (by simp; omega), List.append_nil, List.map_append, List.map_take]
        rw [e1] at hheap ⊢
        have hlen : (L.take off ++ l).length = n := by simp; omega
        refine ⟨by simp, .inr ⟨g, n, _, by rw [hlen], hg, hheap, by omega, hm, by simp; omega, ?_⟩⟩
        rw [hlen, List.toList_toArray, Nat.mul_one]; exact List.take_of_length_le (by rw [List.length_map]; omega)
      · have hb := below_setRow (Below.refl 0 w) (Nat.zero_le g) (cur.toList.take off ++ l.map bc ++ cur.toList.drop (off + l.length)).toArray
        refine ⟨rfl, rfl, rfl, hb.size, fun k hk hne => ?_⟩
        show (w.heap.modify g _)[k]? = _
        rw [Array.getElem?_modify, if_neg (fun e => hne (by rw [e]))]
/-- The same, at one operation. -/
theorem wp_copy {w : World} {o : Oper} {a : Act} {K : Act → World → Prop} {Q : Exit → Act → World → Prop} (d s : Operand)
    (ho : o.op = .call { callee := .builtin .copy, args := #[d, s], argTypes := #[25, 25] }) (base g n off m : Nat) (L l : List UInt8) (v : Value) (hm : n - off = m)
    (hd : a.eval d = .slice (some ⟨g, off, none⟩) m m) (hs : a.eval s = v) (hO : Own w base (.slice (some ⟨g, 0, none⟩) n n) L) (hR : Reads w v l) (h0 : 0 < l.length) (hl : off + l.length = n)
    (h : ∀ w', Own w' base (.slice (some ⟨g, 0, none⟩) n n) (L.take off ++ l) → Hid (Below base w w') → Hid (w.grownBy w' (some g)) → K (a.put o.dst (goInt l.length)) w') : o.wp Try.prog a w K Q := by
  subst hm
  obtain ⟨w', hrun, h1, h2, h3⟩ := copy_own (w := w) (off := off) o.type hO hR h0 hl
  unfold Oper.wp
  simp [execOp, ho, resolve, invoke, builtin, hd, hs, hrun, Result.andThen]
  exact h w' h1 h2 h3
theorem own_zeros {w2 : World} {base g n cap : Nat} (h : w2.ownsRow base 5 1 (.slice (some ⟨g, 0, none⟩) n cap) n (madeCells (Value.int .u8 0).cells n).toList) : Own w2 base (.slice (some ⟨g, 0, none⟩) n cap) (List.replicate n 0) := by
  have e0 : (Value.int .u8 0).cells = #[.int .u8 0] := rfl
  rw [e0, toList_madeCells_one] at h
  unfold Own; simpa [bc] using h
end Go.Proofs.Ytlpjdfgknmfmnaa

/- The contracts of a filter's Write and Read. -/
namespace Go.Proofs.Ytlpjdfgknmfmnaa
open Go.RowKit

set_option maxRecDepth 100000 in
set_option maxHeartbeats 1000000 in
theorem write_any_B (v : Value) (h : Nat) (D : List UInt8) (w : World) (base : Nat) (hF : Fil w base v h D) :
    Calls Try.prog 60 #[v] w fun e w' => ∃ v', e = .returned (.tuple #[v', .int .i64 0]) ∧ Own w' w.heap.size v' (UInt8.ofNat h :: D) ∧ Below w.heap.size w w' := by
  obtain ⟨B, g, cap, rfl, hB, hc, hO, hBg, hh1, hh8, hD0, hD1⟩ := id hF
  have HF : Hid (Fil w base (.pointer (some ⟨B, 0, none⟩)) h D) := hF
  have HDn : Hid (¬ D = []) := fun e => by rw [e] at hD0; simp at hD0
  have hBlt := (Array.getElem?_eq_some_iff.1 hc).1
  have c0 := cell_of hc 0 (by simp)
  have c1 := cell_of hc 1 (by simp)
  simp at c0 c1
  have HO : Hid (Own w base (.slice (some ⟨g, 0, none⟩) D.length cap) D) := hO
  obtain ⟨i0, hi, hz0, hz1, hz2⟩ := info_parts info5
  obtain ⟨w2, hrn, hown2, hg2⟩ := run_make_full (P := Try.prog) w w.heap.size 25 5 i0 (.int .u8 0) 1 Try.underlying25 hi hz0 hz1 .i64 .i64 (1 + D.length) (by rw [hz2]; omega) (by unfold maxLen; omega) (Nat.le_refl _)
  have e2 : ((1 + D.length : Nat) : Int) = 1 + (D.length : Int) := by omega
  rw [e2] at hrn
  rw [Nat.mul_one] at hown2
  have hO2 := own_zeros hown2
  have HB2 : Hid (Below w.heap.size w w2) := (Below.refl _ _).grown hg2 (Nat.le_refl _) (fun k hk => by cases hk)
  have c20 : w2.cell? ⟨B, 0, none⟩ = some (.int .i64 (h : Int)) := (HB2.out.cell (p := ⟨B, 0, none⟩) hBlt).trans c0
  have c21 : w2.cell? ⟨B, 1, none⟩ = some (.slice (some ⟨g, 0, none⟩) D.length cap) := (HB2.out.cell (p := ⟨B, 1, none⟩) hBlt).trans c1
  obtain ⟨_, hfz⟩ := hO2.at 0 (by simp; omega)
  obtain ⟨cz, _⟩ := hO2.at 0 (by simp; omega)
  obtain ⟨hO3, hB3⟩ := hO2.stored 0 (UInt8.ofNat h)
  have hbc : bc (UInt8.ofNat h) = .int .u8 (h : Int) := by unfold bc; rw [UInt8.toNat_ofNat', Nat.mod_eq_of_lt (by omega)]
  rw [hbc] at hO3 hB3
  obtain ⟨w3, HW3⟩ := hid_ex (w2.setCell ⟨w.heap.size, 0, none⟩ (.int .u8 (h : Int)))
  rw [← HW3.out] at hO3 hB3
  have HB3 : Hid (Below w.heap.size w w3) := HB2.out.trans hB3
  have c31 : w3.cell? ⟨B, 1, none⟩ = some (.slice (some ⟨g, 0, none⟩) D.length cap) := (HB3.out.cell (p := ⟨B, 1, none⟩) hBlt).trans c1
  have HO3 : Hid (Own w3 w.heap.size (.slice (some ⟨w.heap.size, 0, none⟩) (1 + D.length) (1 + D.length)) ((List.replicate (1 + D.length) (0 : UInt8)).set 0 (UInt8.ofNat h))) := hO3
  have HT1 : Hid (((List.replicate (1 + D.length) (0 : UInt8)).set 0 (UInt8.ofNat h)).take 1 = [UInt8.ofNat h]) := by unfold Hid; rw [Nat.add_comm, List.replicate_succ]; rfl
  clear hF hc hO hown2 hg2 hO2 hO3 hB3 e2 hi hz0 hz1 hz2
  go_enter Try.func60, Try.ntmps60
  go_wp2_with fail
  refine (made_any HF.out).mono ?_
  rintro e w' ⟨rfl, hw⟩
  subst w'
  go_wp2_with fail
  rw [← HW3.out]
  refine wp_region_noPanic ?_
  refine wp_region_held_drew (S := (fun w' => w'.cell? ⟨B, 1, none⟩ = some (.slice (some ⟨g, 0, none⟩) D.length cap) ∧ (∃ L : List UInt8, L.take 1 = [UInt8.ofNat h] ∧ Own w' w.heap.size (.slice (some ⟨w.heap.size, 0, none⟩) (1 + D.length) (1 + D.length)) L) ∧ Below w.heap.size w w')) (by kernel_rfl) ?_ (fun hHeld => ?_)
  · exact ⟨c31, ⟨_, HT1.out, HO3.out⟩, HB3.out.drew⟩
  refine tk (i := 0) (v := .slice (some ⟨w.heap.size, 0, none⟩) (1 + D.length) (1 + D.length)) rfl ?_ ?_
  · intro w1 hSw; go_simp
  simp only [za, zc, Act.put, zd, ze, zf]
  refine tk (i := 1) (v := .slice (some ⟨w.heap.size, 1, none⟩) D.length D.length) rfl ?_ ?_
  · (intro w1 hSw; (try dsimp only at hSw); go_simp; rw [if_pos (by omega), if_neg HDn.out])
  simp only [za, zb, zc, Act.put, zd, ze, zf]
  refine tk (i := 2) (v := .pointer (some ⟨B, 0, none⟩)) rfl ?_ ?_
  · intro w1 hSw; go_simp
  simp only [za, zb, zc, Act.put, zd, ze, zf]
  refine tk (i := 3) (v := .pointer (some ⟨B, 0, none⟩)) rfl ?_ ?_
  · intro w1 hSw; go_simp
  simp only [za, zb, zc, Act.put, zd, ze, zf]
  refine tk (i := 4) (v := .pointer (some ⟨B, 1, none⟩)) rfl ?_ ?_
  · intro w1 hSw; go_simp
  simp only [za, zb, zc, Act.put, zd, ze, zf]
  refine tk (i := 5) (v := .slice (some ⟨g, 0, none⟩) D.length cap) rfl ?_ ?_
  · (intro w1 hSw; (try dsimp only at hSw); have hcc := hSw.1; go_simp)
  simp only [za, zb, zc, Act.put, zd, ze, zf]
  refine wpAnyH_ready (rs := [6]) (by kernel_rfl) (by simp) ?_
  refine AllReadyH.cons (o := _) rfl (fun K hK => ?_) AllReadyH.nil
  obtain ⟨L1, hL1, hOL⟩ := hHeld.2.1
  refine wp_copy _ _ (by rfl) w.heap.size w.heap.size (1 + D.length) 1 D.length L1 D _ (by omega) (by rfl) (by rfl) hOL (HO.out.reads.below hHeld.2.2) hD0 rfl ?_
  intro w4 HO4 HB4 _
  rw [hL1] at HO4
  simp only [za, zb, zc, Act.put, zd, ze, zf]
  refine hK.out _ _ ?_ (fun hHeld => ?_)
  · exact ⟨(HB4.out.cell (p := ⟨B, 1, none⟩) (Nat.lt_of_lt_of_le hBlt (Nat.le_refl _))).trans hHeld.1, ⟨_, rfl, HO4⟩, hHeld.2.2.trans HB4.out⟩
  clear hK K
  refine wpAnyH_done (by kernel_rfl) ?_ _
  refine NoPanic.normal ?_
  have HB5 : Hid (Below w.heap.size w w4) := hHeld.2.2
  clear hHeld
  go_wp2_with fail
  go_ret2
  exact ⟨_, rfl, HO4, HB5.out⟩
end Go.Proofs.Ytlpjdfgknmfmnaa

/- table: remembered. -/
namespace Go.Proofs.Ytlpjdfgknmfmnaa
open Go.RowKit

/-- How many bytes the filter of so many keys has. -/
def rmN (n : Nat) : Nat := ((fitF (n : Int)).1 / 8).toNat
/-- The filter's digits with the keys of these entries. -/
def rmD (n : Nat) (l : List Et) : List UInt8 := l.foldl (fun D x => adF D (plc x.1 (8 * rmN n) 6)) (List.replicate (rmN n) 0)
def rmB (l : List Et) : List UInt8 := 6 :: rmD l.length l
theorem rmD_len (n : Nat) : ∀ (l : List Et) (D : List UInt8), D.length = rmN n → (l.foldl (fun D x => adF D (plc x.1 (8 * rmN n) 6)) D).length = rmN n
  | [], _, h => h
  | x :: l, D, h => by rw [List.foldl_cons]; exact rmD_len n l _ (by rw [adF_len]; exact h)
theorem rmN_ok {n : Nat} (h : n ≤ 4096) : newOk (fitF (n : Int)).1 6 ∧ (fitF (n : Int)).2 = (6, 0) ∧ rmN n ≤ 8192 ∧ 0 < rmN n ∧ (fitF (n : Int)).1 = 8 * (rmN n : Int) := by
  have e : fitF (n : Int) = (8 * max ((10 * (n : Int) + 7) / 8) 1, 6, 0) := by unfold fitF; rw [if_neg (by omega), if_neg (by omega)]
  unfold rmN newOk
  rw [e]
  refine ⟨⟨by omega, by omega, by omega, by omega, by omega⟩, rfl, by omega, by omega, by omega⟩
theorem rmD_snoc {n : Nat} {l : List Et} {j : Nat} (hj : j < l.length) {x : Et} (hx : x = l[j]) : rmD n (l.take (j + 1)) = adF (rmD n (l.take j)) (plc x.1 (8 * rmN n) 6) := by
  unfold rmD
  rw [List.take_add_one, List.getElem?_eq_getElem hj, ← hx, List.foldl_append]
  rfl
set_option maxRecDepth 100000 in
set_option maxHeartbeats 4000000 in
theorem remembered_any (v : Value) (L : List Et) (w : World) (h : TRd w v L) (hl : L.length ≤ 4096) : Calls Try.prog 22 #[v] w fun e w' => ∃ v', e = .returned v' ∧ Own w' w.heap.size v' (rmB L) ∧ Below w.heap.size w w' := by
  obtain ⟨a, cap, rfl, hc, hm⟩ : ∃ a cap, v = .slice a L.length cap ∧ L.length ≤ cap ∧ cap ≤ maxLen := by obtain ⟨a, cap, h1, h2, h3, _⟩ := h; exact ⟨a, cap, h1, h2, h3⟩
  unfold maxLen at hm
  obtain ⟨ok1, ok2, ok3, ok4, ok5⟩ := rmN_ok hl
  have HR : Hid (TRd w (.slice a L.length cap) L) := h
  have HBe : Hid (rmB L = 6 :: rmD L.length (L.take L.length)) := by unfold Hid rmB; rw [List.take_length]
  obtain ⟨N, HN⟩ : ∃ n, Hid (L.length = n) := ⟨_, rfl⟩
  rw [HN.out] at HR hc hl ok1 ok2 ok3 ok4 ok5 HBe ⊢
  have hF := fit_any (N : Int) w
  have hF1 : (fitF (N : Int)).2.1 = 6 ∧ (fitF (N : Int)).2.2 = 0 := by rw [ok2]; exact ⟨rfl, rfl⟩
  rw [hF1.1, hF1.2] at hF
  obtain ⟨FD, HFD⟩ := hid_ex (fitF (N : Int)).1
  rw [← HFD.out] at hF ok1
  have HF : Hid (Calls Try.prog 57 #[.int .i64 (N : Int)] w _) := hF
  have HOk : Hid (newOk FD 6) := ok1
  have HD0 : Hid (List.replicate (FD / 8).toNat (0 : UInt8) = rmD N (L.take 0)) := by unfold Hid rmD rmN; rw [HFD.out]; rfl
  have HDl : Hid (∀ j, (rmD N (L.take j)).length = rmN N) := fun j => rmD_len N _ _ (by simp)
  clear h hF hF1 ok1 ok2 ok5 HFD
  go_enter Try.func22, Try.ntmps22
  go_wp2_with fail
  refine HF.out.mono ?_
  clear HF
  rintro e w1 ⟨rfl, rfl⟩
  have HNw : Hid (Calls Try.prog 58 #[.int .i64 FD, .int .i64 6] w1 _) := new_any FD 6 w1
  go_wp2_with fail
  refine HNw.out.mono ?_
  clear HNw
  rintro e w2 (⟨fv, rfl, _, hfil, hb2⟩ | ⟨_, hno, _⟩)
  · obtain ⟨B, hfv⟩ := hfil.ptr
    subst hfv
    rw [HD0.out] at hfil
    have HFil : Hid (Fil w2 w1.heap.size (.pointer (some ⟨B, 0, none⟩)) 6 (rmD N (L.take 0))) := hfil
    have HB2 : Hid (Below w1.heap.size w1 w2) := hb2
    clear hfil hb2
    go_wp2_with fail
    go_loopw [27] (fun i wr => ∃ j : Nat, i = .int .i64 (j : Int) ∧ j ≤ N ∧ Hid (Fil wr w1.heap.size (.pointer (some ⟨B, 0, none⟩)) 6 (rmD N (L.take j))) ∧ Hid (Below w1.heap.size w1 wr)) (fun i _ => N - (intOf i).toNat)
    case atStart => exact ⟨0, rfl, by omega, HFil, HB2⟩
    case round =>
      clear HFil HB2
      obtain ⟨j, rfl, hj, HFr, HB⟩ := hrel
      by_cases hlt : j < N
      · have hlt' : (j : Int) < (N : Int) := by omega
        have hjl : j < L.length := by rw [HN.out]; exact hlt
        obtain ⟨x, Hx⟩ := hid_ex L[j]
        have Hsn : Hid (rmD N (L.take (j + 1)) = adF (rmD N (L.take j)) (plc x.1 (8 * rmN N) 6)) := rmD_snoc hjl Hx.out
        obtain ⟨b, off, kv, rfl, hbw, hcs, hrk, hag⟩ := (HR.out.below HB.out).at hjl Hx.out
        obtain ⟨k, A⟩ := x
        simp only at hcs hrk hag Hsn
        obtain ⟨ka, kc, rfl, hkm⟩ := hrk.form
        unfold maxLen at hkm
        obtain ⟨KL, HKL⟩ : ∃ n, Hid (k.length = n) := ⟨_, rfl⟩
        rw [HKL.out] at hcs hrk hkm
        have HRk : Hid (Reads wr (.slice ka KL kc) k) := hrk
        have c0 := hcs 0 (by decide)
        have c1 := hcs 1 (by decide)
        have c2 := hcs 2 (by decide)
        have c3 := hcs 3 (by decide)
        have c4 := hcs 4 (by decide)
        have c5 := hcs 5 (by decide)
        have c6 := hcs 6 (by decide)
        simp only [e7, List.getElem_cons_succ, List.getElem_cons_zero, Nat.add_zero] at c0 c1 c2 c3 c4 c5 c6
        have HOn : Hid (([.slice ka KL kc, .int .u64 A.c, .bool A.o, .int .i64 (hi A.s), .int .u64 (lo A.s), .int .i64 A.mn, .int .i64 A.mx] : List Value).toArray.all (·.oneCell') = true) := by unfold Hid; kernel_rfl
        clear hcs hrk hag Hx
        go_wp2_with (refine stop_store 43 _ _ rfl ?_)
        refine Stop.of ?_
        refine wpList_storeN rfl _ _ _ rfl wr.heap.size 0 [.slice ka KL kc, .int .u64 A.c, .bool A.o, .int .i64 (hi A.s), .int .u64 (lo A.s), .int .i64 A.mn, .int .i64 A.mx] rfl rfl _ _ (heap_alloc_new _ _) (by simp) (by kernel_rfl) HOn.out ?_
        intro w3 hw3
        obtain ⟨hb3, hx3, hz3⟩ := stW_nw hw3 (by simp)
        have HB3 : Hid (Below w1.heap.size w1 w3) := HB.out.trans (hb3.mono HB.out.size)
        have HF3 : Hid (Fil w3 w1.heap.size (.pointer (some ⟨B, 0, none⟩)) 6 (rmD N (L.take j))) := HFr.out.below hb3
        have HRk3 : Hid (Reads w3 (.slice ka KL kc) k) := HRk.out.below hb3
        have q0 := cell_rw hx3 0 (by simp)
        simp only [List.getElem_toArray, List.getElem_cons_zero] at q0
        have hAd := add_any_B (.pointer (some ⟨B, 0, none⟩)) (.slice ka KL kc) 6 (rmD N (L.take j)) k w3 w1.heap.size HB3.out.size HF3.out HRk3.out
        rw [HDl.out j, ← Hsn.out] at hAd
        have HAd : Hid (Calls Try.prog 59 #[.pointer (some ⟨B, 0, none⟩), .slice ka KL kc] w3 _) := hAd
        clear hAd hw3 hb3 hx3 c0 c1 c2 c3 c4 c5 c6
        go_wp2_with fail
        refine HAd.out.mono ?_
        clear HAd
        rintro e w4 ⟨rfl, hf4, hb4, _⟩
        have HF4 : Hid (Fil w4 w1.heap.size (.pointer (some ⟨B, 0, none⟩)) 6 (rmD N (L.take (j + 1)))) := hf4
        have HB4 : Hid (Below w1.heap.size w1 w4) := HB3.out.trans hb4
        clear hf4 hb4
        go_wp2_with fail
        go_roundw
        case rel => exact ⟨j + 1, by go_num, by omega, HF4, HB4⟩
        case measure => simp [intOf]; omega
      · have hlt' : ¬ (j : Int) < (N : Int) := by omega
        obtain rfl : j = N := by omega
        have HWr : Hid (Calls Try.prog 60 #[.pointer (some ⟨B, 0, none⟩)] wr _) := write_any_B (.pointer (some ⟨B, 0, none⟩)) 6 _ wr w1.heap.size HFr.out
        go_wp2_with fail
        refine HWr.out.mono ?_
        clear HWr
        rintro e w3 ⟨v3, rfl, ho3, hb3⟩
        have HO3 : Hid (Own w3 w1.heap.size v3 (rmB L)) := by
          unfold Hid
          rw [HBe.out]
          exact ho3.mono HB.out.size
        have HB3 : Hid (Below w1.heap.size w1 w3) := HB.out.trans (hb3.mono HB.out.size)
        obtain ⟨a3, c3, hv3, _⟩ := ho3.form
        subst hv3
        clear ho3 hb3
        go_wp2_with fail
        go_ret
        exact ⟨_, rfl, HO3.out, HB3.out⟩
  · exact absurd HOk.out hno
end Go.Proofs.Ytlpjdfgknmfmnaa
