/- The reference of layer 14: Next. -/
import Derived.Test.YtkifnpaenhpndaaMR1
import Derived.Test.YtkifnpaenhpndaaMR2
namespace Go.Proofs.Ytkifnpaenhpndaa
open Go.RowKit Go.Joins

def bI : Option Nat → Int
  | none => -1
  | some j => (j : Int)
theorem wp_storeI {op : Oper} {a : Act} {w : World} {K : Act → World → Prop} {Q : Exit → Act → World → Prop} (ty : TypeId) (x y : Operand) (ho : op.op = .store ty x y) (g off : Nat) (z : Int) (hx : a.eval x = .pointer (some ⟨g, off, none⟩)) (hy : a.eval y = .int .i64 z)
    (cur : Array Value) (T : TypeId) (hg : w.heap[g]? = some (.cells cur T)) (hl : off + 1 ≤ cur.size) (hi : (Try.prog.info? ty).map (·.size) = some 1)
    (h : ∀ W, StW w W g off cur T [.int .i64 z] → K (a.put op.dst undef) W) : op.wp Try.prog a w K Q := by
  unfold Oper.wp execOp
  simp only [ho, hx, hy, Instr.storeAt, Instr.sureAddr, Sem.run_bind, Sem.run_pure, Result.andThen_ok, run_storeVar_int w g off ty z (there_of hg hl) hi]
  exact h _ (stW_cells g T [.int .i64 z] off w cur hg hl)
/-- What Next of the reference leaves. -/
def RnPost (rs : List (List En)) (g : Nat) (D T : List Tg) (w : World) (e : Ending) (w' : World) : Prop := match T with
  | [] => e = .returned (.tuple #[env (.slice none 0 0) agZ, .int .i64 0, .bool false]) ∧ Below w.heap.size w w'
  | t :: _ => ∃ kv, e = .returned (.tuple #[env kv t.2, .int .i64 (t.1.2 : Int), .bool true]) ∧ Reads w' kv t.1.1 ∧ AtM w' g rs.length (cntD (D ++ [t])) ∧ (w.heap.size ≤ w'.heap.size ∧ ∀ lo, lo ≤ g → lo ≤ w.heap.size → Below lo w w') ∧ ∀ k, k < w.heap.size → k ≠ g → w'.heap[k]? = w.heap[k]?
set_option maxRecDepth 100000 in
set_option maxHeartbeats 2000000 in
theorem refNext_any (v : Value) (rs : List (List En)) (hx g : Nat) (D T : List Tg) (wA w : World) (hRA : RReads wA v rs) (hBA : Below wA.heap.size wA w) (hgA : wA.heap.size ≤ g) (hX : w.heap[hx]? = some (.cells #[v, .slice (some ⟨g, 0, none⟩) rs.length rs.length] 33)) (hA : AtM w g rs.length (cntD D)) (h0 : rowsF rs = 0) (hs : seqF rs = D ++ T) (hl : rs.length ≤ 20) :
    Calls Try.prog 14 #[.pointer (some ⟨hx, 0, none⟩)] w (RnPost rs g D T w) := by
  have hR : RReads w v rs := hRA.below hBA
  have HR : Hid (RReads w v rs) := hR
  have HRA : Hid (RReads wA v rs) := hRA
  have HBA : Hid (Below wA.heap.size wA w ∧ wA.heap.size ≤ g) := ⟨hBA, hgA⟩
  clear hRA hBA hgA
  obtain ⟨av, cv, rfl, hl1, hl2, _⟩ := hR
  unfold maxLen at hl2
  have HX : Hid _ := hX
  have HA : Hid (AtM w g rs.length (cntD D)) := hA
  have HZ : Hid _ := h0
  have HS0 : Hid _ := hs
  have HXL : Hid (hx < w.heap.size ∧ g < w.heap.size) := ⟨(Array.getElem?_eq_some_iff.1 hX).1, hA.lt⟩
  clear hX hA h0 hs
  go_enter Try.func14, Try.ntmps14
  go_wp2_with fail
  obtain ⟨w0, HW0⟩ := hid_ex (w.alloc (.cells #[.slice none 0 0, .int .u64 0, .bool false, .int .i64 0, .int .u64 0, .int .i64 0, .int .i64 0] 41))
  have HB0 : Hid (Below w.heap.size w w0) := by rw [HW0.out]; exact (Below.refl _ _).alloc (Nat.le_refl _) _
  have HX0 : Hid (w0.heap[w.heap.size]? = some (.cells #[.slice none 0 0, .int .u64 0, .bool false, .int .i64 0, .int .u64 0, .int .i64 0, .int .i64 0] 41)) := by rw [HW0.out]; exact heap_alloc_new _ _
  rw [← HW0.out]
  clear HW0
  go_loopw [5, 6] (fun bv i wr => ∃ (k : Nat) (o : Option Nat), k ≤ rs.length ∧ i = .int .i64 (k : Int) ∧ bv = .int .i64 (bI o) ∧ Hid (Best rs (cntD D) k o) ∧ Hid (Below w0.heap.size w0 wr)) (fun _ i _ => rs.length - (intOf i).toNat)
  case atStart => exact ⟨0, none, by omega, rfl, rfl, best_zero _ _, Below.refl _ _⟩
  case round =>
    obtain ⟨k, o, hk, rfl, rfl, HBE, HBr⟩ := hrel
    have HB : Hid (Below w.heap.size w wr) := HB0.out.trans (HBr.out.mono HB0.out.size)
    have hxr : wr.heap[hx]? = _ := (HB.out.block hx HXL.out.1).trans HX.out
    have x0 := (cell_row hxr 0 (by simp)).1
    have x1 := (cell_row hxr 1 (by simp)).1
    simp only [List.getElem_toArray, List.getElem_cons_zero, List.getElem_cons_succ] at x0 x1
    clear hxr
    have HAr : Hid (AtM wr g rs.length (cntD D)) := HA.out.keep (HB.out.block g HXL.out.2)
    by_cases hlt : k < rs.length
    · obtain ⟨rb, ro, rfl⟩ := rReads_ptr HR.out (by omega)
      obtain ⟨ev, hcv, hev⟩ := rReads_at (HR.out.below HB.out) hlt
      obtain ⟨ea, ec, rfl, hle1, hle2⟩ := hev.form
      unfold maxLen at hle2
      have a0 := (HAr.out.cell hlt).1
      by_cases hc : cntD D k < rs[k].length
      · have HFK : Hid _ := frT_some hlt hc
        obtain ⟨eb, eo, rfl⟩ := eReads_ptr hev (by omega)
        obtain ⟨kv, hcc, hRk, _⟩ := eReads_at hev hc rfl
        have c0 := hcc 0 (by decide)
        simp only [c7, List.getElem_cons_zero, Nat.add_zero] at c0
        obtain ⟨ak, ck, rfl, _⟩ := hRk.form
        obtain ⟨X, HXk⟩ := hid_ex ((rs[k]'hlt)[cntD D k]'hc)
        rw [← HXk.out] at c0 hRk HFK
        have HRk : Hid (Reads wr (.slice ak X.1.length ck) X.1) := hRk
        have HC0 : Hid _ := c0
        have hcv2 := hcv
        have HCV : Hid _ := hcv
        have HA0 : Hid _ := a0
        clear hev hcc hRk c0 hcv2 HXk
        have a0' := a0
        have hc' := hc
        obtain ⟨c, Hc⟩ := hid_ex (cntD D k)
        obtain ⟨rl, Hrl⟩ := hid_ex (rs[k]'hlt).length
        rw [← Hc.out] at hc a0 HC0 HA0
        rw [← Hrl.out] at hc hcv hle1 HCV
        clear Hc Hrl a0' hc'
        go_wp2_with fail
        go_quiet (fail)
        obtain ⟨wd, Hwd⟩ := hid_ex (wr.drewN nq)
        have hbd : Below wr.heap.size wr wd := by rw [Hwd.out]; exact below_drewN (Below.refl _ _) nq
        rw [← Hwd.out]
        clear Hwd
        have HBd : Hid (Below w0.heap.size w0 wd) := HBr.out.trans (hbd.mono HBr.out.size)
        have HRd : Hid (Reads wd (.slice ak X.1.length ck) X.1) := HRk.out.below hbd
        cases o with
        | none =>
          have HBN : Hid (Best rs (cntD D) (k + 1) (some k)) := best_first HBE.out HFK.out
          have e0 : bI none = -1 := rfl
          rw [e0]
          clear e0 hbd x0 x1 a0 hcv
          go_wp2_with fail
          go_quiet (fail)
          have HB2 : Hid (Below w0.heap.size w0 (wd.drewN nq)) := below_drewN HBd.out nq
          go_wp2_with fail
          go_roundw
          case rel => exact ⟨k + 1, some k, by omega, by go_num, rfl, HBN.out, HB2.out⟩
          case measure => simp [intOf]; omega
        | some j =>
          have HCW : Hid (∀ (p : Addr) (v : Value), wr.cell? p = some v → wd.cell? p = some v) := fun p v q => (hbd.cell (cell_block q).1).trans q
          have HBw : Hid (Below w.heap.size w wd) := HB.out.trans (hbd.mono HB.out.size)
          have hAd : AtM wd g rs.length (cntD D) := HA.out.keep (HBw.out.block g HXL.out.2)
          obtain ⟨hjk, u, hu, _⟩ := id HBE.out
          have hu2 := hu
          obtain ⟨hj, hcj, rfl⟩ := frT_inv hu2
          obtain ⟨ev, hcvj, hev⟩ := rReads_at (HR.out.below HBw.out) hj
          obtain ⟨ja, jc, rfl, hje1, hje2⟩ := hev.form
          unfold maxLen at hje2
          obtain ⟨jb, jo, rfl⟩ := eReads_ptr hev (by omega)
          obtain ⟨kv, hcc, hRj, _⟩ := eReads_at hev hcj rfl
          have d0 := hcc 0 (by decide)
          simp only [c7, List.getElem_cons_zero, Nat.add_zero] at d0
          obtain ⟨aj, cj, rfl, _⟩ := hRj.form
          have b0 := (hAd.cell hj).1
          obtain ⟨Y, HYj⟩ := hid_ex ((rs[j]'hj)[cntD D j]'hcj)
          rw [← HYj.out] at d0 hRj hu
          have HLE : Hid (ltK X.1 Y.1 → Best rs (cntD D) (k + 1) (some k)) := fun q => best_less HBE.out HFK.out hu q
          have HGE : Hid (¬ ltK X.1 Y.1 → Best rs (cntD D) (k + 1) (some j)) := fun q => best_keep HBE.out HFK.out hu q
          obtain ⟨cc, Hcc⟩ := hid_ex (cntD D j)
          obtain ⟨jl, Hjl⟩ := hid_ex (rs[j]'hj).length
          rw [← Hcc.out] at hcj b0 d0
          rw [← Hjl.out] at hcj hcvj hje1
          have y0 := HCW.out _ _ x0
          have y1 := HCW.out _ _ x1
          have y2 := HCW.out _ _ hcv
          have y3 := HCW.out _ _ a0
          have y4 := HCW.out _ _ HC0.out
          have hq1 : ∀ n, (convert 34 9 (.slice ak X.1.length ck)).run Try.prog (wd.drewN n) = .ok (.string ⟨X.1.toArray⟩) (wd.drewN n) := fun n => reads_text (HRd.out.below (below_drewN (Below.refl _ _) n))
          have hq2 : ∀ n, (convert 34 9 (.slice aj Y.1.length cj)).run Try.prog (wd.drewN n) = .ok (.string ⟨Y.1.toArray⟩) (wd.drewN n) := fun n => reads_text (hRj.below (below_drewN (Below.refl _ _) n))
          have e0 : bI (some j) = (j : Int) := rfl
          rw [e0]
          clear e0 hbd x0 x1 a0 hcv hev hcc hRj hu hAd HYj Hcc Hjl HCW HC0 HCV HA0
          by_cases hlk : ltK X.1 Y.1
          · have hle : Op.bytesLess X.1 Y.1 = true := (less_iff _ _).2 hlk
            have HBN : Hid _ := HLE.out hlk
            clear hlk HLE HGE
            go_wp2_with fail
            go_quiet (fail)
            have HB2 : Hid (Below w0.heap.size w0 (wd.drewN nq)) := below_drewN HBd.out nq
            clear hq1 hq2 y0 y1 y2 y3 y4 d0 b0 hcvj
            go_wp2_with fail
            go_roundw
            case rel => exact ⟨k + 1, some k, by omega, by go_num, rfl, HBN.out, HB2.out⟩
            case measure => simp [intOf]; omega
          · have hle : Op.bytesLess X.1 Y.1 = false := less_no hlk
            have HBN : Hid _ := HGE.out hlk
            clear hlk HLE HGE
            go_wp2_with fail
            go_quiet (fail)
            have HB2 : Hid (Below w0.heap.size w0 (wd.drewN nq)) := below_drewN HBd.out nq
            clear hq1 hq2 y0 y1 y2 y3 y4 d0 b0 hcvj
            go_wp2_with fail
            go_roundw
            case rel => exact ⟨k + 1, some j, by omega, by go_num, rfl, HBN.out, HB2.out⟩
            case measure => simp [intOf]; omega
      · have HBN : Hid (Best rs (cntD D) (k + 1) o) := best_skip HBE.out (frT_none hlt hc)
        obtain ⟨c, Hc⟩ := hid_ex (cntD D k)
        obtain ⟨rl, Hrl⟩ := hid_ex (rs[k]'hlt).length
        rw [← Hc.out] at hc a0
        rw [← Hrl.out] at hc hcv hle1
        clear hev Hc Hrl
        go_wp2_with fail
        go_quiet (fail)
        have HB2 : Hid (Below w0.heap.size w0 (wr.drewN nq)) := below_drewN HBr.out nq
        clear x0 x1 a0 hcv
        go_wp2_with fail
        go_roundw
        case rel => exact ⟨k + 1, o, by omega, by go_num, rfl, HBN.out, HB2.out⟩
        case measure => simp [intOf]; omega
    · obtain rfl : k = rs.length := by omega
      have hwl : w.heap.size < w0.heap.size := (Array.getElem?_eq_some_iff.1 HX0.out).1
      have HX1 : Hid (wr.heap[w.heap.size]? = some (.cells #[.slice none 0 0, .int .u64 0, .bool false, .int .i64 0, .int .u64 0, .int .i64 0, .int .i64 0] 41)) := (HBr.out.block _ hwl).trans HX0.out
      clear hwl
      cases o with
      | none =>
        have hT : T = [] := best_nil HZ.out HS0.out HBE.out
        subst hT
        have e0 : bI none = -1 := rfl
        rw [e0]
        clear e0
        go_wp2_with (refine stop_store 41 _ _ rfl ?_)
        refine Stop.of ?_
        refine wpList_storeN rfl _ _ _ rfl w.heap.size 0 (c7 ⟨.slice none 0 0, [], agZ⟩) rfl rfl _ _ HX1.out (by rw [c7_len]; simp) (by kernel_rfl) (by kernel_rfl) ?_
        intro W hW
        obtain ⟨cur', k1, k2, k3, k4⟩ := hW.c
        have f0 := (Go.Joins.cell_of_block k1 0).trans (k4 0 (by simp [c7]))
        have f1 := (Go.Joins.cell_of_block k1 1).trans (k4 1 (by simp [c7]))
        have f2 := (Go.Joins.cell_of_block k1 2).trans (k4 2 (by simp [c7]))
        have f3 := (Go.Joins.cell_of_block k1 3).trans (k4 3 (by simp [c7]))
        have f4 := (Go.Joins.cell_of_block k1 4).trans (k4 4 (by simp [c7]))
        have f5 := (Go.Joins.cell_of_block k1 5).trans (k4 5 (by simp [c7]))
        have f6 := (Go.Joins.cell_of_block k1 6).trans (k4 6 (by simp [c7]))
        simp only [c7, List.getElem_cons_zero, List.getElem_cons_succ] at f0 f1 f2 f3 f4 f5 f6
        have HBW : Hid (Below w.heap.size w W) := HB.out.trans (hW.b _ (Nat.le_refl _))
        clear hW k1 k2 k3 k4
        go_wp2_with fail
        refine bodyPost_ret (v := .tuple #[env (.slice none 0 0) agZ, .int .i64 0, .bool false]) (by simp [results, Try.results14, go_sem, env, f0, f1, f2, f3, f4, f5, f6]) rfl ?_
        exact ⟨rfl, HBW.out⟩
      | some j =>
        obtain ⟨t, T', rfl, hj⟩ := best_cons HZ.out HS0.out HBE.out
        subst hj
        obtain ⟨hn, hc, hent⟩ := once_at HZ.out HS0.out
        obtain ⟨rb, ro, rfl⟩ := rReads_ptr HR.out (by omega)
        have HBr2 : Hid (Below wA.heap.size wA wr) := HBA.out.1.trans (HB.out.mono HBA.out.1.size)
        obtain ⟨ev, hcv0, hev⟩ := rReads_at HRA.out hn
        have hcv := (HBr2.out.cell (cell_block hcv0).1).trans hcv0
        obtain ⟨ea, ec, rfl, hle1, hle2⟩ := hev.form
        unfold maxLen at hle2
        obtain ⟨eb, eo, rfl⟩ := eReads_ptr hev (by omega)
        obtain ⟨kv, hq0, hRk, _⟩ := eReads_at hev hc rfl
        rw [hent] at hq0 hRk
        obtain ⟨X, HXt⟩ := hid_ex ((t.1.1, t.2) : En)
        rw [← HXt.out] at hq0 hRk
        obtain ⟨ak, ck, rfl, _⟩ := hRk.form
        have HRk : Hid (Reads wA (.slice ak X.1.length ck) X.1) := hRk
        have hq : ∀ i (hi : i < 7), wr.cell? ⟨eb, eo + cntD D t.1.2 * 7 + i, none⟩ = some ((c7 ⟨.slice ak X.1.length ck, X.1, X.2⟩)[i]'hi) := fun i hi => (HBr2.out.cell (cell_block (hq0 i hi)).1).trans (hq0 i hi)
        clear hq0 hcv0 hRk
        have a0 := (HAr.out.cell hn).1
        obtain ⟨c, Hc⟩ := hid_ex (cntD D t.1.2)
        obtain ⟨rl, Hrl⟩ := hid_ex (rs[t.1.2]'hn).length
        obtain ⟨n, Hn⟩ := hid_ex t.1.2
        rw [← Hc.out] at hc a0 hq
        rw [← Hrl.out] at hc hcv hle1
        have e0 : bI (some t.1.2) = (n : Int) := by rw [Hn.out]; rfl
        rw [e0]
        rw [← Hn.out] at hn a0 hcv
        clear e0
        have c0 := hq 0 (by decide)
        have c1 := hq (1 + 0) (by decide)
        have c2 := hq (1 + 1) (by decide)
        have c3 := hq (1 + 2) (by decide)
        have c4 := hq (1 + 3) (by decide)
        have c5 := hq (1 + 4) (by decide)
        have c6 := hq (1 + 5) (by decide)
        simp only [c7, List.getElem_cons_zero, List.getElem_cons_succ, Nat.add_zero, Nat.reduceAdd] at c0 c1 c2 c3 c4 c5 c6
        clear hq hent hev
        go_wp2_with fail
        refine wp_region_noPanic ?_
        refine wp_region_S 17 (fun w' => w'.cell? ⟨hx, 0, none⟩ = some (.slice (some ⟨rb, ro, none⟩) rs.length cv) ∧ w'.cell? ⟨hx, 1, none⟩ = some (.slice (some ⟨g, 0, none⟩) rs.length rs.length) ∧ w'.cell? ⟨g, n, none⟩ = some (.int .i64 (c : Int)) ∧ w'.cell? ⟨rb, ro + n, none⟩ = some (.slice (some ⟨eb, eo, none⟩) rl ec) ∧ w'.cell? ⟨eb, eo + c * 7, none⟩ = some (.slice ak X.1.length ck) ∧ w'.cell? ⟨eb, eo + c * 7 + 1, none⟩ = some (.int .u64 X.2.c) ∧ w'.cell? ⟨eb, eo + c * 7 + 2, none⟩ = some (.bool X.2.o) ∧ w'.cell? ⟨eb, eo + c * 7 + 3, none⟩ = some (.int .i64 (hi X.2.s)) ∧ w'.cell? ⟨eb, eo + c * 7 + 4, none⟩ = some (.int .u64 (lo X.2.s)) ∧ w'.cell? ⟨eb, eo + c * 7 + 5, none⟩ = some (.int .i64 X.2.mn) ∧ w'.cell? ⟨eb, eo + c * 7 + 6, none⟩ = some (.int .i64 X.2.mx)) (fun _ => True) (by kernel_rfl) ?_ ?_ (fun hHeld => ?_)
        · exact ⟨x0, x1, a0, hcv, c0, c1, c2, c3, c4, c5, c6⟩
        · trivial
        refine wpAnyS_take (i := 0) (v := .pointer (some ⟨hx, 0, none⟩)) _ rfl (by kernel_rfl) (by kernel_rfl) (by kernel_rfl) (by kernel_rfl) (by kernel_rfl) rfl (fun _ _ _ h => h) (Or.inl ⟨by rfl, ?_⟩) hHeld (fun hHeld => ?_)
        · (intro w1 hSw; have hSw := hSw.1; (try dsimp only at hSw); go_simp)
        simp only [List.getElem_toArray, List.getElem_cons_zero, Act.put, List.setIfInBounds_toArray, List.set_cons_zero, List.set_cons_succ]
        refine wpAnyS_take (i := 1) (v := .pointer (some ⟨hx, 0, none⟩)) _ rfl (by kernel_rfl) (by kernel_rfl) (by kernel_rfl) (by kernel_rfl) (by kernel_rfl) rfl (fun _ _ _ h => h) (Or.inl ⟨by rfl, ?_⟩) hHeld (fun hHeld => ?_)
        · (intro w1 hSw; have hSw := hSw.1; (try dsimp only at hSw); go_simp)
        simp only [List.getElem_toArray, List.getElem_cons_succ, List.getElem_cons_zero, Act.put, List.setIfInBounds_toArray, List.set_cons_zero, List.set_cons_succ]
        refine wpAnyS_take (i := 2) (v := .pointer (some ⟨hx, 0, none⟩)) _ rfl (by kernel_rfl) (by kernel_rfl) (by kernel_rfl) (by kernel_rfl) (by kernel_rfl) rfl (fun _ _ _ h => h) (Or.inl ⟨by rfl, ?_⟩) hHeld (fun hHeld => ?_)
        · (intro w1 hSw; have hSw := hSw.1; (try dsimp only at hSw); go_simp)
        simp only [List.getElem_toArray, List.getElem_cons_succ, List.getElem_cons_zero, Act.put, List.setIfInBounds_toArray, List.set_cons_zero, List.set_cons_succ]
        refine wpAnyS_take (i := 3) (v := .slice (some ⟨rb, ro, none⟩) rs.length cv) _ rfl (by kernel_rfl) (by kernel_rfl) (by kernel_rfl) (by kernel_rfl) (by kernel_rfl) rfl (fun _ _ _ h => h) (Or.inl ⟨by rfl, ?_⟩) hHeld (fun hHeld => ?_)
        · (intro w1 hSw; have hSw := hSw.1; (try dsimp only at hSw); go_simp)
        simp only [List.getElem_toArray, List.getElem_cons_succ, List.getElem_cons_zero, Act.put, List.setIfInBounds_toArray, List.set_cons_zero, List.set_cons_succ]
        refine wpAnyS_take (i := 4) (v := .int .i64 (n : Int)) _ rfl (by kernel_rfl) (by kernel_rfl) (by kernel_rfl) (by kernel_rfl) (by kernel_rfl) rfl (fun _ _ _ h => h) (Or.inl ⟨by rfl, ?_⟩) hHeld (fun hHeld => ?_)
        · (intro w1 hSw; have hSw := hSw.1; (try dsimp only at hSw); go_simp)
        simp only [List.getElem_toArray, List.getElem_cons_succ, List.getElem_cons_zero, Act.put, List.setIfInBounds_toArray, List.set_cons_zero, List.set_cons_succ]
        refine wpAnyS_take (i := 5) (v := .pointer (some ⟨rb, ro + n, none⟩)) _ rfl (by kernel_rfl) (by kernel_rfl) (by kernel_rfl) (by kernel_rfl) (by kernel_rfl) rfl (fun _ _ _ h => h) (Or.inl ⟨by rfl, ?_⟩) hHeld (fun hHeld => ?_)
        · (intro w1 hSw; have hSw := hSw.1; (try dsimp only at hSw); go_simp)
        simp only [List.getElem_toArray, List.getElem_cons_succ, List.getElem_cons_zero, Act.put, List.setIfInBounds_toArray, List.set_cons_zero, List.set_cons_succ]
        refine wpAnyS_take (i := 6) (v := .slice (some ⟨eb, eo, none⟩) rl ec) _ rfl (by kernel_rfl) (by kernel_rfl) (by kernel_rfl) (by kernel_rfl) (by kernel_rfl) rfl (fun _ _ _ h => h) (Or.inl ⟨by rfl, ?_⟩) hHeld (fun hHeld => ?_)
        · (intro w1 hSw; have hSw := hSw.1; (try dsimp only at hSw); go_simp)
        simp only [List.getElem_toArray, List.getElem_cons_succ, List.getElem_cons_zero, Act.put, List.setIfInBounds_toArray, List.set_cons_zero, List.set_cons_succ]
        refine wpAnyS_take (i := 7) (v := .pointer (some ⟨hx, 0, none⟩)) _ rfl (by kernel_rfl) (by kernel_rfl) (by kernel_rfl) (by kernel_rfl) (by kernel_rfl) rfl (fun _ _ _ h => h) (Or.inl ⟨by rfl, ?_⟩) hHeld (fun hHeld => ?_)
        · (intro w1 hSw; have hSw := hSw.1; (try dsimp only at hSw); go_simp)
        simp only [List.getElem_toArray, List.getElem_cons_succ, List.getElem_cons_zero, Act.put, List.setIfInBounds_toArray, List.set_cons_zero, List.set_cons_succ]
        refine wpAnyS_take (i := 8) (v := .pointer (some ⟨hx, 0, none⟩)) _ rfl (by kernel_rfl) (by kernel_rfl) (by kernel_rfl) (by kernel_rfl) (by kernel_rfl) rfl (fun _ _ _ h => h) (Or.inl ⟨by rfl, ?_⟩) hHeld (fun hHeld => ?_)
        · (intro w1 hSw; have hSw := hSw.1; (try dsimp only at hSw); go_simp)
        simp only [List.getElem_toArray, List.getElem_cons_succ, List.getElem_cons_zero, Act.put, List.setIfInBounds_toArray, List.set_cons_zero, List.set_cons_succ]
        refine wpAnyS_take (i := 9) (v := .pointer (some ⟨hx, 1, none⟩)) _ rfl (by kernel_rfl) (by kernel_rfl) (by kernel_rfl) (by kernel_rfl) (by kernel_rfl) rfl (fun _ _ _ h => h) (Or.inl ⟨by rfl, ?_⟩) hHeld (fun hHeld => ?_)
        · (intro w1 hSw; have hSw := hSw.1; (try dsimp only at hSw); go_simp)
        simp only [List.getElem_toArray, List.getElem_cons_succ, List.getElem_cons_zero, Act.put, List.setIfInBounds_toArray, List.set_cons_zero, List.set_cons_succ]
        refine wpAnyS_take (i := 10) (v := .slice (some ⟨g, 0, none⟩) rs.length rs.length) _ rfl (by kernel_rfl) (by kernel_rfl) (by kernel_rfl) (by kernel_rfl) (by kernel_rfl) rfl (fun _ _ _ h => h) (Or.inl ⟨by rfl, ?_⟩) hHeld (fun hHeld => ?_)
        · (intro w1 hSw; have hSw := hSw.1; (try dsimp only at hSw); go_simp)
        simp only [List.getElem_toArray, List.getElem_cons_succ, List.getElem_cons_zero, Act.put, List.setIfInBounds_toArray, List.set_cons_zero, List.set_cons_succ]
        refine wpAnyS_take (i := 11) (v := .int .i64 (n : Int)) _ rfl (by kernel_rfl) (by kernel_rfl) (by kernel_rfl) (by kernel_rfl) (by kernel_rfl) rfl (fun _ _ _ h => h) (Or.inl ⟨by rfl, ?_⟩) hHeld (fun hHeld => ?_)
        · (intro w1 hSw; have hSw := hSw.1; (try dsimp only at hSw); go_simp)
        simp only [List.getElem_toArray, List.getElem_cons_succ, List.getElem_cons_zero, Act.put, List.setIfInBounds_toArray, List.set_cons_zero, List.set_cons_succ]
        refine wpAnyS_take (i := 12) (v := .pointer (some ⟨g, n, none⟩)) _ rfl (by kernel_rfl) (by kernel_rfl) (by kernel_rfl) (by kernel_rfl) (by kernel_rfl) rfl (fun _ _ _ h => h) (Or.inl ⟨by rfl, ?_⟩) hHeld (fun hHeld => ?_)
        · (intro w1 hSw; have hSw := hSw.1; (try dsimp only at hSw); go_simp)
        simp only [List.getElem_toArray, List.getElem_cons_succ, List.getElem_cons_zero, Act.put, List.setIfInBounds_toArray, List.set_cons_zero, List.set_cons_succ]
        refine wpAnyS_take (i := 13) (v := .int .i64 (c : Int)) _ rfl (by kernel_rfl) (by kernel_rfl) (by kernel_rfl) (by kernel_rfl) (by kernel_rfl) rfl (fun _ _ _ h => h) (Or.inl ⟨by rfl, ?_⟩) hHeld (fun hHeld => ?_)
        · (intro w1 hSw; have hSw := hSw.1; (try dsimp only at hSw); go_simp)
        simp only [List.getElem_toArray, List.getElem_cons_succ, List.getElem_cons_zero, Act.put, List.setIfInBounds_toArray, List.set_cons_zero, List.set_cons_succ]
        refine wpAnyS_take (i := 14) (v := .pointer (some ⟨eb, eo + c * 7, none⟩)) _ rfl (by kernel_rfl) (by kernel_rfl) (by kernel_rfl) (by kernel_rfl) (by kernel_rfl) rfl (fun _ _ _ h => h) (Or.inl ⟨by rfl, ?_⟩) hHeld (fun hHeld => ?_)
        · (intro w1 hSw; have hSw := hSw.1; (try dsimp only at hSw); go_simp)
        simp only [List.getElem_toArray, List.getElem_cons_succ, List.getElem_cons_zero, Act.put, List.setIfInBounds_toArray, List.set_cons_zero, List.set_cons_succ]
        refine wpAnyS_take (i := 15) (v := .agg #[.slice ak X.1.length ck, .int .u64 X.2.c, .bool X.2.o, .int .i64 (hi X.2.s), .int .u64 (lo X.2.s), .int .i64 X.2.mn, .int .i64 X.2.mx]) _ rfl (by kernel_rfl) (by kernel_rfl) (by kernel_rfl) (by kernel_rfl) (by kernel_rfl) rfl (fun _ _ _ h => h) (Or.inl ⟨by rfl, ?_⟩) hHeld (fun hHeld => ?_)
        · (intro w1 hSw; have hSw := hSw.1; (try dsimp only at hSw); go_simp)
        simp only [List.getElem_toArray, List.getElem_cons_succ, List.getElem_cons_zero, Act.put, List.setIfInBounds_toArray, List.set_cons_zero, List.set_cons_succ]
        refine wpAnyS_ready (i := 16) (by kernel_rfl) rfl (fun K hK => ?_)
        go_simp
        obtain ⟨w6, HW6⟩ := hid_ex ((wr.alloc (.cells #[.slice none 0 0, .int .u64 0, .bool false, .int .i64 0, .int .u64 0, .int .i64 0, .int .i64 0] 41)).drew)
        have hb6 : Below wr.heap.size wr w6 := by rw [HW6.out]; exact ((Below.refl _ _).alloc (Nat.le_refl _) _).drew
        have HX6 : Hid (w6.heap[wr.heap.size]? = some (.cells #[.slice none 0 0, .int .u64 0, .bool false, .int .i64 0, .int .u64 0, .int .i64 0, .int .i64 0] 41)) := by rw [HW6.out]; exact heap_alloc_new _ _
        rw [← HW6.out]
        clear HW6
        refine hK.out _ _ ⟨?_, fun _ => ?_⟩ (fun hHeld => ?_)
        · exact ⟨(hb6.cell (cell_block x0).1).trans x0, (hb6.cell (cell_block x1).1).trans x1, (hb6.cell (cell_block a0).1).trans a0, (hb6.cell (cell_block hcv).1).trans hcv, (hb6.cell (cell_block c0).1).trans c0, (hb6.cell (cell_block c1).1).trans c1, (hb6.cell (cell_block c2).1).trans c2, (hb6.cell (cell_block c3).1).trans c3, (hb6.cell (cell_block c4).1).trans c4, (hb6.cell (cell_block c5).1).trans c5, (hb6.cell (cell_block c6).1).trans c6⟩
        · trivial
        clear hK K
        refine wpAnyS_ready (i := 17) (by kernel_rfl) rfl (fun K hK => ?_)
        rw [if_pos (by rfl)]
        refine wp_storeN _ _ _ rfl wr.heap.size 0 (c7 ⟨.slice ak X.1.length ck, [], X.2⟩) rfl rfl _ _ HX6.out (by rw [c7_len]; simp) (by kernel_rfl) (by kernel_rfl) (fun W0 hW0 => ?_)
        have hb7 : Below wr.heap.size wr W0 := hb6.trans (hW0.b _ (Nat.le_refl _))
        refine hK.out _ _ ⟨?_, fun hno => absurd hno (by decide)⟩ (fun hHeld => ?_)
        · exact ⟨(hb7.cell (cell_block x0).1).trans x0, (hb7.cell (cell_block x1).1).trans x1, (hb7.cell (cell_block a0).1).trans a0, (hb7.cell (cell_block hcv).1).trans hcv, (hb7.cell (cell_block c0).1).trans c0, (hb7.cell (cell_block c1).1).trans c1, (hb7.cell (cell_block c2).1).trans c2, (hb7.cell (cell_block c3).1).trans c3, (hb7.cell (cell_block c4).1).trans c4, (hb7.cell (cell_block c5).1).trans c5, (hb7.cell (cell_block c6).1).trans c6⟩
        clear hK K
        refine wpAnyS_done (by kernel_rfl) ?_ _
        refine NoPanic.normal ?_
        have HX7 : Hid (W0.heap[wr.heap.size]? = some (.cells (c7 ⟨.slice ak X.1.length ck, [], X.2⟩).toArray 41)) := by
          obtain ⟨cur', k1, k2, k3, k4⟩ := hW0.c
          unfold Hid
          rw [k1, cur7 (vs := c7 ⟨.slice ak X.1.length ck, [], X.2⟩) (by rw [k2]; rfl) k4]
        have HB7 : Hid (Below wr.heap.size wr W0) := hb7
        have y1 := (hb7.cell (cell_block x1).1).trans x1
        have y2 := (hb7.cell (cell_block a0).1).trans a0
        have hxl : hx < wr.heap.size := (cell_block x1).1
        have hgl : g < wr.heap.size := (cell_block a0).1
        obtain ⟨cur, hcur, hcu2⟩ := HAr.out
        have HCU : Hid (W0.heap[g]? = some (.cells cur 3)) := (hb7.block g hgl).trans hcur
        have HC2 : Hid (∀ i, i < rs.length → cur[i]? = some (.int .i64 (cntD D i : Int))) := hcu2
        have hcs : n < cur.size := (Array.getElem?_eq_some_iff.1 (hcu2 n hn)).1
        clear hb6 hb7 hW0 x0 x1 a0 hcv c0 c1 c2 c3 c4 c5 c6 hcur hcu2
        go_wp2_with fail
        refine wp_region_noPanic ?_
        refine wp_region_S 14 (fun _ => True) (fun w' => w'.cell? ⟨hx, 1, none⟩ = some (.slice (some ⟨g, 0, none⟩) rs.length rs.length) ∧ w'.cell? ⟨g, n, none⟩ = some (.int .i64 (c : Int))) (by kernel_rfl) ?_ ?_ (fun hHeld => ?_)
        · trivial
        · exact ⟨y1, y2⟩
        refine wpAnyS_take (i := 0) (v := .pointer (some ⟨hx, 0, none⟩)) _ rfl (by kernel_rfl) (by kernel_rfl) (by kernel_rfl) (by kernel_rfl) (by kernel_rfl) rfl (fun _ _ _ h => h) (Or.inl ⟨by rfl, ?_⟩) hHeld (fun hHeld => ?_)
        · (intro w1 hSw; have hSw := hSw.1; (try dsimp only at hSw); go_simp)
        simp only [List.getElem_toArray, List.getElem_cons_zero, Act.put, List.setIfInBounds_toArray]
        refine wpAnyS_take (i := 1) (v := .pointer (some ⟨hx, 0, none⟩)) _ rfl (by kernel_rfl) (by kernel_rfl) (by kernel_rfl) (by kernel_rfl) (by kernel_rfl) rfl (fun _ _ _ h => h) (Or.inl ⟨by rfl, ?_⟩) hHeld (fun hHeld => ?_)
        · (intro w1 hSw; have hSw := hSw.1; (try dsimp only at hSw); go_simp)
        simp only [List.getElem_toArray, List.getElem_cons_succ, List.getElem_cons_zero, Act.put, List.setIfInBounds_toArray, List.set_cons_zero, List.set_cons_succ]
        refine wpAnyS_take (i := 2) (v := .pointer (some ⟨hx, 1, none⟩)) _ rfl (by kernel_rfl) (by kernel_rfl) (by kernel_rfl) (by kernel_rfl) (by kernel_rfl) rfl (fun _ _ _ h => h) (Or.inl ⟨by rfl, ?_⟩) hHeld (fun hHeld => ?_)
        · (intro w1 hSw; have hSw := hSw.1; (try dsimp only at hSw); go_simp)
        simp only [List.getElem_toArray, List.getElem_cons_succ, List.getElem_cons_zero, Act.put, List.setIfInBounds_toArray, List.set_cons_zero, List.set_cons_succ]
        refine wpAnyS_take (i := 3) (v := .slice (some ⟨g, 0, none⟩) rs.length rs.length) true rfl (by kernel_rfl) (by kernel_rfl) (by kernel_rfl) (by kernel_rfl) (by kernel_rfl) (by kernel_rfl) (fun _ _ _ h => h) (Or.inl ⟨by rfl, ?_⟩) hHeld (fun hHeld => ?_)
        · (intro w1 hSw; have hSw2 := hSw.2 rfl; have hSw := hSw.1; (try dsimp only at hSw hSw2); go_simp)
        simp only [List.getElem_toArray, List.getElem_cons_succ, List.getElem_cons_zero, Act.put, List.setIfInBounds_toArray, List.set_cons_zero, List.set_cons_succ]
        refine wpAnyS_take (i := 4) (v := .int .i64 (n : Int)) _ rfl (by kernel_rfl) (by kernel_rfl) (by kernel_rfl) (by kernel_rfl) (by kernel_rfl) rfl (fun _ _ _ h => h) (Or.inl ⟨by rfl, ?_⟩) hHeld (fun hHeld => ?_)
        · (intro w1 hSw; have hSw := hSw.1; (try dsimp only at hSw); go_simp)
        simp only [List.getElem_toArray, List.getElem_cons_succ, List.getElem_cons_zero, Act.put, List.setIfInBounds_toArray, List.set_cons_zero, List.set_cons_succ]
        refine wpAnyS_take (i := 5) (v := .pointer (some ⟨hx, 0, none⟩)) _ rfl (by kernel_rfl) (by kernel_rfl) (by kernel_rfl) (by kernel_rfl) (by kernel_rfl) rfl (fun _ _ _ h => h) (Or.inl ⟨by rfl, ?_⟩) hHeld (fun hHeld => ?_)
        · (intro w1 hSw; have hSw := hSw.1; (try dsimp only at hSw); go_simp)
        simp only [List.getElem_toArray, List.getElem_cons_succ, List.getElem_cons_zero, Act.put, List.setIfInBounds_toArray, List.set_cons_zero, List.set_cons_succ]
        refine wpAnyS_take (i := 6) (v := .pointer (some ⟨hx, 0, none⟩)) _ rfl (by kernel_rfl) (by kernel_rfl) (by kernel_rfl) (by kernel_rfl) (by kernel_rfl) rfl (fun _ _ _ h => h) (Or.inl ⟨by rfl, ?_⟩) hHeld (fun hHeld => ?_)
        · (intro w1 hSw; have hSw := hSw.1; (try dsimp only at hSw); go_simp)
        simp only [List.getElem_toArray, List.getElem_cons_succ, List.getElem_cons_zero, Act.put, List.setIfInBounds_toArray, List.set_cons_zero, List.set_cons_succ]
        refine wpAnyS_take (i := 7) (v := .pointer (some ⟨hx, 1, none⟩)) _ rfl (by kernel_rfl) (by kernel_rfl) (by kernel_rfl) (by kernel_rfl) (by kernel_rfl) rfl (fun _ _ _ h => h) (Or.inl ⟨by rfl, ?_⟩) hHeld (fun hHeld => ?_)
        · (intro w1 hSw; have hSw := hSw.1; (try dsimp only at hSw); go_simp)
        simp only [List.getElem_toArray, List.getElem_cons_succ, List.getElem_cons_zero, Act.put, List.setIfInBounds_toArray, List.set_cons_zero, List.set_cons_succ]
        refine wpAnyS_take (i := 8) (v := .slice (some ⟨g, 0, none⟩) rs.length rs.length) true rfl (by kernel_rfl) (by kernel_rfl) (by kernel_rfl) (by kernel_rfl) (by kernel_rfl) (by kernel_rfl) (fun _ _ _ h => h) (Or.inl ⟨by rfl, ?_⟩) hHeld (fun hHeld => ?_)
        · (intro w1 hSw; have hSw2 := hSw.2 rfl; have hSw := hSw.1; (try dsimp only at hSw hSw2); go_simp)
        simp only [List.getElem_toArray, List.getElem_cons_succ, List.getElem_cons_zero, Act.put, List.setIfInBounds_toArray, List.set_cons_zero, List.set_cons_succ]
        refine wpAnyS_take (i := 9) (v := .int .i64 (n : Int)) _ rfl (by kernel_rfl) (by kernel_rfl) (by kernel_rfl) (by kernel_rfl) (by kernel_rfl) rfl (fun _ _ _ h => h) (Or.inl ⟨by rfl, ?_⟩) hHeld (fun hHeld => ?_)
        · (intro w1 hSw; have hSw := hSw.1; (try dsimp only at hSw); go_simp)
        simp only [List.getElem_toArray, List.getElem_cons_succ, List.getElem_cons_zero, Act.put, List.setIfInBounds_toArray, List.set_cons_zero, List.set_cons_succ]
        refine wpAnyS_take (i := 10) (v := .pointer (some ⟨g, n, none⟩)) _ rfl (by kernel_rfl) (by kernel_rfl) (by kernel_rfl) (by kernel_rfl) (by kernel_rfl) rfl (fun _ _ _ h => h) (Or.inl ⟨by rfl, ?_⟩) hHeld (fun hHeld => ?_)
        · (intro w1 hSw; have hSw := hSw.1; (try dsimp only at hSw); go_simp)
        simp only [List.getElem_toArray, List.getElem_cons_succ, List.getElem_cons_zero, Act.put, List.setIfInBounds_toArray, List.set_cons_zero, List.set_cons_succ]
        refine wpAnyS_take (i := 11) (v := .int .i64 (c : Int)) true rfl (by kernel_rfl) (by kernel_rfl) (by kernel_rfl) (by kernel_rfl) (by kernel_rfl) (by kernel_rfl) (fun _ _ _ h => h) (Or.inl ⟨by rfl, ?_⟩) hHeld (fun hHeld => ?_)
        · (intro w1 hSw; have hSw2 := hSw.2 rfl; have hSw := hSw.1; (try dsimp only at hSw hSw2); go_simp)
        simp only [List.getElem_toArray, List.getElem_cons_succ, List.getElem_cons_zero, Act.put, List.setIfInBounds_toArray, List.set_cons_zero, List.set_cons_succ]
        refine wpAnyS_take (i := 12) (v := .int .i64 ((c : Int) + 1)) _ rfl (by kernel_rfl) (by kernel_rfl) (by kernel_rfl) (by kernel_rfl) (by kernel_rfl) rfl (fun _ _ _ h => h) (Or.inl ⟨by rfl, ?_⟩) hHeld (fun hHeld => ?_)
        · (intro w1 hSw; have hSw := hSw.1; (try dsimp only at hSw); go_simp; (rw [IntKind.wrap_i64]; omega))
        simp only [List.getElem_toArray, List.getElem_cons_succ, List.getElem_cons_zero, Act.put, List.setIfInBounds_toArray, List.set_cons_zero, List.set_cons_succ]
        refine wpAnyS_take (i := 13) (v := .pointer (some ⟨g, n, none⟩)) _ rfl (by kernel_rfl) (by kernel_rfl) (by kernel_rfl) (by kernel_rfl) (by kernel_rfl) rfl (fun _ _ _ h => h) (Or.inl ⟨by rfl, ?_⟩) hHeld (fun hHeld => ?_)
        · (intro w1 hSw; have hSw := hSw.1; (try dsimp only at hSw); go_simp)
        simp only [List.getElem_toArray, List.getElem_cons_succ, List.getElem_cons_zero, Act.put, List.setIfInBounds_toArray, List.set_cons_zero, List.set_cons_succ]
        refine wpAnyS_ready (i := 14) (by kernel_rfl) rfl (fun K hK => ?_)
        rw [if_pos (by rfl)]
        refine wp_storeI _ _ _ rfl g n ((c : Int) + 1) rfl rfl cur _ HCU.out (by omega) (by kernel_rfl) (fun W5 hW5 => ?_)
        refine hK.out _ _ ⟨?_, fun hno => absurd hno (by decide)⟩ (fun hHeld => ?_)
        · trivial
        clear hK K
        refine wpAnyS_done (by kernel_rfl) ?_ _
        refine NoPanic.normal ?_
        have hcn : c = cntD D n := by rw [Hn.out]; exact Hc.out
        have HAT : Hid (AtM W5 g rs.length (cntD (D ++ [t]))) := AtM.stored (c := cntD D) (i := n) HC2.out (by rw [← hcn]; exact hW5) (fun j _ => by rw [Hn.out]; exact cntD_snoc D t j)
        have hwr : w.heap.size < wr.heap.size := (Array.getElem?_eq_some_iff.1 HX1.out).1
        have HX5 : Hid (W5.heap[w.heap.size]? = some (.cells #[.slice none 0 0, .int .u64 0, .bool false, .int .i64 0, .int .u64 0, .int .i64 0, .int .i64 0] 41)) := (hW5.o _ (by have := HXL.out.2; omega)).trans ((HB7.out.block _ hwr).trans HX1.out)
        have HY5 : Hid (W5.heap[wr.heap.size]? = some (.cells (c7 ⟨.slice ak X.1.length ck, [], X.2⟩).toArray 41)) := (hW5.o _ (by omega)).trans HX7.out
        have HEND : Hid (∀ W, StW W5 W w.heap.size 0 #[.slice none 0 0, .int .u64 0, .bool false, .int .i64 0, .int .u64 0, .int .i64 0, .int .i64 0] 41 (c7 ⟨.slice ak X.1.length ck, [], X.2⟩) → RnPost rs g D (t :: T') w (.returned (.tuple #[env (.slice ak X.1.length ck) X.2, .int .i64 (n : Int), .bool true])) W) := by
          intro W hW
          have hgw := HXL.out.2
          have hbA : Below wA.heap.size wA W := ((HBr2.out.trans (HB7.out.mono HBr2.out.size)).drew.trans (hW5.b _ HBA.out.2)).trans (hW.b _ HBA.out.1.size)
          have hrd := HRk.out.below hbA
          have hsz : w.heap.size ≤ W.heap.size := Nat.le_trans (Nat.le_trans (Nat.le_of_lt hwr) HB7.out.size) (Nat.le_trans (hW5.b 0 (Nat.zero_le _)).size (hW.b 0 (Nat.zero_le _)).size)
          have hkp : ∀ k, k < w.heap.size → k ≠ g → W.heap[k]? = w.heap[k]? := fun k hk hne => (hW.o k (by omega)).trans ((hW5.o k hne).trans ((HB7.out.block k (by omega)).trans (HB.out.block k hk)))
          have hat : AtM W g rs.length (cntD (D ++ [t])) := HAT.out.keep (hW.o g (by omega))
          have e1 : X.1 = t.1.1 := by rw [HXt.out]
          have e2 : X.2 = t.2 := by rw [HXt.out]
          rw [e1] at hrd
          rw [e1, e2, Hn.out]
          have hbl : ∀ lo, lo ≤ g → lo ≤ w.heap.size → Below lo w W := fun lo h1 h2 => (((HB.out.mono h2).trans (HB7.out.mono (by omega))).drew.trans (hW5.b _ h1)).trans (hW.b _ h2)
          exact ⟨_, rfl, hrd, hat, ⟨hsz, hbl⟩, hkp⟩
        have d0 := (cell_row HY5.out 0 (by simp [c7])).1
        have d1 := (cell_row HY5.out 1 (by simp [c7])).1
        have d2 := (cell_row HY5.out 2 (by simp [c7])).1
        have d3 := (cell_row HY5.out 3 (by simp [c7])).1
        have d4 := (cell_row HY5.out 4 (by simp [c7])).1
        have d5 := (cell_row HY5.out 5 (by simp [c7])).1
        have d6 := (cell_row HY5.out 6 (by simp [c7])).1
        simp only [c7, List.getElem_toArray, List.getElem_cons_zero, List.getElem_cons_succ] at d0 d1 d2 d3 d4 d5 d6
        clear hW5 hcn y1 y2 HAT
        go_wp2_with (refine stop_store 41 _ _ rfl ?_)
        refine Stop.of ?_
        refine wpList_storeN rfl _ _ _ rfl w.heap.size 0 (c7 ⟨.slice ak X.1.length ck, [], X.2⟩) rfl rfl _ _ HX5.out (by rw [c7_len]; simp) (by kernel_rfl) (by kernel_rfl) ?_
        intro W hW
        have HE2 : Hid _ := HEND.out W hW
        obtain ⟨cur', k1, k2, k3, k4⟩ := hW.c
        have f0 := (Go.Joins.cell_of_block k1 0).trans (k4 0 (by simp [c7]))
        have f1 := (Go.Joins.cell_of_block k1 1).trans (k4 1 (by simp [c7]))
        have f2 := (Go.Joins.cell_of_block k1 2).trans (k4 2 (by simp [c7]))
        have f3 := (Go.Joins.cell_of_block k1 3).trans (k4 3 (by simp [c7]))
        have f4 := (Go.Joins.cell_of_block k1 4).trans (k4 4 (by simp [c7]))
        have f5 := (Go.Joins.cell_of_block k1 5).trans (k4 5 (by simp [c7]))
        have f6 := (Go.Joins.cell_of_block k1 6).trans (k4 6 (by simp [c7]))
        simp only [c7, List.getElem_cons_zero, List.getElem_cons_succ] at f0 f1 f2 f3 f4 f5 f6
        clear hW k1 k2 k3 k4 HEND d0 d1 d2 d3 d4 d5 d6
        go_wp2_with fail
        refine bodyPost_ret (v := .tuple #[env (.slice ak X.1.length ck) X.2, .int .i64 (n : Int), .bool true]) (by simp [results, Try.results14, go_sem, env, f0, f1, f2, f3, f4, f5, f6]) rfl ?_
        exact HE2.out
end Go.Proofs.Ytkifnpaenhpndaa
