/- It ends (written by mkpke.py). -/
import Derived.Test.YteagbcijpfpjhaaPK20
namespace Go.Proofs.Yteagbcijpfpjhaa
open Go.ChangeShapes Go.WideShapes Go.ChangeAt Go.RowKit Go.Joins Go.Shelf

def uc (z : Int) : Value := .int .u16 z
/-- A slice value reads these small numbers. -/
def UReads (w : World) (v : Value) (l : List Int) : Prop :=
  ∃ a cap, v = .slice a l.length cap ∧ l.length ≤ maxLen ∧ (∀ z ∈ l, 0 ≤ z ∧ z ≤ 65535) ∧ (l = [] ∨ ∃ b off, a = some ⟨b, off, none⟩ ∧ b < w.heap.size ∧ ∀ j (hj : j < l.length), w.cell? ⟨b, off + j, none⟩ = some (uc l[j]))
theorem UReads.at {w : World} {a : Option Addr} {n cap : Nat} {l : List Int} (h : UReads w (.slice a n cap) l) (j : Nat) (hj : j < l.length) : ∃ b off, a = some ⟨b, off, none⟩ ∧ b < w.heap.size ∧ w.cell? ⟨b, off + j, none⟩ = some (.int .u16 l[j]) ∧ 0 ≤ l[j] ∧ l[j] ≤ 65535 := by
  obtain ⟨a', cap', hv, _, hz, h2⟩ := h
  simp at hv
  obtain ⟨rfl, rfl, rfl⟩ := hv
  rcases h2 with rfl | ⟨b, off, e, hb, hc⟩
  · simp at hj
  · exact ⟨b, off, e, hb, hc j hj, hz _ (List.getElem_mem hj)⟩
set_option maxRecDepth 100000 in
theorem openU {H : Type} {enc : TypeId × Value → H} {W : World} {r : Reach} {b0 base : Nat} {spare : Nat → Bool} {held : Bool} {v : Value} {d : DataW H} {p : List MemPlace}
    (hv : Value.okWide Try.prog W r b0 46 v) (h : DataW.Trod enc Try.prog W base spare held 46 v d p) : ∃ l : List Int, UReads W v l := by
  obtain ⟨a, len, cap, rfl⟩ := okWide_slice Try.underlying46 hv
  obtain ⟨fuel, hf⟩ := h
  rcases open_ints Try.underlying46 Try.underlying50 (by kernel_rfl) hf with ⟨hcs, _⟩ | ⟨x, l, c, zs, hcs, _, hl, hm, hz, _, hcell, hwz⟩
  · simp [Value.cells] at hcs
    obtain ⟨rfl, rfl, rfl⟩ := hcs
    exact ⟨[], none, 0, rfl, by simp, by simp, .inl rfl⟩
  · simp [Value.cells] at hcs
    obtain ⟨rfl, rfl, rfl⟩ := hcs
    have hzl : len ≤ zs.length := by rw [hz]; split <;> omega
    rcases Nat.eq_zero_or_pos len with h0 | h0
    · subst h0; exact ⟨[], some x, cap, rfl, by simp, by simp, .inl rfl⟩
    · have hlen : (zs.take len).length = len := by simp; omega
      have c0 := hcell 0 (by omega)
      have e0 : x.add 0 = x := by simp [Addr.add]
      rw [e0] at c0
      obtain ⟨hb, hs⟩ := cell_block c0
      obtain ⟨b, off, spot⟩ := x
      simp only at hb hs
      subst hs
      refine ⟨zs.take len, _, cap, by rw [hlen], by omega, fun z hz => bounds_u16 (hwz z (List.mem_of_mem_take hz)), .inr ⟨b, off, rfl, hb, fun j hj => ?_⟩⟩
      have cj := hcell j (by omega)
      have ea : (⟨b, off, none⟩ : Addr).add j = ⟨b, off + j, none⟩ := by simp [Addr.add]
      rw [ea] at cj
      rw [cj]
      have hzj : j < zs.length := by omega
      have hg : zs.getD j 0 = zs[j] := by simp [List.getD, hzj]
      rw [hg]
      simp [uc]
set_option maxRecDepth 100000 in
set_option maxHeartbeats 8000000 in
theorem ends_walk (v : Value) (L : List Rn) (cv : Value) (cs : List Int) (w : World) (hR : NReads w v L) (hC : UReads w cv cs) : Calls Try.prog 5 #[v, cv] w fun e w' => e = .returned (.bool true) ∧ Below w.heap.size w w' := by
  have HR : Hid (NReads w v L) := hR
  have HC : Hid (UReads w cv cs) := hC
  obtain ⟨a, cap, rfl, hl1, hl2⟩ := hR.form
  obtain ⟨ca, cc, rfl, hcl, _⟩ := hC
  clear hR
  unfold maxLen at hl2 hcl
  obtain ⟨o, Ho⟩ := hid_ex (okB L)
  go_enter Try.func5, Try.ntmps5
  go_wp2_with fail
  refine (right_any _ L _ HR.out).mono ?_
  rw [← Ho.out]
  rintro e w1 ⟨rfl, hb1⟩
  have HB1 : Hid (Below w.heap.size w w1) := hb1
  clear hb1
  cases o with
  | false =>
    go_wp2_with fail
    refine (alive_any _).mono ?_
    rintro e w2 ⟨rfl, hb2⟩
    have HB2 : Hid (Below w.heap.size w w2) := HB1.out.trans (hb2.mono HB1.out.size)
    clear hb2
    go_wp2_with fail
    go_ret
    exact ⟨rfl, HB2.out⟩
  | true =>
    have HOK : Hid (okR L) := okB_iff.1 Ho.out.symm
    have h64 : L.length ≤ 64 := HOK.out.1
    have HR1 : Hid (NReads w1 (.slice a L.length cap) L) := HR.out.below HB1.out
    go_wp2_with fail
    go_loopw [7] (fun i wr => ∃ k : Nat, k ≤ L.length ∧ i = .int .i64 (k : Int) ∧ Hid (∀ j (hj : j < L.length), j < k → L[j].f < 2199023255552) ∧ wr = w1) (fun i _ => L.length - (intOf i).toNat)
    case atStart => exact ⟨0, by omega, rfl, fun j hj h => absurd h (by omega), rfl⟩
    case round =>
      obtain ⟨k, hk, rfl, HFL, hwr⟩ := hrel
      subst wr
      by_cases hlt : k < L.length
      · obtain ⟨b, off, rfl, hb⟩ := HR1.out.ptr (by omega)
        obtain ⟨r, Hr⟩ := hid_ex L[k]
        obtain ⟨c0, c1, c2, c3⟩ := HR1.out.four hlt r Hr.out
        by_cases hf : r.f < 2199023255552
        · have HN : Hid (∀ j (hj : j < L.length), j < k + 1 → L[j].f < 2199023255552) := by
            intro j hj hjk
            rcases Nat.lt_or_ge j k with h9 | h9
            · exact HFL.out j hj h9
            · obtain rfl : j = k := by omega
              rw [← Hr.out]
              exact hf
          go_wp2_with fail
          go_roundw
          case rel => exact ⟨k + 1, by omega, by go_num, HN.out, by first | rfl | trivial⟩
          case measure => simp [intOf]; omega
        · go_wp2_with fail
          refine (alive_any _).mono ?_
          rintro e w2 ⟨rfl, hb2⟩
          have HB2 : Hid (Below w.heap.size w w2) := HB1.out.trans (hb2.mono HB1.out.size)
          clear hb2
          go_wp2_with fail
          go_ret
          exact ⟨rfl, HB2.out⟩
      · have HFA : Hid (∀ r ∈ L, r.f < 2199023255552 + ((0 : Nat) : Int)) := by
          intro r hr
          obtain ⟨j, hj, rfl⟩ := List.getElem_of_mem hr
          have := HFL.out j hj (by omega)
          omega
        clear HFL
        go_wp2_with fail
        go_loopw [5, 8] (fun nv i wr => ∃ (k : Nat) (M : List Rn), i = .int .i64 (k : Int) ∧ mu M + k ≤ L.length + 3 ∧ Hid (NReads wr nv M) ∧ Hid (okR M) ∧ Hid (∀ r ∈ M, r.f < 2199023255552 + (k : Int)) ∧ Hid (Below w1.heap.size w1 wr)) (fun _ i _ => L.length + 4 - (intOf i).toNat)
        case atStart => exact ⟨0, L, rfl, mu_le L, HR1.out, HOK.out, HFA.out, Below.refl _ _⟩
        case round =>
          clear HFA
          obtain ⟨k, M, rfl, hmu, HRM, HOK2, HFB, HB⟩ := hrel
          generalize wr = W1 at *
          obtain ⟨na, nc, rfl, hnl1, hnl2⟩ := HRM.out.form
          unfold maxLen at hnl2
          have hM64 : M.length ≤ 64 := HOK2.out.1
          have hkl : k ≤ L.length + 3 := by omega
          go_wp2_with fail
          refine (offer_any _ M _ HRM.out).mono ?_
          rintro e w2 ⟨hb2, hy, _⟩
          obtain ⟨vf, rfl, hO2⟩ := hy (okB_true HOK2.out)
          clear hy
          have HB2 : Hid (Below w1.heap.size w1 w2) := HB.out.trans (hb2.mono HB.out.size)
          have HRM2 : Hid (NReads w2 (.slice na M.length nc) M) := HRM.out.below hb2
          obtain ⟨T, HT⟩ := hid_ex (offT M)
          rw [← HT.out] at hO2 ⊢
          have HO2 : Hid (Own w2 W1.heap.size vf T.fs) := hO2
          obtain ⟨fa, fc, rfl, hfl⟩ := hO2.form
          unfold maxLen at hfl
          clear hO2 hb2
          go_wp2_with (refine stop_store 28 _ _ rfl ?_)
          refine Stop.of ?_
          refine wpList_storeN rfl _ _ _ rfl w2.heap.size 0 [.slice fa T.fs.length fc, .int .i64 T.lv] rfl rfl _ _ (heap_alloc_new _ _) (by simp) (by kernel_rfl) (by kernel_rfl) ?_
          intro W hW
          obtain ⟨hbW, hxW, hlW⟩ := stW_new hW (by simp)
          have HBW : Hid (Below w1.heap.size w1 W) := HB2.out.trans (hbW.mono HB2.out.size)
          have HOW : Hid (Own W W1.heap.size (.slice fa T.fs.length fc) T.fs) := HO2.out.below hbW
          have HRW : Hid (NReads W (.slice na M.length nc) M) := HRM2.out.below hbW
          have HX : Hid (W.heap[w2.heap.size]? = some (.cells #[.slice fa T.fs.length fc, .int .i64 T.lv] 28)) := hxW
          obtain ⟨B, HBB⟩ := hid_ex w2.heap.size
          rw [← HBB.out] at HX hlW ⊢
          clear hW hbW hxW HBB HO2 HRM2 HRM
          cases hs : T.s with
          | false =>
            obtain ⟨_, hz1, hz2⟩ := offT_zero HOK2.out (by rw [← HT.out]; exact hs)
            have HZ1 : Hid (∀ r ∈ M, r.s = false) := hz1
            have HZ2 : Hid (∀ lv, FulB M lv = false) := fun lv => by unfold FulB; rw [hz2]; simp
            clear hz1 hz2 hs HT
            go_wp2_with fail
            go_loopw [12] (fun i wr => ∃ j : Nat, j ≤ M.length ∧ i = .int .i64 (j : Int) ∧ Hid (Below W.heap.size W wr)) (fun i _ => M.length - (intOf i).toNat)
            case atStart => exact ⟨0, by omega, rfl, Below.refl _ _⟩
            case round =>
              obtain ⟨j, hj, rfl, HBj⟩ := hrel
              by_cases hjt : j < M.length
              · obtain ⟨nb, no, rfl, hnb⟩ := HRW.out.ptr (by omega)
                obtain ⟨r, Hr⟩ := hid_ex M[j]
                obtain ⟨c0, c1, c2, c3⟩ := (HRW.out.below HBj.out).four hjt r Hr.out
                have hrs : r.s = false := by rw [Hr.out]; exact HZ1.out _ (List.getElem_mem hjt)
                rw [hrs] at c3
                clear hrs
                go_wp2_with fail
                refine (Full_any _ M r.l _ (HRW.out.below HBj.out)).mono ?_
                rw [HZ2.out]
                rintro e w5 ⟨rfl, hb5⟩
                have HB5 : Hid (Below W.heap.size W w5) := HBj.out.trans (hb5.mono HBj.out.size)
                clear hb5 c0 c1 c2 c3
                go_wp2_with fail
                go_roundw
                case rel => exact ⟨j + 1, by omega, by go_num, HB5.out⟩
                case measure => simp [intOf]; omega
              · go_wp2_with fail
                refine (alive_any _).mono ?_
                rintro e w6 ⟨rfl, hb6⟩
                have HB6 : Hid (Below w.heap.size w w6) := HB1.out.trans ((HBW.out.trans ((HBj.out.trans (hb6.mono HBj.out.size)).mono HBW.out.size)).mono HB1.out.size)
                clear hb6
                go_wp2_with fail
                go_ret
                exact ⟨rfl, HB6.out⟩
          | true =>
            have HTS : Hid (T.s = true) := hs
            have HTO : Hid (TkOk M T) := by
              rw [HT.out] at hs ⊢
              exact off_ok HOK2.out hs
            clear hs
            have hl0 := HTO.out.l0
            have hl3 := HTO.out.l3
            have HTL : Hid (togF M T.fs ≤ sumC M T.fs) := tog_le (okR_uq HOK2.out) HTO.out.nd (fun r hr => by have := (HOK2.out.2.1 r hr).2.2.2; omega)
            have hf64 : T.fs.length ≤ 64 := by
              obtain ⟨M2, d, h1, _⟩ := outF_spec T.fs M 0 (okR_uq HOK2.out) HTO.out.nd HTO.out.nm (by omega) (fun r hr => by have := (HOK2.out.2.1 r hr).2.2.2; omega)
              have := (outF_sub h1).2
              omega
            have g0 := (cell_row HX.out 0 (by simp)).1
            have g1 := (cell_row HX.out 1 (by simp)).1
            simp only [List.getElem_toArray, List.getElem_cons_zero, List.getElem_cons_succ] at g0 g1
            go_wp2_with fail
            refine (together_any _ _ M T.fs T.lv _ HRW.out HOW.out.reads hM64 hf64 (fun r hr => by have := (HOK2.out.2.1 r hr).2.2.2; omega)).mono ?_
            obtain ⟨n, Hnn⟩ := hid_ex (togF M T.fs)
            rw [← Hnn.out] at HTL ⊢
            rintro e w3 ⟨rfl, hn0, hn2, hb3⟩
            have HB3 : Hid (Below w1.heap.size w1 w3) := HBW.out.trans (hb3.mono HBW.out.size)
            have HO3 : Hid (Own w3 W1.heap.size (.slice fa T.fs.length fc) T.fs) := HOW.out.below hb3
            have HRM3 : Hid (NReads w3 (.slice na M.length nc) M) := HRW.out.below hb3
            have HX3 : Hid (w3.heap[B]? = some (.cells #[.slice fa T.fs.length fc, .int .i64 T.lv] 28)) := (hb3.block _ hlW).trans HX.out
            clear hb3 g0 g1 HBW HOW HX HRW Hnn
            have g0 := (cell_row HX3.out 0 (by simp)).1
            have g1 := (cell_row HX3.out 1 (by simp)).1
            simp only [List.getElem_toArray, List.getElem_cons_zero, List.getElem_cons_succ] at g0 g1
            by_cases hck : k < cs.length
            · have HCw : Hid (Below w.heap.size w w3) := HB1.out.trans (HB3.out.mono HB1.out.size)
              obtain ⟨cb, co, rfl, hcb, hcz, hz0, hz1⟩ := HC.out.at k hck
              have hcc := (HCw.out.cell (p := ⟨cb, co + k, none⟩) hcb).trans hcz
              obtain ⟨z, Hz⟩ := hid_ex cs[k]
              rw [← Hz.out] at hcc hz0 hz1
              clear hcz Hz
              by_cases hzn : z < n
              · have HNS : Hid (z ≤ sumC M T.fs) := by have := HTL.out; unfold Hid; omega
                have hn0 : 0 ≤ z := hz0
                obtain ⟨M2, hsub, hmem, hlen, haft, hokM⟩ := off_step HOK2.out HTO.out (f := 2199023255552 + (k : Int)) (by omega) hn0 HNS.out (fun r hr _ e => by have := HFB.out r hr; omega)
                obtain ⟨M', HM'⟩ := hid_ex (if 0 < z then M2 ++ [⟨2199023255552 + (k : Int), T.lv, z, false⟩] else M2)
                rw [← HM'.out] at haft hokM
                have HAF : Hid (aftF M T.fs T.lv (2199023255552 + (k : Int)) z = some M') := haft
                have HOM : Hid (okR M') := hokM
                have HMU2 : Hid (mu M' + 1 ≤ mu M) := by
                  have h9 := HM'.out
                  have h8 := HNS.out
                  rw [HT.out] at h9 h8 hmem
                  exact mu_step HOK2.out (by rw [← HT.out]; exact HTS.out) h8 hsub hmem h9
                have HFB2 : Hid (∀ r ∈ M', r.f < 2199023255552 + ((k + 1 : Nat) : Int)) := by
                  intro r hr
                  have h8 : r ∈ M2 ∨ r.f = 2199023255552 + (k : Int) := by
                    rw [HM'.out] at hr
                    split at hr
                    · rcases List.mem_append.1 hr with h | h
                      · exact .inl h
                      · simp at h; subst h; exact .inr rfl
                    · exact .inl hr
                  rcases h8 with h | h
                  · have := HFB.out r ((hmem r).1 h).1
                    omega
                  · omega
                clear hsub hmem hlen haft hokM HM'
                go_wp2_with fail
                refine (after_any _ _ M T.fs T.lv (2199023255552 + (k : Int)) z _ HRM3.out HO3.out.reads (by omega) (by omega) (by omega) (by omega)).mono ?_
                rw [HAF.out]
                rintro e w4 ⟨hb4, v4, rfl, hO4⟩
                have HB4 : Hid (Below w1.heap.size w1 w4) := HB3.out.trans (hb4.mono HB3.out.size)
                have HR4 : Hid (NReads w4 v4 M') := hO4.reads
                have hmk : mu M' + (k + 1) ≤ L.length + 3 := by have := HMU2.out; omega
                clear hb4 hO4 g0 g1
                go_wp2_with fail
                go_roundw
                case rel => exact ⟨k + 1, M', by go_num, hmk, HR4.out, HOM.out, HFB2.out, HB4.out⟩
                case measure => simp [intOf]; omega
              · have HNS : Hid (n ≤ sumC M T.fs) := HTL.out
                obtain ⟨M2, hsub, hmem, hlen, haft, hokM⟩ := off_step HOK2.out HTO.out (f := 2199023255552 + (k : Int)) (by omega) hn0 HNS.out (fun r hr _ e => by have := HFB.out r hr; omega)
                obtain ⟨M', HM'⟩ := hid_ex (if 0 < n then M2 ++ [⟨2199023255552 + (k : Int), T.lv, n, false⟩] else M2)
                rw [← HM'.out] at haft hokM
                have HAF : Hid (aftF M T.fs T.lv (2199023255552 + (k : Int)) n = some M') := haft
                have HOM : Hid (okR M') := hokM
                have HMU2 : Hid (mu M' + 1 ≤ mu M) := by
                  have h9 := HM'.out
                  have h8 := HNS.out
                  rw [HT.out] at h9 h8 hmem
                  exact mu_step HOK2.out (by rw [← HT.out]; exact HTS.out) h8 hsub hmem h9
                have HFB2 : Hid (∀ r ∈ M', r.f < 2199023255552 + ((k + 1 : Nat) : Int)) := by
                  intro r hr
                  have h8 : r ∈ M2 ∨ r.f = 2199023255552 + (k : Int) := by
                    rw [HM'.out] at hr
                    split at hr
                    · rcases List.mem_append.1 hr with h | h
                      · exact .inl h
                      · simp at h; subst h; exact .inr rfl
                    · exact .inl hr
                  rcases h8 with h | h
                  · have := HFB.out r ((hmem r).1 h).1
                    omega
                  · omega
                clear hsub hmem hlen haft hokM HM'
                go_wp2_with fail
                refine (after_any _ _ M T.fs T.lv (2199023255552 + (k : Int)) n _ HRM3.out HO3.out.reads (by omega) (by omega) (by omega) (by omega)).mono ?_
                rw [HAF.out]
                rintro e w4 ⟨hb4, v4, rfl, hO4⟩
                have HB4 : Hid (Below w1.heap.size w1 w4) := HB3.out.trans (hb4.mono HB3.out.size)
                have HR4 : Hid (NReads w4 v4 M') := hO4.reads
                have hmk : mu M' + (k + 1) ≤ L.length + 3 := by have := HMU2.out; omega
                clear hb4 hO4 g0 g1
                go_wp2_with fail
                go_roundw
                case rel => exact ⟨k + 1, M', by go_num, hmk, HR4.out, HOM.out, HFB2.out, HB4.out⟩
                case measure => simp [intOf]; omega
            · have HNS : Hid (n ≤ sumC M T.fs) := HTL.out
              obtain ⟨M2, hsub, hmem, hlen, haft, hokM⟩ := off_step HOK2.out HTO.out (f := 2199023255552 + (k : Int)) (by omega) hn0 HNS.out (fun r hr _ e => by have := HFB.out r hr; omega)
              obtain ⟨M', HM'⟩ := hid_ex (if 0 < n then M2 ++ [⟨2199023255552 + (k : Int), T.lv, n, false⟩] else M2)
              rw [← HM'.out] at haft hokM
              have HAF : Hid (aftF M T.fs T.lv (2199023255552 + (k : Int)) n = some M') := haft
              have HOM : Hid (okR M') := hokM
              have HMU2 : Hid (mu M' + 1 ≤ mu M) := by
                have h9 := HM'.out
                have h8 := HNS.out
                rw [HT.out] at h9 h8 hmem
                exact mu_step HOK2.out (by rw [← HT.out]; exact HTS.out) h8 hsub hmem h9
              have HFB2 : Hid (∀ r ∈ M', r.f < 2199023255552 + ((k + 1 : Nat) : Int)) := by
                intro r hr
                have h8 : r ∈ M2 ∨ r.f = 2199023255552 + (k : Int) := by
                  rw [HM'.out] at hr
                  split at hr
                  · rcases List.mem_append.1 hr with h | h
                    · exact .inl h
                    · simp at h; subst h; exact .inr rfl
                  · exact .inl hr
                rcases h8 with h | h
                · have := HFB.out r ((hmem r).1 h).1
                  omega
                · omega
              clear hsub hmem hlen haft hokM HM'
              go_wp2_with fail
              refine (after_any _ _ M T.fs T.lv (2199023255552 + (k : Int)) n _ HRM3.out HO3.out.reads (by omega) (by omega) (by omega) (by omega)).mono ?_
              rw [HAF.out]
              rintro e w4 ⟨hb4, v4, rfl, hO4⟩
              have HB4 : Hid (Below w1.heap.size w1 w4) := HB3.out.trans (hb4.mono HB3.out.size)
              have HR4 : Hid (NReads w4 v4 M') := hO4.reads
              have hmk : mu M' + (k + 1) ≤ L.length + 3 := by have := HMU2.out; omega
              clear hb4 hO4 g0 g1
              go_wp2_with fail
              go_roundw
              case rel => exact ⟨k + 1, M', by go_num, hmk, HR4.out, HOM.out, HFB2.out, HB4.out⟩
              case measure => simp [intOf]; omega
end Go.Proofs.Yteagbcijpfpjhaa
