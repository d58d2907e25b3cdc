/- SV8b, joined. -/
import Derived.Test.YtoibmjmajbkbcaaSG23
import Derived.Test.YtoibmjmajbkbcaaSG24
import Derived.Test.YtoibmjmajbkbcaaSG25
import Derived.Test.YtoibmjmajbkbcaaSG26
import Derived.Deep.CutBlock
import Derived.Deep.CutRange
import Derived.Deep.DeepCutAuto
/- SkipLives, walked (written by mksv9.py). -/
namespace Go.Proofs.Ytoibmjmajbkbcaa
open Go.RowKit

set_option maxRecDepth 100000 in
set_option maxHeartbeats 40000000 in
theorem lives_walk (v : Value) (L : List Sp) (w : World) (hQ : QReads w v L) : Calls Try.prog 3 #[v] w fun e w' => e = .returned (.bool true) ∧ Below w.heap.size w w' := by
  have HAL : Hid (∀ W, Calls Try.prog 5 #[] W fun e w' => e = .returned (.bool true) ∧ Below W.heap.size W w') := fun W => alive_any W
  obtain ⟨qa, qc, rfl, hm1, hm2, h3⟩ := hQ
  have H3 : Hid _ := h3
  unfold maxLen at hm2
  clear h3
  go_enter Try.func3, Try.ntmps3
  go_wp2_with fail
  refine (new_any _).mono ?_
  rintro e w1 ⟨L0, rfl, hS1, hb1⟩
  obtain ⟨w2, HW2⟩ := hid_ex (w1.alloc (.cells #[.slice none 0 0, .bool false] 28))
  obtain ⟨Y, HYY⟩ := hid_ex w1.heap.size
  have hbs := hb1.size
  have HI2 : Hid (LvI w w.heap.size L0 Y 0 [] false w2) := by
    rw [HW2.out, HYY.out]
    exact ⟨hS1.below ((Below.refl _ _).alloc (Nat.le_refl _) _), new_rl _ hbs, Nat.le_refl _, hb1.alloc hbs _⟩
  go_wp2_with fail
  rw [← HW2.out, ← HYY.out]
  clear HW2 HYY hS1 hb1 hbs
  go_loopw [5] (fun i wr => ∃ (n : Nat) (E : List En) (fr : Bool), n ≤ L.length ∧ n ≤ 60 ∧ i = .int .i64 (n : Int) ∧ Hid (LvI w w.heap.size L0 Y n E fr wr)) (fun i _ => L.length - (intOf i).toNat)
  case atStart => exact ⟨0, [], false, by omega, by omega, rfl, HI2.out⟩
  case round =>
    clear HI2
    obtain ⟨n, E, fr, hn, hn60, rfl, HI⟩ := hrel
    have hsr := HI.out.b.size
    by_cases hlt : n < L.length
    · by_cases h60 : n < 60
      · have hil : decide ((n : Int) < (L.length : Int)) = true := by simp; omega
        have hi6 : decide ((n : Int) < 60) = true := by simp; omega
        obtain ⟨b, off, rfl, hb, hc⟩ := H3.out.resolve_left (fun h => by rw [h] at hlt; simp at hlt)
        obtain ⟨kv, hcell, hrd, hok⟩ := hc n hlt
        obtain ⟨R, HR⟩ := hid_ex L[n]
        rw [← HR.out] at hcell hrd hok
        obtain ⟨ok, oh, om, X, A⟩ := R
        obtain ⟨ak, ck, e0, hxm⟩ := hrd.form
        subst e0
        simp only at hrd hok
        have HBr : Hid (Below w.heap.size w wr) := HI.out.b
        have HRX : Hid (Reads w (.slice ak X.length ck) X) := hrd
        have HOK : Hid (SpOk ⟨ok, oh, om, (X, A)⟩) := hok
        unfold maxLen at hxm
        have hcw : ∀ i (hi : i < 10), wr.cell? ⟨b, off + (10 * n + i), none⟩ = some ((s10 (.slice ak X.length ck) ⟨ok, oh, om, (X, A)⟩)[i]'hi) := fun i hi => (HBr.out.cell (p := ⟨b, off + (10 * n + i), none⟩) hb).trans (hcell i hi)
        have q0 := hcw 0 (by decide)
        have q1 := hcw 1 (by decide)
        have q2 := hcw 2 (by decide)
        have q3 := hcw 3 (by decide)
        have q4 := hcw 4 (by decide)
        have q5 := hcw 5 (by decide)
        have q6 := hcw 6 (by decide)
        have q7 := hcw 7 (by decide)
        have q8 := hcw 8 (by decide)
        have q9 := hcw 9 (by decide)
        simp only [s10, List.getElem_cons_zero, List.getElem_cons_succ] at q0 q1 q2 q3 q4 q5 q6 q7 q8 q9
        rw [show off + (10 * n + 0) = off + n * 10 by omega] at q0
        rw [show off + (10 * n + 1) = off + n * 10 + 1 by omega] at q1
        rw [show off + (10 * n + 2) = off + n * 10 + 2 by omega] at q2
        rw [show off + (10 * n + 3) = off + n * 10 + 3 by omega] at q3
        rw [show off + (10 * n + 4) = off + n * 10 + 4 by omega] at q4
        rw [show off + (10 * n + 5) = off + n * 10 + 5 by omega] at q5
        rw [show off + (10 * n + 6) = off + n * 10 + 6 by omega] at q6
        rw [show off + (10 * n + 7) = off + n * 10 + 7 by omega] at q7
        rw [show off + (10 * n + 8) = off + n * 10 + 8 by omega] at q8
        rw [show off + (10 * n + 9) = off + n * 10 + 9 by omega] at q9
        obtain ⟨wo, HWO⟩ := hid_ex (wr.alloc (.cells #[.int .i64 ok, .int .i64 oh, .int .i64 om, .slice ak X.length ck, .int .u64 A.c, .bool A.o, .int .i64 (hi A.s), .int .u64 (lo A.s), .int .i64 A.mn, .int .i64 A.mx] 38))
        obtain ⟨B, HBB⟩ := hid_ex wr.heap.size
        have HBX : Hid (wo.heap[B]? = some (.cells #[.int .i64 ok, .int .i64 oh, .int .i64 om, .slice ak X.length ck, .int .u64 A.c, .bool A.o, .int .i64 (hi A.s), .int .u64 (lo A.s), .int .i64 A.mn, .int .i64 A.mx] 38)) := by rw [HWO.out, HBB.out]; exact World.alloc_heap_new _ _
        have HIo : Hid (LvI w w.heap.size L0 Y n E fr wo) := by rw [HWO.out]; exact HI.out.below ((Below.refl _ _).alloc (Nat.le_refl _) _) hsr
        have hBo : w.heap.size ≤ B := by rw [HBB.out]; exact hsr
        clear hcell hc hcw hrd hok hb
        by_cases hXl : (1000 : Int) < (X.length : Int)
        · go_wp2_with fail
          rw [← HWO.out]
          refine (HAL.out _).mono ?_
          rintro e w6 ⟨rfl, hb6⟩
          have HB6 : Hid (Below w.heap.size w w6) := HIo.out.b.trans (hb6.mono HIo.out.b.size)
          clear hb6
          go_wp2_with fail
          go_ret
          exact ⟨rfl, HB6.out⟩
        · go_upto_block 2 with fail
          rw [← HWO.out, ← HBB.out]
          clear HWO HBB HI q0 q1 q2 q3 q4 q5 q6 q7 q8 q9
          go_cut [7, 8, 9, 10] (fun _ _ _ _ wc => ∃ (E : List En) (fr : Bool), Hid (LvI w w.heap.size L0 Y (n + 1) E fr wc) ∧ Hid (wc.heap[B]? = some (.cells #[.int .i64 ok, .int .i64 oh, .int .i64 om, .slice ak X.length ck, .int .u64 A.c, .bool A.o, .int .i64 (hi A.s), .int .u64 (lo A.s), .int .i64 A.mn, .int .i64 A.mx] 38)))
          case first =>
            by_cases hk0 : ok = 0
            · subst hk0
              refine case0_walk w L0 Y n B E fr oh om ak ck X A wo h60 (by omega) (by omega) hBo HIo HBX HRX HOK _ _ _ _ _ _ _ _ _ _ _ _ _ _ _ _ _ _ _ _ _ _ _ _ _ _ _ _ _ _ _ _ _ _ _ _ _ _ _ _ _ _ _ _ _ _ _ _ _ _ _ _ _ _ _ _ _ _ _ _ _ _ _ _ _ _ _ _ _ _ _ _ _ _ _ _ _ _ _ _ _ _ _ _ _ _ _ _ _ _ _ _ _ _ _ _ _ _ _ _ _ _ _ _ _ _ _ _ _ _ _ _ _ _ _ _ _ _ _ _ _ _ _ _ _ _ _ _ _ _ _ _ _ _ _ _ _ _ _ _ _ _ _ _ _ _ _ _ _ _ _ _ _ _ _ _ _ _ _ _ _ _ _ _ _ _ _ _ _ _ _ _ _ _ _ _ _ _ _ _ _ _ _ _ _ _ _ _ _ _ _ _ _ _ _ _ _ _ _ _ _ _ _ _ _ _ _ _ _ _ _ _ _ _ _ _ _ _ _ (fun y2 y7 y8 y9 y10 y20 y21 y22 y23 y24 y25 y26 y27 y28 y29 y30 y31 y32 y33 y34 y35 y36 y37 y38 y39 y40 y42 y43 y44 y45 y46 y47 y48 y49 y50 y51 y52 y53 y54 y55 y56 y57 y58 y59 y60 y61 y62 y63 y64 y65 y66 y67 y68 y69 y70 y71 y72 y73 y74 y75 y76 y77 y78 y79 y80 y81 y82 y83 y84 y85 y86 y87 y88 y89 y90 y91 y92 y93 y94 y95 y96 y97 y98 y99 y100 y101 y102 y103 y104 y105 y106 y107 y108 y109 y110 y111 y112 y113 y114 y115 y116 y117 y118 y119 y120 y121 y122 y123 y124 y125 y126 y127 y128 y129 y130 y131 y132 y133 y134 y135 y136 y137 y138 y139 y140 y141 y142 y143 y144 y145 y146 y147 y148 y149 y150 y151 y152 y153 y154 y155 y156 y157 y158 y159 y160 y161 y162 y163 y164 y165 y166 y167 y168 y169 y170 y171 y172 y173 y174 y175 y176 y177 y178 y179 y180 y181 y182 y183 y184 y185 y186 y187 y188 y189 y190 y191 y192 y193 y194 y195 y196 y197 y198 y199 y200 y201 y202 y203 y204 y205 y206 y207 y208 y209 y210 y211 y212 y213 y214 y215 y216 y217 y218 y219 E' f' w' h1 h2 => ?_)
              dsimp only
              apply_assumption
              refine Met.intro ?_
              apply_assumption
              (repeat apply Exists.intro)
              exact ⟨⟨E', f', h1, h2⟩, rfl⟩
            · by_cases hk1 : ok = 1
              · subst hk1
                refine case1_walk w L0 Y n B E fr oh om ak ck X A wo h60 (by omega) (by omega) hBo HIo HBX HRX HOK _ _ _ _ _ _ _ _ _ _ _ _ _ _ _ _ _ _ _ _ _ _ _ _ _ _ _ _ _ _ _ _ _ _ _ _ _ _ _ _ _ _ _ _ _ _ _ _ _ _ _ _ _ _ _ _ _ _ _ _ _ _ _ _ _ _ _ _ _ _ _ _ _ _ _ _ _ _ _ _ _ _ _ _ _ _ _ _ _ _ _ _ _ _ _ _ _ _ _ _ _ _ _ _ _ _ _ _ _ _ _ _ _ _ _ _ _ _ _ _ _ _ _ _ _ _ _ _ _ _ _ _ _ _ _ _ _ _ _ _ _ _ _ _ _ _ _ _ _ _ _ _ _ _ _ _ _ _ _ _ _ _ _ _ _ _ _ _ _ _ _ _ _ _ _ _ _ _ _ _ _ _ _ _ _ _ _ _ _ _ _ _ _ _ _ _ _ _ _ _ _ _ _ _ _ _ _ _ _ _ _ _ _ _ _ _ _ _ _ (fun y2 y7 y8 y9 y10 y20 y21 y22 y23 y24 y25 y26 y27 y28 y29 y30 y31 y32 y33 y34 y35 y36 y37 y38 y39 y40 y42 y43 y44 y45 y46 y47 y48 y49 y50 y51 y52 y53 y54 y55 y56 y57 y58 y59 y60 y61 y62 y63 y64 y65 y66 y67 y68 y69 y70 y71 y72 y73 y74 y75 y76 y77 y78 y79 y80 y81 y82 y83 y84 y85 y86 y87 y88 y89 y90 y91 y92 y93 y94 y95 y96 y97 y98 y99 y100 y101 y102 y103 y104 y105 y106 y107 y108 y109 y110 y111 y112 y113 y114 y115 y116 y117 y118 y119 y120 y121 y122 y123 y124 y125 y126 y127 y128 y129 y130 y131 y132 y133 y134 y135 y136 y137 y138 y139 y140 y141 y142 y143 y144 y145 y146 y147 y148 y149 y150 y151 y152 y153 y154 y155 y156 y157 y158 y159 y160 y161 y162 y163 y164 y165 y166 y167 y168 y169 y170 y171 y172 y173 y174 y175 y176 y177 y178 y179 y180 y181 y182 y183 y184 y185 y186 y187 y188 y189 y190 y191 y192 y193 y194 y195 y196 y197 y198 y199 y200 y201 y202 y203 y204 y205 y206 y207 y208 y209 y210 y211 y212 y213 y214 y215 y216 y217 y218 y219 E' f' w' h1 h2 => ?_)
                dsimp only
                apply_assumption
                refine Met.intro ?_
                apply_assumption
                (repeat apply Exists.intro)
                exact ⟨⟨E', f', h1, h2⟩, rfl⟩
              · by_cases hk2 : ok = 2
                · subst hk2
                  refine case2_walk w L0 Y n B E fr oh om ak ck X A wo h60 (by omega) (by omega) hBo HIo HBX HRX HOK _ _ _ _ _ _ _ _ _ _ _ _ _ _ _ _ _ _ _ _ _ _ _ _ _ _ _ _ _ _ _ _ _ _ _ _ _ _ _ _ _ _ _ _ _ _ _ _ _ _ _ _ _ _ _ _ _ _ _ _ _ _ _ _ _ _ _ _ _ _ _ _ _ _ _ _ _ _ _ _ _ _ _ _ _ _ _ _ _ _ _ _ _ _ _ _ _ _ _ _ _ _ _ _ _ _ _ _ _ _ _ _ _ _ _ _ _ _ _ _ _ _ _ _ _ _ _ _ _ _ _ _ _ _ _ _ _ _ _ _ _ _ _ _ _ _ _ _ _ _ _ _ _ _ _ _ _ _ _ _ _ _ _ _ _ _ _ _ _ _ _ _ _ _ _ _ _ _ _ _ _ _ _ _ _ _ _ _ _ _ _ _ _ _ _ _ _ _ _ _ _ _ _ _ _ _ _ _ _ _ _ _ _ _ _ _ _ _ _ (fun y2 y7 y8 y9 y10 y20 y21 y22 y23 y24 y25 y26 y27 y28 y29 y30 y31 y32 y33 y34 y35 y36 y37 y38 y39 y40 y42 y43 y44 y45 y46 y47 y48 y49 y50 y51 y52 y53 y54 y55 y56 y57 y58 y59 y60 y61 y62 y63 y64 y65 y66 y67 y68 y69 y70 y71 y72 y73 y74 y75 y76 y77 y78 y79 y80 y81 y82 y83 y84 y85 y86 y87 y88 y89 y90 y91 y92 y93 y94 y95 y96 y97 y98 y99 y100 y101 y102 y103 y104 y105 y106 y107 y108 y109 y110 y111 y112 y113 y114 y115 y116 y117 y118 y119 y120 y121 y122 y123 y124 y125 y126 y127 y128 y129 y130 y131 y132 y133 y134 y135 y136 y137 y138 y139 y140 y141 y142 y143 y144 y145 y146 y147 y148 y149 y150 y151 y152 y153 y154 y155 y156 y157 y158 y159 y160 y161 y162 y163 y164 y165 y166 y167 y168 y169 y170 y171 y172 y173 y174 y175 y176 y177 y178 y179 y180 y181 y182 y183 y184 y185 y186 y187 y188 y189 y190 y191 y192 y193 y194 y195 y196 y197 y198 y199 y200 y201 y202 y203 y204 y205 y206 y207 y208 y209 y210 y211 y212 y213 y214 y215 y216 y217 y218 y219 E' f' w' h1 h2 => ?_)
                  dsimp only
                  apply_assumption
                  refine Met.intro ?_
                  apply_assumption
                  (repeat apply Exists.intro)
                  exact ⟨⟨E', f', h1, h2⟩, rfl⟩
                · skip
                  have x0 := (opbox HBX.out).1
                  have b0 : (ok == 0) = false := beq_eq_false_iff_ne.2 hk0
                  have b1 : (ok == 1) = false := beq_eq_false_iff_ne.2 hk1
                  have b2 : (ok == 2) = false := beq_eq_false_iff_ne.2 hk2
                  go_wp2_with fail
                  go_meet
                  exact ⟨E, fr, ⟨HIo.out.s, HIo.out.r, Nat.le_succ_of_le HIo.out.l, HIo.out.b⟩, HBX.out⟩
          case rest =>
            obtain ⟨F, f2, HI2, HBX2⟩ := hcut
            rename_i K9 hK9
            refine hK9 _ _ ?_
            refine tail_walk w L0 Y n B F f2 ok oh om ak ck X A wc h60 HI2 HBX2 HRX (by omega) _ _ _ _ _ _ _ _ _ _ _ _ _ _ _ _ _ _ _ _ _ _ _ _ _ _ _ _ _ _ _ _ _ _ _ _ _ _ _ _ _ _ _ _ _ _ _ _ _ _ _ _ _ _ _ _ _ _ _ _ _ _ _ _ _ _ _ _ _ _ _ _ _ _ _ _ _ _ _ _ _ _ _ _ _ _ _ _ _ _ _ _ _ _ _ _ _ _ _ _ _ _ _ _ _ _ _ _ _ _ _ _ _ _ _ _ _ _ _ _ _ _ _ _ _ _ _ _ _ _ _ _ _ _ _ _ _ _ _ _ _ _ _ _ _ _ _ _ _ _ _ _ _ _ _ _ _ _ _ _ _ _ _ _ _ _ _ _ _ _ _ _ _ _ _ _ _ _ _ _ _ _ _ _ _ _ _ _ _ _ _ _ _ _ _ _ _ _ _ _ _ _ _ _ _ _ _ _ _ _ _ _ _ _ _ _ _ _ _ (fun y11 y12 y13 y14 y20 y21 y22 y23 y24 y25 y26 y27 y28 y29 y30 y31 y32 y33 y34 y35 y36 y37 y38 y39 y40 y41 y42 y43 y44 y45 y46 y47 y48 y49 y50 y51 y52 y53 y54 y55 y56 y57 y58 y59 y60 y61 y62 y63 y64 y65 y66 y67 y68 y69 y70 y71 y72 y73 y74 y75 y76 y77 y78 y79 y80 y81 y82 y83 y84 y85 y86 y87 y88 y89 y90 y91 y92 y93 y94 y95 y96 y97 y98 y99 y100 y101 y102 y103 y104 y105 y106 y107 y108 y109 y110 y111 y112 y113 y114 y115 y116 y117 y118 y119 y120 y121 y122 y123 y124 y125 y126 y127 y128 y129 y130 y131 y132 y133 y134 y135 y136 y137 y138 y139 y140 y141 y142 y143 y144 y145 y146 y147 y148 y149 y150 y151 y152 y153 y154 y155 y156 y157 y158 y159 y160 y161 y162 y163 y164 y165 y166 y167 y168 y169 y170 y171 y172 y173 y174 y175 y176 y177 y178 y179 y180 y181 y182 y183 y184 y185 y186 y187 y188 y189 y190 y191 y192 y193 y194 y195 y196 y197 y198 y199 y200 y201 y202 y203 y204 y205 y206 y207 y208 y209 y210 y211 y212 y213 y214 y215 y216 y217 y218 y219 F' f' w' HF => ?_)
            go_wp2_with fail
            go_roundw
            case rel => exact ⟨n + 1, F', f', by omega, by omega, by go_num, HF.out⟩
            case measure => simp [intOf]; omega
      · have hil : decide ((n : Int) < (L.length : Int)) = true := by simp; omega
        have hi6 : decide ((n : Int) < 60) = false := by simp; omega
        go_wp2_with fail
        refine (HAL.out _).mono ?_
        rintro e w6 ⟨rfl, hb6⟩
        have HB6 : Hid (Below w.heap.size w w6) := HI.out.b.trans (hb6.mono hsr)
        clear hb6
        go_wp2_with fail
        go_ret
        exact ⟨rfl, HB6.out⟩
    · have hil : decide ((n : Int) < (L.length : Int)) = false := by simp; omega
      go_wp2_with fail
      refine (HAL.out _).mono ?_
      rintro e w6 ⟨rfl, hb6⟩
      have HB6 : Hid (Below w.heap.size w w6) := HI.out.b.trans (hb6.mono hsr)
      clear hb6
      go_wp2_with fail
      go_ret
      exact ⟨rfl, HB6.out⟩
end Go.Proofs.Ytoibmjmajbkbcaa
