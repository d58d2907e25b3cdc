/- TLt TLk TO5 TO6, joined. -/
import Derived.Test.YtlpjdfgknmfmnaaTZ0
import Derived.Test.YtlpjdfgknmfmnaaTF34
import Derived.Test.YtlpjdfgknmfmnaaTF45
import Derived.Test.YtlpjdfgknmfmnaaTF46
import Derived.Laws.BitsAllLaws
/- TableTurned's walk (written by mktlt.py from TLt.base). -/
namespace Go.Proofs.Ytlpjdfgknmfmnaa
open Go.RowKit

end Go.Proofs.Ytlpjdfgknmfmnaa

/- TableSeeks' walk. -/
namespace Go.Proofs.Ytlpjdfgknmfmnaa
open Go.RowKit

theorem Tb.kpT {S : TypeId → Prop} {w W : World} {lo B : Nat} {l : List Et} (h : Tb w lo B l) (hk : KpT S w W) (h8 : S 5) (hp : S 73) (ht : S 84) (hf : S 125) : Tb W lo B l := by
  obtain ⟨h1, h2, h3, h4, g, fv, h5, h6, ⟨cs, t1, t2, t3⟩, ⟨B2, g2, cap, f1, f2, f3, f4, f5⟩⟩ := h
  refine ⟨h1, h2, h3, h4, g, fv, hk _ _ _ _ ht h5, h6, ⟨cs, hk _ _ _ _ hp t1, t2, fun j hj => ?_⟩, ⟨B2, g2, cap, f1, f2, hk _ _ _ _ hf f3, own_kpT f4 hk h8, f5⟩⟩
  obtain ⟨kv, vv, k1, k2, k3, k4⟩ := t3 j hj
  exact ⟨kv, vv, k1, k2, own_kpT k3 hk h8, own_kpT k4 hk h8⟩
theorem own_zero (w : World) (base : Nat) (hb : base ≤ w.heap.size) : Own (w.alloc (.cells #[] 5)) base (.slice (some ⟨w.heap.size, 0, none⟩) 0 0) [] := by
  refine ⟨rfl, .inr ⟨w.heap.size, 0, #[], rfl, hb, heap_alloc_new _ _, Nat.le_refl _, by simp [maxLen], rfl, rfl⟩⟩
end Go.Proofs.Ytlpjdfgknmfmnaa

/- table: Ends of an open table. -/
namespace Go.Proofs.Ytlpjdfgknmfmnaa
open Go.RowKit

/-- The first and the last key. -/
def keyF (l : List Et) : List UInt8 := ((l[0]?).map (·.1)).getD []
def keyZ (l : List Et) : List UInt8 := ((l[l.length - 1]?).map (·.1)).getD []
theorem keyF_of {l : List Et} (h : 0 < l.length) : keyF l = (l[0]).1 := by unfold keyF; rw [List.getElem?_eq_getElem h]; rfl
theorem keyZ_of {l : List Et} (h : l.length - 1 < l.length) : keyZ l = (l[l.length - 1]).1 := by unfold keyZ; rw [List.getElem?_eq_getElem h]; rfl
theorem keyZ_last {l : List Et} (h : 0 < l.length) : tLast l (tK l.length - 1) = keyZ l := by
  have hj : 16 * (tK l.length - 1) < l.length := by unfold tK; omega
  have h2 := tCh_len l (tK l.length - 1)
  have e : 16 * (tK l.length - 1) + ((tCh l (tK l.length - 1)).length - 1) = l.length - 1 := by
    rw [h2]
    unfold tK
    omega
  rw [tLast_at hj, keyZ_of (by omega)]
  congr 2
set_option maxRecDepth 100000 in
theorem clone_any10 (a : Addr) (n c : Nat) (l : List UInt8) (hl : l.length ≤ 100000) (w : World) (hr : Reads w (.slice (some a) n c) l) :
    Calls Try.prog 80 #[.slice (some a) n c] w fun e w' => ∃ v', e = .returned v' ∧ Own w' w.heap.size v' l ∧ Below w.heap.size w w' := by
  have hnl : ∀ w, (binOp BinOp.eql 25 (.slice (some a) n c) (.slice none 0 0)).run Try.prog w = .ok (.bool false) w := fun _ => rfl
  have HR : Hid (Reads w (.slice (some a) n c) l) := hr
  obtain ⟨w1, HW1⟩ := hid_ex (w.alloc (.cells #[] 5))
  have hb1 : Below w.heap.size w w1 := by rw [HW1.out]; exact (Below.refl _ _).alloc (Nat.le_refl _) _
  have ho1 : Own w1 w.heap.size (.slice (some ⟨w.heap.size, 0, none⟩) 0 0) [] := by rw [HW1.out]; exact own_zero w _ (Nat.le_refl _)
  obtain ⟨v7, w7, hr7, ho7, hb7⟩ := run_app 25 w.heap.size _ (.slice (some a) n c) [] l l rfl ho1 (hr.below hb1) (by simp; omega) hb1.size
  have HO7 : Hid (Own w7 w.heap.size v7 l) := ho7
  have HB7 : Hid (Below w.heap.size w w7) := hb1.trans hb7.out
  rw [HW1.out] at hr7
  clear hr ho1 ho7 hb7 hb1 HW1
  go_enter Try.func80, Try.ntmps80
  go_wp2_with (at_builtin; refine wpList_app_runT rfl _ _ _ _ (by rfl) (by rfl) _ _ _ (by rfl) (by rfl) hr7 ?_; clear hr7)
  go_ret
  exact ⟨v7, rfl, HO7.out, HB7.out⟩
set_option maxRecDepth 100000 in
set_option maxHeartbeats 4000000 in
theorem tends_any {w : World} {lo B : Nat} {l : List Et} (h : Tb w lo B l) : Calls Try.prog 45 #[.pointer (some ⟨B, 0, none⟩)] w fun e w' => ∃ fv lv, e = .returned (.tuple #[fv, lv, .bool (decide (0 < l.length))]) ∧ Own w' w.heap.size fv (keyF l) ∧ Own w' w.heap.size lv (keyZ l) ∧ Below w.heap.size w w' := by
  have HL : Hid (Calls Try.prog 13 #[.pointer (some ⟨B, 0, none⟩)] w _) := tlen_any h
  by_cases h0 : l.length = 0
  · have HF : Hid (keyF l = [] ∧ keyZ l = []) := by have := List.length_eq_zero_iff.1 h0; subst this; exact ⟨rfl, rfl⟩
    have hd : decide (0 < l.length) = false := by simp [h0]
    rw [HF.out.1, HF.out.2, hd]
    rw [h0] at HL
    clear h hd
    go_enter Try.func45, Try.ntmps45
    go_wp2_with fail
    refine HL.out.mono ?_
    rintro e w1 ⟨rfl, rfl⟩
    go_wp2_with fail
    go_ret3
    exact ⟨_, _, rfl, Own.nil _ _, Own.nil _ _, Below.refl _ _⟩
  · have hl0 : 0 < l.length := by omega
    have hd : decide (0 < l.length) = true := by simp [hl0]
    rw [hd]
    have HTb : Hid (Tb w lo B l) := h
    have HSk : Hid (Calls Try.prog 44 #[.pointer (some ⟨B, 0, none⟩), .slice none 0 0, .int .i64 1] w (FiP w (l.take 1))) := by
      have hs := tseek_any h (.slice none 0 0) [] (.inl ⟨rfl, none, 0, rfl, fun _ => rfl⟩) 1 (by omega) (by omega)
      have e : skT l [] 1 = l.take 1 := by unfold skT; rw [geF_nil]
      rw [e] at hs
      exact hs
    have HKF : Hid (keyF l = (l[0]).1) := keyF_of hl0
    have HKZ : Hid (tLast l (tK l.length - 1) = keyZ l) := keyZ_last hl0
    have HKl : Hid ((keyZ l).length ≤ 256) := by
      unfold Hid
      rw [keyZ_of (by omega)]
      exact (h.ok.k _ (List.getElem_mem _)).2
    have hTK : 0 < tK l.length := by unfold tK; omega
    have hTK2 : tK l.length ≤ 256 := by have := h.ok.n; unfold tK; omega
    obtain ⟨N, HN⟩ : ∃ n, Hid (l.length = n) := ⟨_, rfl⟩
    have hN : ((N : Int) == 0) = false := by have := HN.out; simp; omega
    rw [HN.out] at HL
    clear h hd
    go_enter Try.func45, Try.ntmps45
    go_wp2_with fail
    refine HL.out.mono ?_
    rintro e w1 ⟨rfl, rfl⟩
    clear HL
    go_wp2_with fail
    refine HSk.out.mono ?_
    clear HSk
    rintro e w2 ⟨v2, xs, rfl, hxs, hto, hb2⟩
    have HB2 : Hid (Below w1.heap.size w1 w2) := hb2
    have hxl : xs.length = 1 := by
      have := congrArg List.length hxs
      rw [List.length_map, List.length_take] at this
      omega
    obtain ⟨x, rfl⟩ : ∃ x, xs = [x] := List.length_eq_one_iff.1 hxl
    have hx1 : x.e.1 = keyF l := by
      rw [HKF.out]
      have : [x.e] = l.take 1 := hxs
      have h2 : (l.take 1)[0]? = some x.e := by rw [← this]; rfl
      rw [List.getElem?_take_of_lt (by omega), List.getElem?_eq_getElem hl0] at h2
      simp only [Option.some.injEq] at h2
      rw [h2]
    have HOk : Hid (Own w2 w1.heap.size x.kv (keyF l)) := by unfold Hid; rw [← hx1]; exact (hto.2 x (by simp)).1
    obtain ⟨va, vc, hvv, _⟩ := hto.form
    subst hvv
    obtain ⟨vb, rfl, hvb1, hvb, hcs, _⟩ := hto.at (j := 0) (by simp) rfl
    have c0 := hcs 0 (by decide)
    simp only [e7, List.getElem_cons_zero, Nat.add_zero, Nat.zero_mul] at c0
    obtain ⟨fa, fc, hfv, _⟩ := HOk.out.form
    obtain ⟨FL, HFL⟩ : ∃ n, Hid ((keyF l).length = n) := ⟨_, rfl⟩
    rw [HFL.out] at hfv
    rw [hfv] at c0
    rw [hfv] at HOk
    have HTb2 : Hid (Tb w2 lo B l) := HTb.out.below hb2
    obtain ⟨g, fv, hB, hlg, htp, _, hP⟩ := HTb2.out.pieces
    obtain ⟨K, HK⟩ : ∃ n, Hid (tK l.length = n) := ⟨_, rfl⟩
    rw [HK.out] at hB hTK hTK2 HKZ
    have z0 : w2.cell? ⟨B, 0, none⟩ = some (.slice (some ⟨g, 0, none⟩) K K) := by simp [World.cell?, hB]
    obtain ⟨b2, off2, lv, rv, hb2', hbw2, k0, _, r0, _⟩ := hP.atP (j := K - 1) (by rw [List.length_map, List.length_range, HK.out]; omega) rfl
    simp only [Option.some.injEq, Addr.mk.injEq, and_true] at hb2'
    obtain ⟨rfl, rfl⟩ := hb2'
    simp only [List.getElem_map, List.getElem_range, Nat.zero_add] at k0 r0
    rw [HKZ.out] at r0
    have hBl := (Array.getElem?_eq_some_iff.1 hB).1
    obtain ⟨Z, HZ⟩ := hid_ex (keyZ l)
    rw [← HZ.out] at r0 HKl
    obtain ⟨FK, HFK⟩ := hid_ex (keyF l)
    rw [← HFK.out] at HOk
    have hzne : ∃ p, ∃ c, lv = .slice (some p) Z.length c := by
      obtain ⟨la, lc, rfl, _⟩ := r0.form
      cases la with
      | some p => exact ⟨p, lc, rfl⟩
      | none =>
        exfalso
        have hz1 : 1 ≤ Z.length := by
          have := HZ.out
          rw [keyZ_of (by omega)] at this
          rw [this]
          exact (HTb.out.ok.k _ (List.getElem_mem _)).1
        rcases r0 with ⟨hz, _⟩ | ⟨b9, _, _, hv9, _⟩
        · rw [hz] at hz1; simp at hz1
        · cases hv9
    obtain ⟨lp, lc, rfl⟩ := hzne
    obtain ⟨ZL, HZL⟩ : ∃ n, Hid (Z.length = n) := ⟨_, rfl⟩
    rw [HZL.out] at k0 r0
    have HR0 : Hid (Reads w2 (.slice (some lp) ZL lc) Z) := r0
    have HZ0 : Hid (w2.cell? ⟨B, 0, none⟩ = some (.slice (some ⟨g, 0, none⟩) K K) ∧ B < w2.heap.size) := ⟨z0, hBl⟩
    have HK0 : Hid (w2.cell? ⟨g, (K - 1) * 2, none⟩ = some (.slice (some lp) ZL lc) ∧ g < w2.heap.size) := ⟨k0, hbw2⟩
    have hKs : (K : Int) - 1 = ((K - 1 : Nat) : Int) := by omega
    obtain ⟨Q, HQ⟩ : ∃ n, Hid (K - 1 = n) := ⟨_, rfl⟩
    rw [HQ.out] at hKs HK0
    have hQK : Q < K := by have := HQ.out; omega
    have hQK2 : ¬ K ≤ Q := by omega
    have hQw : IntKind.i64.wrap (Q : Int) = (Q : Int) := by simp [IntKind.wrap, IntKind.bits, IntKind.signed]; omega
    clear hto hcs hxs hb2 hB htp hP k0 z0 r0 hxl hx1 hfv
    go_wp2_with fail
    have HCl : Hid (Calls Try.prog 80 #[.slice (some lp) ZL lc] w2.drew _) := clone_any10 lp ZL lc Z (by have := HKl.out; omega) w2.drew (HR0.out.below (Below.refl _ _).drew)
    refine wp_region_noPanic ?_
    refine wp_region_held_drew (S := fun w' => Below w2.drew.heap.size w2.drew w') (by kernel_rfl) ?_ (fun hHeld => ?_)
    · exact Below.refl _ _
    refine tk (i := 0) (v := .slice fa FL fc) rfl ?_ ?_
    · intro w1 hSw; go_simp
    simp only [za, zc, Act.put, zd, ze, zf]
    refine tk (i := 1) (v := .pointer (some ⟨B, 0, none⟩)) rfl ?_ ?_
    · intro w1 hSw; go_simp
    simp only [za, zb, zc, Act.put, zd, ze, zf]
    refine tk (i := 2) (v := .pointer (some ⟨B, 0, none⟩)) rfl ?_ ?_
    · intro w1 hSw; go_simp
    simp only [za, zb, zc, Act.put, zd, ze, zf]
    refine tk (i := 3) (v := .pointer (some ⟨B, 0, none⟩)) rfl ?_ ?_
    · intro w1 hSw; go_simp
    simp only [za, zb, zc, Act.put, zd, ze, zf]
    refine tk (i := 4) (v := .pointer (some ⟨B, 0, none⟩)) rfl ?_ ?_
    · intro w1 hSw; go_simp
    simp only [za, zb, zc, Act.put, zd, ze, zf]
    refine tk (i := 5) (v := .slice (some ⟨g, 0, none⟩) K K) rfl ?_ ?_
    · (intro w1 hSw; (try dsimp only at hSw); have h0 := (hSw.cell (p := ⟨B, 0, none⟩) HZ0.out.2).trans HZ0.out.1; go_simp)
    simp only [za, zb, zc, Act.put, zd, ze, zf]
    refine tk (i := 6) (v := .pointer (some ⟨B, 0, none⟩)) rfl ?_ ?_
    · intro w1 hSw; go_simp
    simp only [za, zb, zc, Act.put, zd, ze, zf]
    refine tk (i := 7) (v := .pointer (some ⟨B, 0, none⟩)) rfl ?_ ?_
    · intro w1 hSw; go_simp
    simp only [za, zb, zc, Act.put, zd, ze, zf]
    refine tk (i := 8) (v := .pointer (some ⟨B, 0, none⟩)) rfl ?_ ?_
    · intro w1 hSw; go_simp
    simp only [za, zb, zc, Act.put, zd, ze, zf]
    refine tk (i := 9) (v := .pointer (some ⟨B, 0, none⟩)) rfl ?_ ?_
    · intro w1 hSw; go_simp
    simp only [za, zb, zc, Act.put, zd, ze, zf]
    refine tk (i := 10) (v := .slice (some ⟨g, 0, none⟩) K K) rfl ?_ ?_
    · (intro w1 hSw; (try dsimp only at hSw); have h0 := (hSw.cell (p := ⟨B, 0, none⟩) HZ0.out.2).trans HZ0.out.1; go_simp)
    simp only [za, zb, zc, Act.put, zd, ze, zf]
    refine tk (i := 11) (v := .int .i64 (K : Int)) rfl ?_ ?_
    · intro w1 hSw; go_simp
    simp only [za, zb, zc, Act.put, zd, ze, zf]
    refine tk (i := 12) (v := .int .i64 (Q : Int)) rfl ?_ ?_
    · intro w1 hSw; go_simp
    simp only [za, zb, zc, Act.put, zd, ze, zf]
    refine tk (i := 13) (v := .pointer (some ⟨g, Q * 2, none⟩)) rfl ?_ ?_
    · intro w1 hSw; go_simp
    simp only [za, zb, zc, Act.put, zd, ze, zf]
    refine tk (i := 14) (v := .pointer (some ⟨g, Q * 2, none⟩)) rfl ?_ ?_
    · intro w1 hSw; go_simp
    simp only [za, zb, zc, Act.put, zd, ze, zf]
    refine tk (i := 15) (v := .slice (some lp) ZL lc) rfl ?_ ?_
    · (intro w1 hSw; (try dsimp only at hSw); have h0 := (hSw.cell (p := ⟨g, Q * 2, none⟩) HK0.out.2).trans HK0.out.1; go_simp)
    simp only [za, zb, zc, Act.put, zd, ze, zf]
    refine wpAnyH_ready (rs := [16]) (by kernel_rfl) (by simp) ?_
    refine AllReadyH.cons (o := _) rfl (fun K hK => ?_) AllReadyH.nil
    go_simp
    refine HCl.out.mono ?_
    clear HCl
    rintro e w3 ⟨v3, rfl, ho3, hb3⟩
    go_simp
    refine hK.out _ _ ?_ (fun hHeld => ?_)
    · exact hb3
    clear hK K
    refine tk (i := 17) (v := .slice fa FL fc) rfl ?_ ?_
    · intro w1 hSw; go_simp
    simp only [za, zb, zc, Act.put, zd, ze, zf]
    refine tk (i := 18) (v := v3) rfl ?_ ?_
    · intro w1 hSw; go_simp
    simp only [za, zb, zc, Act.put, zd, ze, zf]
    refine tk (i := 19) (v := .bool true) rfl ?_ ?_
    · intro w1 hSw; go_simp
    simp only [za, zb, zc, Act.put, zd, ze, zf]
    refine wpAnyH_done (by kernel_rfl) ?_ _
    refine NoPanic.normal ?_
    have HO3 : Hid (Own w3 w2.drew.heap.size v3 Z) := ho3
    have hb23 : Below w2.heap.size w2 w3 := (Below.refl w2.heap.size w2).drew.trans hb3
    have HB3 : Hid (Below w1.heap.size w1 w3) := HB2.out.trans (hb23.mono HB2.out.size)
    have HOk3 : Hid (Own w3 w1.heap.size (.slice fa FL fc) FK) := HOk.out.below hb23
    have HFv : Hid (FK = keyF l ∧ Z = keyZ l) := ⟨HFK.out, HZ.out⟩
    obtain ⟨a3, c3, rfl, _⟩ := ho3.form
    clear ho3 hb3 hb23 hHeld
    go_wp2_with fail
    go_ret3
    refine ⟨_, _, rfl, ?_, ?_, HB3.out⟩
    · rw [← HFv.out.1]; exact HOk3.out
    · rw [← HFv.out.2]; exact HO3.out.mono HB2.out.size
end Go.Proofs.Ytlpjdfgknmfmnaa

/- law10: what a table told, and what of it may be turned. -/
namespace Go.Proofs.Ytlpjdfgknmfmnaa
open Go.RowKit

/-- Seek of a table, of any number. -/
theorem tseekI_any {w : World} {lo B : Nat} {l : List Et} (h : Tb w lo B l) (kv : Value) (key : List UInt8) (hR : Reads w kv key) (m : Int) (hm : m ≤ 9223372036854775807) : Calls Try.prog 44 #[.pointer (some ⟨B, 0, none⟩), kv, .int .i64 m] w (FiP w (skI l key m)) := by
  by_cases h1 : m < 1
  · rw [skI_no l key h1]
    obtain ⟨ka, kc, rfl, _⟩ := hR.form
    exact tseek_no _ _ _ _ m h1 w
  · obtain ⟨n, rfl⟩ : ∃ n : Nat, m = (n : Int) := ⟨m.toNat, by omega⟩
    rw [skI_T]
    exact tseek_any h kv key hR n (by omega) (by omega)
/-- Bytes of one's own, whatever they are. -/
def Hld (W : World) (base : Nat) (v : Value) (n : Nat) : Prop := ∃ l : List UInt8, l.length = n ∧ Own W base v l
theorem own_turnI {W : World} {base g i : Nat} {v : Value} {l : List UInt8} (y : UInt8) (h : Own W base v l) : ∃ l' : List UInt8, l'.length = l.length ∧ Own (W.setCell ⟨g, i, none⟩ (.int .u8 (y.toNat : Int))) base v l' := by
  by_cases e : ∃ n cap, v = .slice (some ⟨g, 0, none⟩) n cap
  · obtain ⟨n, cap, rfl⟩ := e
    exact ⟨l.set i y, by simp, (h.stored i y).1⟩
  · refine ⟨l, rfl, ?_⟩
    obtain ⟨h1, h2⟩ := h
    refine ⟨h1, ?_⟩
    rcases h2 with h2 | ⟨g', cap, cur, hv, hg, hw, r⟩
    · exact .inl h2
    · refine .inr ⟨g', cap, cur, hv, hg, ?_, r⟩
      rw [Go.heap_setCell_other _ _ _ _ (by rintro rfl; exact e ⟨_, _, hv⟩)]
      exact hw
theorem Hld.turn {W : World} {base g i n : Nat} {v : Value} (y : UInt8) (h : Hld W base v n) : Hld (W.setCell ⟨g, i, none⟩ (.int .u8 (y.toNat : Int))) base v n := by
  obtain ⟨l, h1, h2⟩ := h
  obtain ⟨l', h3, h4⟩ := own_turnI (g := g) (i := i) y h2
  exact ⟨l', by omega, h4⟩
theorem Hld.of {W : World} {base base' : Nat} {v : Value} {l : List UInt8} {n : Nat} (h : Own W base' v l) (hb : base ≤ base') (hn : l.length = n) : Hld W base v n := ⟨l, hn, h.mono hb⟩
theorem Hld.below {A B : World} {base n : Nat} {v : Value} (h : Hld A base v n) (hb : Below A.heap.size A B) : Hld B base v n := by
  obtain ⟨l, h1, h2⟩ := h
  exact ⟨l, h1, h2.below hb⟩
theorem Hld.cell {W : World} {base n : Nat} {v : Value} (h : Hld W base v n) {i : Nat} (hi : i < n) : ∃ (g cap x : Nat), v = .slice (some ⟨g, 0, none⟩) n cap ∧ base ≤ g ∧ g < W.heap.size ∧ x < 256 ∧ W.cell? ⟨g, i, none⟩ = some (.int .u8 (x : Int)) ∧ W.frozen? ⟨g, i, none⟩ = false ∧ ∃ cs, W.heap[g]? = some (.cells cs 5) := by
  obtain ⟨l, rfl, h2⟩ := h
  obtain ⟨g, c, rfl, hg1, hg2, _, _⟩ := h2.some (by omega)
  obtain ⟨q1, q2⟩ := h2.at i hi
  refine ⟨g, c, (l[i]).toNat, rfl, hg1, hg2, (l[i]).toNat_lt, q1, q2, ?_⟩
  rcases h2.2 with ⟨q, _⟩ | ⟨g', cap, cur, hv, _, hw, _⟩
  · cases q
  · simp only [Value.slice.injEq, Option.some.injEq, Addr.mk.injEq, and_true] at hv
    obtain ⟨rfl, _⟩ := hv
    exact ⟨cur, hw⟩
/-- Entries that were told, whose keys are of one's own, whatever they are. -/
def Al (W : World) (base : Nat) (v : Value) (xs : List Ee) : Prop := W.ownsRow base 43 7 v xs.length (xs.flatMap Ee.c) ∧ ∀ x ∈ xs, Hld W base x.kv x.e.1.length
theorem Al.of {W : World} {base base' : Nat} {v : Value} {xs : List Ee} (h : TOwn W base' v xs) (hb : base ≤ base') : Al W base v xs := by
  obtain ⟨h1, h2⟩ := h.mono hb
  exact ⟨h1, fun x hx => ⟨x.e.1, rfl, (h2 x hx).1⟩⟩
theorem Al.below {A B : World} {base : Nat} {v : Value} {xs : List Ee} (h : Al A base v xs) (hb : Below A.heap.size A B) : Al B base v xs := ⟨row_kpT (S := fun _ => True) h.1 (KpT.of_below hb) trivial, fun x hx => (h.2 x hx).below hb⟩
theorem Al.turn {W : World} {base g i : Nat} {v : Value} {xs : List Ee} {cs : Array Value} (y : UInt8) (h : Al W base v xs) (hg : W.heap[g]? = some (.cells cs 5)) : Al (W.setCell ⟨g, i, none⟩ (.int .u8 (y.toNat : Int))) base v xs := ⟨row_setg h.1 hg (by decide), fun x hx => (h.2 x hx).turn y⟩
theorem Al.at {W : World} {base : Nat} {a : Option Addr} {n c : Nat} {xs : List Ee} (h : Al W base (.slice a n c) xs) {j : Nat} (hj : j < xs.length) {x : Ee} (hx : x = xs[j]) : ∃ g, a = some ⟨g, 0, none⟩ ∧ W.cell? ⟨g, j * 7, none⟩ = some x.kv ∧ Hld W base x.kv x.e.1.length := by
  subst hx
  have h1 := h.1
  rcases h1.2 with ⟨q, q2⟩ | ⟨g, cap, cur, hv, _⟩
  · omega
  · simp only [Value.slice.injEq] at hv
    obtain ⟨rfl, rfl, rfl⟩ := hv
    refine ⟨g, rfl, ?_, h.2 _ (List.getElem_mem hj)⟩
    rw [show j * 7 = 7 * j + 0 by omega, World.ownsRow.cellAt h1 _ (by omega), flatE xs j 0 hj (by decide)]
    rw [List.getElem?_eq_getElem (by simp [Ee.c, e7])]
    rfl
theorem xor_255 (x : Nat) (hx : x < 256) : ∃ y : UInt8, bits .xor .u8 (x : Int) 255 = (y.toNat : Int) := by
  have hxl : x ^^^ 255 < 2 ^ 8 := Nat.xor_lt_two_pow hx (by decide)
  have ey : (UInt8.ofNat (x ^^^ 255)).toNat = x ^^^ 255 := by rw [UInt8.toNat_ofNat', Nat.mod_eq_of_lt hxl]
  exact ⟨UInt8.ofNat (x ^^^ 255), by rw [ey]; exact u8_xor_nat x 255 hx (by decide)⟩
end Go.Proofs.Ytlpjdfgknmfmnaa
