/- TLk TLs TA3 TLz, joined. -/
import Derived.Test.YtldifjfcgcmfiaaTD8
import Derived.Test.YtldifjfcgcmfiaaTD15
import Derived.Test.YtldifjfcgcmfiaaTD34
import Derived.Test.YtldifjfcgcmfiaaTD36
import Derived.Deep.Slices
import Derived.ProofKit
import Derived.OpenShut
import Derived.Lib.SmallJoins
/- TableSeeks' walk. -/
namespace Go.Proofs.Ytldifjfcgcmfiaa
open Go.RowKit

/-- The key behind a key. -/
theorem lt_next : ∀ a : Ks, ltK a (a ++ [0])
  | [] => rfl
  | x :: a => by
    have := lt_next a
    unfold ltK at *
    simpa [Lib.compareBytes] using this
theorem next_le : ∀ {a k : Ks}, ltK a k → ¬ ltK k (a ++ [0])
  | [], [], h => by simp [ltK, Lib.compareBytes] at h
  | [], y :: k, _ => by
    unfold ltK
    simp only [List.nil_append, Lib.compareBytes]
    intro h
    by_cases h1 : y < 0
    · exact absurd h1 (by simp)
    · rw [if_neg h1] at h
      by_cases h2 : (0 : UInt8) < y
      · rw [if_pos h2] at h; simp at h
      · rw [if_neg h2] at h
        cases k <;> simp [Lib.compareBytes] at h
  | x :: a, [], h => by simp [ltK, Lib.compareBytes] at h
  | x :: a, y :: k, h => by
    unfold ltK at *
    simp only [List.cons_append, Lib.compareBytes] at *
    by_cases h1 : x < y
    · rw [if_neg (by rw [UInt8.lt_iff_toNat_lt] at *; omega), if_pos h1]; decide
    · rw [if_neg h1] at h
      by_cases h2 : y < x
      · rw [if_pos h2] at h; simp at h
      · rw [if_neg h2] at h
        rw [if_neg h2, if_neg h1]
        exact next_le h
/-- What stands behind the first m entries. -/
def keyAt (l : List Et) (m : Nat) : Ks := if h : m = 0 then [] else if h2 : m - 1 < l.length then l[m - 1].1 ++ [0] else []
theorem ge_next {l : List Et} (h : TOk l) {m : Nat} (hm : m ≤ l.length) : geF (keyAt l m) l = l.drop m := by
  rcases Nat.eq_zero_or_pos m with h0 | h0
  · subst h0
    unfold keyAt
    rw [dif_pos rfl, geF_nil]; rfl
  · unfold keyAt
    rw [dif_neg (by omega), dif_pos (by omega)]
    have hs := List.pairwise_iff_getElem.1 h.s
    have h1 : geF (l[m - 1].1 ++ [0]) (l.take m) = [] := by
      unfold geF
      rw [List.filter_eq_nil_iff]
      intro x hx
      obtain ⟨j, hj, rfl⟩ := List.getElem_of_mem hx
      rw [List.length_take] at hj
      simp only [decide_eq_true_eq, List.getElem_take]
      rw [cmp_ge, Decidable.not_not]
      rcases Nat.lt_or_ge j (m - 1) with q | q
      · have := hs j (m - 1) (by rw [List.length_map]; omega) (by rw [List.length_map]; omega) q
        have t : ltK l[j].1 l[m - 1].1 := by simpa using this
        exact ltK_trans t (lt_next _)
      · have e : m - 1 = j := by omega
        subst e
        exact lt_next _
    have h2 : geF (l[m - 1].1 ++ [0]) (l.drop m) = l.drop m := by
      unfold geF
      rw [List.filter_eq_self]
      intro x hx
      obtain ⟨j, hj, rfl⟩ := List.getElem_of_mem hx
      rw [List.length_drop] at hj
      simp only [decide_eq_true_eq, List.getElem_drop]
      rw [cmp_ge]
      have := hs (m - 1) (m + j) (by rw [List.length_map]; omega) (by rw [List.length_map]; omega) (by omega)
      have t : ltK l[m - 1].1 l[m + j].1 := by simpa using this
      exact next_le t
    have h3 : l.take m ++ l.drop m = l := List.take_append_drop m l
    have h4 := geF_app (l[m - 1].1 ++ [0]) (l.take m) (l.drop m)
    rw [h3, h1, h2, List.nil_append] at h4
    exact h4
/-- Entries behind those of one's own. -/
theorem TOwn.appM {W : World} {base : Nat} {v v2 : Value} {xs ys : List Ee} (h : TOwn W base v xs) (hz : base ≤ W.heap.size) (h2 : TOwn W base v2 ys) (h0 : 0 < ys.length) (hX : xs.length + ys.length ≤ 1000000) (ty : TypeId) :
    ∃ v' w1, (Builtin.append_ #[22, 22] ty #[v, v2]).run Try.prog W = .ok v' w1 ∧ (∃ a c, v' = .slice a (xs.length + ys.length) c) ∧ TOwn w1 base v' (xs ++ ys) ∧ W.grownBy w1 v.ownBlock ∧ Below base W w1 := by
  have hinf := infoTe
  cases hi0 : Try.prog.info? 42 with
  | none => rw [hi0] at hinf; cases hinf
  | some i0 =>
    rw [hi0] at hinf
    simp only [Option.map_some, Option.some.injEq, Prod.mk.injEq] at hinf
    obtain ⟨hz0, hz1, hz2⟩ := hinf
    obtain ⟨z, hzz, hzc⟩ := Option.map_eq_some_iff.1 hz0
    have hone : ∀ u ∈ ys.flatMap Ee.c, u.oneCell' = true := by
      intro u hu
      obtain ⟨y, hy, hu⟩ := List.mem_flatMap.1 hu
      obtain ⟨ak, ck, ek, _⟩ := (h2.2 y hy).1.form
      unfold Ee.c e7 at hu
      rw [ek] at hu
      simp at hu
      rcases hu with rfl | rfl | rfl | rfl | rfl | rfl | rfl <;> rfl
    rcases h2.1.2 with ⟨_, q⟩ | ⟨g, c2, cur, hv, hg0, hw, hc, hm, _⟩
    · omega
    have h21 := h2.1
    rw [hv] at h21
    have hfl : (ys.flatMap Ee.c).length = ys.length * 7 := h2.1.1
    have hnews : ∀ j u, (ys.flatMap Ee.c)[j]? = some u → W.cell? ((⟨g, 0, none⟩ : Addr).add j) = some u := by
      intro j u hj
      have ea : (⟨g, 0, none⟩ : Addr).add j = ⟨g, j, none⟩ := by simp [Addr.add]; omega
      have hjl : j < (ys.flatMap Ee.c).length := by
        rcases Nat.lt_or_ge j (ys.flatMap Ee.c).length with q | q
        · exact q
        · rw [List.getElem?_eq_none q] at hj; cases hj
      rw [ea, World.ownsRow.cellAt h21 _ (by omega)]
      exact hj
    rw [hv]
    obtain ⟨v', w1, hrun, hown, hg, _⟩ := run_append_own (P := Try.prog) W base 22 ty 42 i0 z 7 72 Try.underlying22 hi0 hzz hz1 hz2 (by rw [hzc]; rfl) (by decide) v xs.length (xs.flatMap Ee.c) h.1 ⟨g, 0, none⟩ ys.length c2 (ys.flatMap Ee.c) hfl hnews hone (by unfold maxLen; omega) (by omega) hz
    have hT : TOwn w1 base v' (xs ++ ys) := by
      refine ⟨by rw [List.length_append, List.flatMap_append]; exact hown, fun y hy => ?_⟩
      rcases List.mem_append.1 hy with hy | hy
      · exact ⟨row_other h.1 (h.2 y hy).1 (by decide) hg, (h.2 y hy).2⟩
      · exact ⟨row_other h.1 (h2.2 y hy).1 (by decide) hg, (h2.2 y hy).2⟩
    refine ⟨v', w1, hrun, ?_, hT, hg, (Below.refl _ _).grown hg hz (own_block h.1)⟩
    obtain ⟨a, c, e, _⟩ := hT.form
    exact ⟨a, c, by rw [e, List.length_append]⟩
/-- Blocks of these types stand. -/
def KpT (S : TypeId → Prop) (A B : World) : Prop := ∀ (c : Nat) (cs : Array Value) (T : TypeId) (fr : Nat × Nat), S T → A.heap[c]? = some (.cells cs T fr) → B.heap[c]? = some (.cells cs T fr)
theorem KpT.of_below {S : TypeId → Prop} {A B : World} (h : Below A.heap.size A B) : KpT S A B := fun c _ _ _ _ hc => (h.block c (Array.getElem?_eq_some_iff.1 hc).1).trans hc
theorem KpT.trans {S : TypeId → Prop} {A B C : World} (h : KpT S A B) (k : KpT S B C) : KpT S A C := fun c cs T fr hs hc => k c cs T fr hs (h c cs T fr hs hc)
theorem KpT.grown {S : TypeId → Prop} {A B : World} {base : Nat} {e : TypeId} {size : Nat} {v : Value} {n : Nat} {xs : List Value} (h : A.ownsRow base e size v n xs) (hg : A.grownBy B v.ownBlock) (he : ¬ S e) : KpT S A B := by
  intro c cs T fr hs hc
  rw [hg.block c (Array.getElem?_eq_some_iff.1 hc).1 ?_]
  · exact hc
  · intro q
    rcases h.2 with ⟨rfl, _⟩ | ⟨g, cap, cur, rfl, _, hgb, _⟩
    · simp [Value.ownBlock] at q
    · obtain rfl : c = g := by simpa [Value.ownBlock] using q
      rw [hc] at hgb
      simp at hgb
      exact he (hgb.2.1 ▸ hs)
theorem own_kpT {S : TypeId → Prop} {A B : World} {base : Nat} {v : Value} {l : List UInt8} (h : Own A base v l) (hk : KpT S A B) (h8 : S 5) : Own B base v l := by
  refine ⟨h.1, ?_⟩
  rcases h.2 with q | ⟨g, cap, cur, hv, hg, hw, r⟩
  · exact .inl q
  · exact .inr ⟨g, cap, cur, hv, hg, hk _ _ _ _ h8 hw, r⟩
theorem Tb.kpT {S : TypeId → Prop} {w W : World} {lo B : Nat} {l : List Et} (h : Tb w lo B l) (hk : KpT S w W) (h8 : S 5) (hp : S 65) (ht : S 76) (hf : S 104) : Tb W lo B l := by
  obtain ⟨h1, h2, h3, h4, g, fv, h5, h6, ⟨cs, t1, t2, t3⟩, ⟨B2, g2, cap, f1, f2, f3, f4, f5⟩⟩ := h
  refine ⟨h1, h2, h3, h4, g, fv, hk _ _ _ _ ht h5, h6, ⟨cs, hk _ _ _ _ hp t1, t2, fun j hj => ?_⟩, ⟨B2, g2, cap, f1, f2, hk _ _ _ _ hf f3, own_kpT f4 hk h8, f5⟩⟩
  obtain ⟨kv, vv, k1, k2, k3, k4⟩ := t3 j hj
  exact ⟨kv, vv, k1, k2, own_kpT k3 hk h8, own_kpT k4 hk h8⟩
theorem own_zero (w : World) (base : Nat) (hb : base ≤ w.heap.size) : Own (w.alloc (.cells #[] 5)) base (.slice (some ⟨w.heap.size, 0, none⟩) 0 0) [] := by
  refine ⟨rfl, .inr ⟨w.heap.size, 0, #[], rfl, hb, heap_alloc_new _ _, Nat.le_refl _, by simp [maxLen], rfl, rfl⟩⟩
end Go.Proofs.Ytldifjfcgcmfiaa

/- TableSeeks' walk, second part. -/
namespace Go.Proofs.Ytldifjfcgcmfiaa
open Go.RowKit

theorem keyAt_len {l : List Et} (h : TOk l) (m : Nat) : (keyAt l m).length ≤ 257 := by
  unfold keyAt
  by_cases h0 : m = 0
  · rw [dif_pos h0]; simp
  · rw [dif_neg h0]
    by_cases h1 : m - 1 < l.length
    · rw [dif_pos h1]
      have := (h.k _ (List.getElem_mem h1)).2
      simp; omega
    · rw [dif_neg h1]; simp
set_option maxRecDepth 100000 in
set_option maxHeartbeats 4000000 in
theorem seeks10_walk (v : Value) (L : List Et) (a1 : Int) (W : World) (hR : TRd W v L) (ha1 : -9223372036854775808 ≤ a1 ∧ a1 ≤ 9223372036854775807) : Calls Try.prog 6 #[v, .int .i64 a1] W fun e W' => e = .returned (.bool true) ∧ Below W.heap.size W W' := by
  obtain ⟨a, cap, rfl, hc, hm⟩ : ∃ a cap, v = .slice a L.length cap ∧ L.length ≤ cap ∧ cap ≤ maxLen := by obtain ⟨a, cap, h1, h2, h3, _⟩ := hR; exact ⟨a, cap, h1, h2, h3⟩
  unfold maxLen at hm
  have HR : Hid (TRd W (.slice a L.length cap) L) := hR
  have HGr : Hid (Calls Try.prog 7 #[.slice a L.length cap] W _) := great10_any _ L W hR
  have HWr : Hid (Calls Try.prog 9 #[.slice a L.length cap] W _) := twrite_all _ L W hR
  have HAg : Hid (∀ x ∈ L, AgOk x.2) := hR.ag
  obtain ⟨N, HN⟩ : ∃ n, Hid (L.length = n) := ⟨_, rfl⟩
  rw [HN.out] at HR HGr HWr hc ⊢
  obtain ⟨G, HG⟩ := hid_ex (grB L)
  rw [← HG.out] at HGr
  clear hR
  go_enter Try.func6, Try.ntmps6
  go_wp2_with fail
  refine HGr.out.mono ?_
  clear HGr
  rintro e w0 ⟨rfl, rfl⟩
  cases G with
  | true =>
    go_wp2_with fail
    refine (alive10_any w0).mono ?_
    rintro e w1 ⟨rfl, hb1⟩
    go_wp2_with fail
    go_ret
    exact ⟨rfl, hb1⟩
  | false =>
    by_cases hq : a1 < 1
    · go_wp2_with fail
      refine (alive10_any w0).mono ?_
      rintro e w1 ⟨rfl, hb1⟩
      go_wp2_with fail
      go_ret
      exact ⟨rfl, hb1⟩
    · obtain ⟨mo, rfl⟩ : ∃ n : Nat, a1 = n := ⟨a1.toNat, by omega⟩
      have hmo0 : 1 ≤ mo := by omega
      have hmo1 : mo ≤ 9223372036854775807 := by omega
      have hq' : ¬ (mo : Int) < 1 := hq
      have HGn : Hid ((L.length ≤ 80 ∨ (4096 < L.length ∧ L.length ≤ 5000)) ∧ ∀ x ∈ L, x.1.length ≤ 1000) := gr_no HG.out.symm
      obtain ⟨E, HE⟩ := hid_ex (twE L)
      obtain ⟨T, HT⟩ := hid_ex (twB L)
      rw [← HE.out, ← HT.out] at HWr
      clear hq ha1
      go_wp2_with fail
      refine HWr.out.mono ?_
      clear HWr
      rintro e w1 ⟨v1, rfl, ho1, hb1⟩
      have HB1 : Hid (Below w0.heap.size w0 w1) := hb1
      by_cases hE : E = 0
      · subst hE
        have HOp : Hid (twE L = 0) := HE.out.symm
        obtain ⟨hL, hK⟩ := op_back HOp.out HAg.out
        have hfew := twE_few HOp.out HGn.out.1
        have hOpen := topen_any v1 T w1 ho1.reads (by rw [HT.out]; exact twB_len HOp.out hfew)
        rw [HT.out] at hOpen
        have HOpn : Hid (Calls Try.prog 10 #[v1] w1 fun e w' => Below w1.heap.size w1 w' ∧ ∃ B, e = .returned (.tuple #[.pointer (some ⟨B, 0, none⟩), .int .i64 0]) ∧ Tb w' w1.heap.size B L) := by
          refine hOpen.mono ?_
          rintro e w' ⟨h1, ⟨_, B, h2, h3⟩ | ⟨h2, _⟩⟩
          · rw [hL] at h3; exact ⟨h1, B, h2, h3⟩
          · exact absurd hK h2
        obtain ⟨a1, c1, rfl, _⟩ := ho1.form
        have hN80 : N ≤ 80 := by rw [← HN.out]; exact hfew
        clear hL hK hOpen ho1 hb1 hfew HE HT
        go_wp2_with fail
        refine HOpn.out.mono ?_
        clear HOpn
        rintro e w2 ⟨hb2, B, rfl, hTb⟩
        have HB2 : Hid (Below w0.heap.size w0 w2) := HB1.out.trans (hb2.mono HB1.out.size)
        have HTb : Hid (Tb w2 w1.heap.size B L) := hTb
        have HOk : Hid (TOk L) := hTb.ok
        clear hTb hb2
        go_wp2_with fail
        go_loopw [9, 10, 11] (fun o k i wr => ∃ (j m : Nat) (xs : List Ee), i = .int .i64 (j : Int) ∧ j ≤ 100 ∧ m ≤ N ∧ min j N ≤ m ∧ Hid (TOwn wr w0.heap.size o xs) ∧ Hid (xs.map Ee.e = L.take m) ∧ Hid (Own wr w0.heap.size k (keyAt L m)) ∧ Hid (Tb wr w1.heap.size B L) ∧ Hid (Below w0.heap.size w0 wr)) (fun _ _ i _ => 100 - (intOf i).toNat)
        case atStart => exact ⟨0, 0, [], rfl, by omega, by omega, by omega, TOwn.nil _ _, rfl, Own.nil _ _, HTb, HB2⟩
        case round =>
          clear HTb HB2
          obtain ⟨j, m, xs, rfl, hj, hmN, hmm, HO, HX, HK, HTb, HB⟩ := hrel
          have hkl := keyAt_len HOk.out m
          obtain ⟨ao, co, rfl, _⟩ := HO.out.form
          obtain ⟨KY, HKY⟩ := hid_ex (keyAt L m)
          rw [← HKY.out] at HK hkl
          obtain ⟨ak, ck, rfl, hkm⟩ := HK.out.form
          have hxl : xs.length = m := by have := congrArg List.length HX.out; rw [List.length_map, List.length_take, HN.out] at this; omega
          have HXL : Hid (xs.length = m) := hxl
          rw [hxl] at HO ⊢
          clear hxl
          by_cases hlt : j < 100
          · have hlt' : (j : Int) < 100 := by omega
            have hSk := tseek_any HTb.out _ KY HK.out.reads mo hmo0 hmo1
            rw [show skT L KY mo = (L.drop m).take mo from by unfold skT; rw [HKY.out, ge_next HOk.out (by rw [HN.out]; exact hmN)]] at hSk
            have HSk : Hid (Calls Try.prog 15 #[.pointer (some ⟨B, 0, none⟩), .slice ak KY.length ck, .int .i64 (mo : Int)] wr _) := hSk
            obtain ⟨KL, HKL⟩ : ∃ n, Hid (KY.length = n) := ⟨_, rfl⟩
            rw [HKL.out] at HSk HK hkl ⊢
            clear hSk
            go_wp2_with fail
            refine HSk.out.mono ?_
            clear HSk
            rintro e w3 ⟨v3, ys, rfl, hys, hto, hb3⟩
            have HB3 : Hid (Below w0.heap.size w0 w3) := HB.out.trans (hb3.mono HB.out.size)
            have HO3 : Hid (TOwn w3 w0.heap.size (.slice ao m co) xs) := HO.out.below hb3
            have HTb3 : Hid (Tb w3 w1.heap.size B L) := HTb.out.below hb3
            have HY3 : Hid (TOwn w3 w0.heap.size v3 ys) := hto.mono HB.out.size
            have hto1 := hto.1
            have HAp : Hid (∀ k, v3.ownBlock = some k → (Value.slice ao m co).ownBlock ≠ some k) := fun k hk e => by
              have h1 := (World.ownsRow.lt hto1 k hk).1
              have h2 := (World.ownsRow.lt HO.out.1 k e).2
              omega
            obtain ⟨a3, c3, rfl, _⟩ := hto.form
            have HYl : Hid (ys.length = min mo (N - m)) := by
              have := congrArg List.length hys
              rw [List.length_map, List.length_take, List.length_drop, HN.out] at this; exact this
            have HYs : Hid (ys.map Ee.e = (L.drop m).take mo) := hys
            obtain ⟨P, HP⟩ : ∃ n, Hid (ys.length = n) := ⟨_, rfl⟩
            rw [HP.out] at HY3 HYl HAp ⊢
            clear hto hto1 hys hb3 HB HO HTb
            by_cases hP : P = 0
            · subst hP
              have hmE : m = N := by have := HYl.out; omega
              subst hmE
              have HSm : Hid (∀ w4, Below w3.heap.size w3 w4 → Calls Try.prog 11 #[.slice ao m co, .slice a m cap] w4 fun e w' => e = .returned (.bool true) ∧ Below w4.heap.size w4 w') := by
                intro w4 hb4
                have h1 := (HO3.out.below hb4).reads
                rw [HX.out, List.take_of_length_le (by rw [HN.out]; omega)] at h1
                have h2 := same10_true _ (.slice a m cap) L w4 h1 (HR.out.below (HB3.out.trans (hb4.mono HB3.out.size)))
                exact h2
              go_wp2_with fail
              refine (alive10_any w3).mono ?_
              rintro e w4 ⟨rfl, hb4⟩
              have HB4 : Hid (Below w0.heap.size w0 w4) := HB3.out.trans (hb4.mono HB3.out.size)
              have HS4 := HSm.out w4 hb4
              have HS4' : Hid (Calls Try.prog 11 #[.slice ao m co, .slice a m cap] w4 _) := HS4
              clear HS4 hb4
              go_wp2_with fail
              refine HS4'.out.mono ?_
              clear HS4'
              rintro e w5 ⟨rfl, hb5⟩
              have HB5 : Hid (Below w0.heap.size w0 w5) := HB4.out.trans (hb5.mono HB4.out.size)
              clear hb5
              go_wp2_with fail
              go_ret
              exact ⟨rfl, HB5.out⟩
            · have hP' : ((P : Int) == 0) = false := by simp; omega
              have hPm : m + P ≤ N := by have := HYl.out; omega
              have hm1 : m < N := by omega
              obtain ⟨v5, w5, hr5, ⟨a5, c5, hv5⟩, hT5, hg5, hb5⟩ := HO3.out.appM HB3.out.size HY3.out (by rw [HP.out]; omega) (by rw [HXL.out, HP.out]; omega) 22
              rw [HXL.out, HP.out] at hv5
              subst hv5
              have HB5 : Hid (Below w0.heap.size w0 w5) := HB3.out.trans hb5
              have HT5 : Hid (TOwn w5 w0.heap.size (.slice a5 (m + P) c5) (xs ++ ys)) := hT5
              have HTb5 : Hid (Tb w5 w1.heap.size B L) := HTb3.out.kpT (S := fun T => T ≠ 42) (KpT.grown HO3.out.1 hg5 (fun h => h rfl)) (by decide) (by decide) (by decide) (by decide)
              have HY5 : Hid (TOwn w5 w0.heap.size (.slice a3 P c3) ys) := by
                have hy := HY3.out
                refine ⟨?_, fun y hy2 => ⟨own_kpT (S := fun T => T ≠ 42) (hy.2 y hy2).1 (KpT.grown HO3.out.1 hg5 (fun h => h rfl)) (by decide), (hy.2 y hy2).2⟩⟩
                refine hy.1.kept hg5 ?_
                rcases hob : (Value.slice a3 P c3).ownBlock with _ | k
                · exact .inl rfl
                · exact .inr (fun e => HAp.out k hob e.symm)
              have hyr := HY5.out.reads
              obtain ⟨z, HZ⟩ := hid_ex ((ys.map Ee.e)[P - 1]'(by rw [List.length_map, HP.out]; omega))
              obtain ⟨b, off, kv, hb5', hbw, hcs, hrk, _⟩ := hyr.at (j := P - 1) (by rw [List.length_map, HP.out]; omega) HZ.out
              subst hb5'
              have HNx : Hid (keyAt L (m + P) = z.1 ++ [0]) := by
                unfold Hid keyAt
                rw [dif_neg (by omega), dif_pos (by rw [HN.out]; omega)]
                have : z = L[m + P - 1]'(by rw [HN.out]; omega) := by
                  rw [HZ.out]
                  simp only [HYs.out, List.getElem_take, List.getElem_drop]
                  congr 1
                  omega
                rw [this]
              obtain ⟨zk, zA⟩ := z
              simp only at hcs hrk HNx
              obtain ⟨ka, kc, rfl, hkm⟩ := hrk.form
              have c0 := hcs 0 (by decide)
              simp only [e7, List.getElem_cons_zero, Nat.add_zero] at c0
              have hzl : zk.length ≤ 256 := by
                have hmem : (zk, zA) ∈ L := by
                  have h1 : (zk, zA) ∈ ys.map Ee.e := by rw [HZ.out]; exact List.getElem_mem _
                  rw [HYs.out] at h1
                  exact List.mem_of_mem_drop (List.mem_of_mem_take h1)
                exact (HOk.out.k _ hmem).2
              have hbb : b < w5.heap.size := hbw
              have hz5 : w0.heap.size ≤ w5.heap.size := HB5.out.size
              obtain ⟨w6, HW6⟩ := hid_ex (w5.alloc (.cells #[] 5))
              have hb6 : Below w5.heap.size w5 w6 := by rw [HW6.out]; exact (Below.refl _ _).alloc (Nat.le_refl _) _
              have ho6 : Own w6 w5.heap.size (.slice (some ⟨w5.heap.size, 0, none⟩) 0 0) [] := by rw [HW6.out]; exact own_zero w5 _ (Nat.le_refl _)
              obtain ⟨v7, w7, hr7, ho7, hb7⟩ := run_app 25 w5.heap.size _ (.slice ka zk.length kc) [] zk zk rfl ho6 (hrk.below hb6) (by simp; omega) hb6.size
              obtain ⟨a7, c7, hv7, _⟩ := ho7.form
              obtain ⟨v8, w8, hr8, ho8, hb8⟩ := run_app (w := w7.alloc (.cells #[.int .u8 0] 5)) 25 w5.heap.size v7 (.slice (some ⟨w7.heap.size, 0, none⟩) 1 1) zk [0] (zk ++ [0]) rfl (ho7.alloc _) (.inr ⟨w7.heap.size, 0, 1, rfl, by simp, by simp, by simp [maxLen], by simp, fun j hj => by
                have : j = 0 := by simp at hj; omega
                subst this
                exact cell_rw (heap_alloc_new w7 _) 0 (by simp)⟩) (by simp; omega) (by have := hb7.out.size; have := hb6.size; simp; omega)
              obtain ⟨a8, c8, hv8, _⟩ := ho8.form
              subst hv7
              subst hv8
              rw [HW6.out] at hr7
              obtain ⟨ZL, HZL⟩ : ∃ n, Hid (zk.length = n) := ⟨_, rfl⟩
              have HZ8 : Hid ((zk ++ [0]).length = ZL + 1) := by unfold Hid; rw [List.length_append, HZL.out]; rfl
              rw [HZL.out] at hr7 hr8 c0
              rw [HZ8.out] at hr8 ho8
              have hPI : ((P - 1 : Nat) : Int) = (P : Int) - 1 := by omega
              have hb58 : Below w5.heap.size w5 w8 := ((hb6.trans hb7.out).alloc (by have := hb7.out.size; have := hb6.size; omega) _).trans hb8.out
              have HB8 : Hid (Below w0.heap.size w0 w8) := HB5.out.trans (hb58.mono hz5)
              have HT8 : Hid (TOwn w8 w0.heap.size (.slice a5 (m + P) c5) (xs ++ ys)) := HT5.out.below hb58
              have HTb8 : Hid (Tb w8 w1.heap.size B L) := HTb5.out.below hb58
              have HK8 : Hid (Own w8 w0.heap.size (.slice a8 (ZL + 1) c8) (keyAt L (m + P))) := by unfold Hid; rw [HNx.out]; exact ho8.mono hz5
              have HX8 : Hid ((xs ++ ys).map Ee.e = L.take (m + P)) := by
                unfold Hid
                rw [List.map_append, HX.out, HYs.out, List.take_add]
                congr 1
                have h1 := congrArg List.length HYs.out
                rw [List.length_map, HP.out, List.length_take] at h1
                rw [List.take_eq_take_iff]
                omega
              clear hb58 ho8 hb8 ho7 hb7 ho6 hb6 HTb5 HT5 HB5 hyr hrk hcs hT5 hg5 hb5
              go_wp2_with (at_builtin; first | (refine wpList_app_runT rfl _ _ _ _ (by rfl) (by rfl) _ _ _ (by rfl) (by rfl) hr5 ?_; clear hr5) | (refine wpList_app_runT rfl _ _ _ _ (by rfl) (by rfl) _ _ _ (by rfl) (by rfl) hr7 ?_; clear hr7) | (refine wpList_app_runT rfl _ _ _ _ (by rfl) (by rfl) _ _ _ (by rfl) (by rfl) hr8 ?_; clear hr8))
              go_roundw
              case rel => exact ⟨j + 1, m + P, xs ++ ys, by go_num, by omega, hPm, by omega, HT8, HX8, HK8, HTb8, HB8⟩
              case measure => simp [intOf]; omega
          · have hlt' : ¬ (j : Int) < 100 := by omega
            have hmE : m = N := by omega
            subst hmE
            have HSm : Hid (∀ w4, Below wr.heap.size wr w4 → Calls Try.prog 11 #[.slice ao m co, .slice a m cap] w4 fun e w' => e = .returned (.bool true) ∧ Below w4.heap.size w4 w') := by
              intro w4 hb4
              have h1 := (HO.out.below hb4).reads
              rw [HX.out, List.take_of_length_le (by rw [HN.out]; omega)] at h1
              exact same10_true _ (.slice a m cap) L w4 h1 (HR.out.below (HB.out.trans (hb4.mono HB.out.size)))
            go_wp2_with fail
            refine (alive10_any wr).mono ?_
            rintro e w4 ⟨rfl, hb4⟩
            have HB4 : Hid (Below w0.heap.size w0 w4) := HB.out.trans (hb4.mono HB.out.size)
            have HS4 : Hid (Calls Try.prog 11 #[.slice ao m co, .slice a m cap] w4 _) := HSm.out w4 hb4
            clear hb4
            go_wp2_with fail
            refine HS4.out.mono ?_
            clear HS4
            rintro e w5 ⟨rfl, hb5⟩
            have HB5 : Hid (Below w0.heap.size w0 w5) := HB4.out.trans (hb5.mono HB4.out.size)
            clear hb5
            go_wp2_with fail
            go_ret
            exact ⟨rfl, HB5.out⟩
      · have hE2 : (E != 0) = true := by simpa using hE
        obtain ⟨a1', c1', rfl, _⟩ := ho1.form
        clear ho1 hb1 HE HT
        go_wp2_with fail
        refine (alive10_any w1).mono ?_
        rintro e w2 ⟨rfl, hb2⟩
        have HB2 : Hid (Below w0.heap.size w0 w2) := HB1.out.trans (hb2.mono HB1.out.size)
        clear hb2
        go_wp2_with fail
        go_ret
        exact ⟨rfl, HB2.out⟩
end Go.Proofs.Ytldifjfcgcmfiaa

/- table: entries, opened. -/
namespace Go.Proofs.Ytldifjfcgcmfiaa
open Go.ChangeShapes Go.WideShapes Go.ChangeAt Go.RowKit Go.Joins

set_option maxRecDepth 100000 in
theorem openA' {H : Type} {enc : TypeId × Value → H} {W : World} {base : Nat} {spare : Nat → Bool} {held : Bool} {c0 c1 c2 c3 c4 c5 : Value} {x : DataW H × List MemPlace} {fuel : Nat}
    (hf : DataW.trod enc Try.prog W base spare held fuel 38 [c0, c1, c2, c3, c4, c5] = some x) :
    ∃ a : Ag, [c0, c1, c2, c3, c4, c5] = [.int .u64 a.c, .bool a.o, .int .i64 (hi a.s), .int .u64 (lo a.s), .int .i64 a.mn, .int .i64 a.mx] ∧ AgOk a := by
  obtain ⟨xs, n, _, _, _, hlen, hfs⟩ := DataW.trod_struct Try.underlying38 hf
  obtain ⟨y0, g0⟩ := some_of_len (i := 0) hlen (by decide)
  obtain ⟨y1, g1⟩ := some_of_len (i := 1) hlen (by decide)
  obtain ⟨y2, g2⟩ := some_of_len (i := 2) hlen (by decide)
  obtain ⟨y3, g3⟩ := some_of_len (i := 3) hlen (by decide)
  obtain ⟨y4, g4⟩ := some_of_len (i := 4) hlen (by decide)
  have e0 := (hfs 0 _ rfl).trans g0
  have e1 := (hfs 1 _ rfl).trans g1
  have e2 := (hfs 2 _ rfl).trans g2
  have e3 := (hfs 3 _ rfl).trans g3
  have e4 := (hfs 4 _ rfl).trans g4
  simp [cellsU64] at e0
  simp [cellsBool] at e1
  simp [cellsWd] at e2
  simp [cells64] at e3
  simp [cells64] at e4
  obtain ⟨a0, q0, _, w0⟩ := DataW.trod_int Try.underlying34 e0
  obtain ⟨a1, q1, _⟩ := DataW.trod_bool Try.underlying4 e1
  obtain ⟨a3, q3, _, w3⟩ := DataW.trod_int Try.underlying2 e3
  obtain ⟨a4, q4, _, w4⟩ := DataW.trod_int Try.underlying2 e4
  obtain ⟨z0, z1, m, _, _, f0, f1⟩ := trod_struct2 Try.underlying36 e2
  simp [cells64] at f0
  simp [cellsU64] at f1
  obtain ⟨s0, t0, _, u0⟩ := DataW.trod_int Try.underlying2 f0
  obtain ⟨s1, t1, _, u1⟩ := DataW.trod_int Try.underlying34 f1
  simp at q0 q1 q3 q4 t0 t1
  subst q0 q1 q3 q4 t0 t1
  have b0 := bounds_u64 w0
  have b3 := bounds_i64 w3
  have b4 := bounds_i64 w4
  have d0 := bounds_i64 u0
  have d1 := bounds_u64 u1
  obtain ⟨sx, x1, x2, rfl, rfl⟩ := of_halves s0 s1 (by omega) (by omega) (by omega) (by omega)
  exact ⟨⟨a0, a1, sx, a3, a4⟩, rfl, b0.1, (by have := b0.2; show a0 < _; omega), b3.1, b3.2, b4.1, b4.2, x1, x2⟩
theorem seven_of {α : Type} : ∀ {l : List α}, l.length = 7 → ∃ c0 c1 c2 c3 c4 c5 c6, l = [c0, c1, c2, c3, c4, c5, c6]
  | [c0, c1, c2, c3, c4, c5, c6], _ => ⟨c0, c1, c2, c3, c4, c5, c6, rfl⟩
set_option maxRecDepth 100000 in
theorem openT' {H : Type} {enc : TypeId × Value → H} {W : World} {base : Nat} {spare : Nat → Bool} {held : Bool} {c0 c1 c2 c3 c4 c5 c6 : Value} {x : DataW H × List MemPlace} {fuel : Nat}
    (hf : DataW.trod enc Try.prog W base spare held fuel 42 [c0, c1, c2, c3, c4, c5, c6] = some x) :
    ∃ (kv : Value) (k : List UInt8) (a : Ag), [c0, c1, c2, c3, c4, c5, c6] = e7 kv a ∧ Reads W kv k ∧ AgOk a := by
  obtain ⟨z0, z1, m, _, _, f0, f1⟩ := trod_struct2 Try.underlying42 hf
  have ck : Try.prog.cellsOf 25 = 1 := by kernel_rfl
  simp [ck] at f0
  simp [cellsA] at f1
  obtain ⟨kv, k, e0, hr⟩ := openB' f0
  obtain ⟨a, e1, ha⟩ := openA' f1
  simp at e0
  subst e0
  refine ⟨c0, k, a, ?_, hr, ha⟩
  rw [e1]; rfl
set_option maxRecDepth 100000 in
theorem openTe {H : Type} {enc : TypeId × Value → H} {W : World} {r : Reach} {b0 base : Nat} {spare : Nat → Bool} {held : Bool} {v : Value} {d : DataW H} {p : List MemPlace}
    (hv : Value.okWide Try.prog W r b0 22 v) (h : DataW.Trod enc Try.prog W base spare held 22 v d p) : ∃ L : List Et, TRd W v L := by
  obtain ⟨a, len, cap, rfl⟩ := okWide_slice Try.underlying22 hv
  obtain ⟨fuel, hf⟩ := h
  rcases Go.Deep.open_slice Try.underlying22 hf with ⟨hcs, _⟩ | ⟨x, l, c, m, n, D, Pl, hcs, _, hl, hm, hz, _, hcell⟩
  · simp [Value.cells] at hcs
    obtain ⟨rfl, rfl, rfl⟩ := hcs
    exact ⟨[], none, 0, rfl, by simp, by simp, fun j hj => by simp at hj⟩
  · simp [Value.cells] at hcs
    obtain ⟨rfl, rfl, rfl⟩ := hcs
    have hzl : len ≤ m := by rw [hz]; split <;> omega
    have hce : Try.prog.cellsOf 42 = 7 := by kernel_rfl
    rw [hce] at hcell
    have hall : ∀ j, ∃ (y : Value × Et), j < len → (∀ i (hi : i < 7), W.cell? ((x.add (j * 7)).add i) = some ((e7 y.1 y.2.2)[i]'hi)) ∧ Reads W y.1 y.2.1 ∧ AgOk y.2.2 := by
      intro j
      by_cases hj : j < len
      · obtain ⟨cs', hc1, hc2⟩ := hcell j (by omega)
        obtain ⟨_, hl7, hq⟩ := World.cells?_some hc1
        obtain ⟨c0, c1, c2, c3, c4, c5, c6, rfl⟩ := seven_of hl7
        obtain ⟨kv, k, a, e, hr, ha⟩ := openT' hc2
        refine ⟨(kv, k, a), fun _ => ⟨fun i hi => ?_, hr, ha⟩⟩
        have h1 := hq i hi
        rw [e, List.getElem?_eq_getElem (show i < (e7 kv a).length from hi)] at h1
        exact h1
      · exact ⟨(.bool false, [], aZ), fun h => absurd h hj⟩
    obtain ⟨ys, hys⟩ := Classical.axiomOfChoice hall
    refine ⟨(List.range len).map fun j => (ys j).2, some x, cap, by simp, by simp; omega, by omega, fun j hj => ?_⟩
    simp at hj
    obtain ⟨g1, g2, g3⟩ := hys j hj
    have e : ((List.range len).map fun j => (ys j).2)[j]'(by simpa using hj) = (ys j).2 := by simp
    rw [e]
    obtain ⟨b, off, spot⟩ := x
    have hs : spot = none := by
      cases spot with
      | none => rfl
      | some z =>
        exfalso
        obtain ⟨k0, _⟩ := hys 0 (by omega)
        have k1 := k0 0 (by decide)
        have e0 : ((⟨b, off, some z⟩ : Addr).add (0 * 7)).add 0 = ⟨b, off, some z⟩ := by simp [Addr.add]
        rw [e0] at k1
        have := (cell_block k1).2
        simp at this
    subst hs
    have ea : (⟨b, off, none⟩ : Addr).add (j * 7) = ⟨b, off + j * 7, none⟩ := by simp [Addr.add]
    have eb : ∀ i, (⟨b, off + j * 7, none⟩ : Addr).add i = ⟨b, off + j * 7 + i, none⟩ := fun i => by simp [Addr.add]
    have hb : b < W.heap.size := by
      have := g1 0 (by decide)
      rw [ea, eb] at this
      exact (cell_block this).1
    refine ⟨b, off, (ys j).1, rfl, hb, fun i hi => ?_, g2, g3⟩
    have := g1 i hi
    rwa [ea, eb] at this
end Go.Proofs.Ytldifjfcgcmfiaa

/- All four walks of law10 that ask no reference. -/
namespace Go.Proofs.Ytldifjfcgcmfiaa
open Go.RowKit Go.ChangeShapes Go.WideShapes Go.ChangeAt

theorem turned10_wf (v : Value) (L : List Et) (a1 a2 ct : Int) (W : World) (hR : TRd W v L) (h1 : (Lit.int .i64 a1).wf = true) (h2 : (Lit.int .u8 a2).wf = true) (h3 : (Lit.int .i64 ct).wf = true) : Calls Try.prog 5 #[v, .int .i64 a1, .int .u8 a2, .int .i64 ct] W fun e W' => e = .returned (.bool true) ∧ Below W.heap.size W W' :=
  turned10_walk v L a1 a2 ct W hR (bounds_i64 h1) (bounds_u8 h2) (bounds_i64 h3)
theorem seeks10_wf (v : Value) (L : List Et) (a1 : Int) (W : World) (hR : TRd W v L) (h1 : (Lit.int .i64 a1).wf = true) : Calls Try.prog 6 #[v, .int .i64 a1] W fun e W' => e = .returned (.bool true) ∧ Below W.heap.size W W' :=
  seeks10_walk v L a1 W hR (bounds_i64 h1)
end Go.Proofs.Ytldifjfcgcmfiaa
