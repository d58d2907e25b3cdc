/- TT5 TT6 B9 TT7, joined. -/
import Derived.Test.YtlpjdfgknmfmnaaTZ0
import Derived.Test.YtlpjdfgknmfmnaaTF7
import Derived.Test.YtlpjdfgknmfmnaaTF11
import Derived.Test.YtlpjdfgknmfmnaaTF29
/- table: entries of one's own; the entries of rows of bytes, plainly. -/
namespace Go.Proofs.Ytlpjdfgknmfmnaa
open Go.RowKit

theorem twrite_all (v : Value) (L : List Et) (w : World) (h : TRd w v L) : Calls Try.prog 7 #[v] w fun e w' => ∃ v', e = .returned (.tuple #[v', .int .i64 (twE L)]) ∧ Own w' w.heap.size v' (twB L) ∧ Below w.heap.size w w' := by
  by_cases hT : tmF L = 0
  · exact twrite_any v L w h hT
  · have e1 : twE L = tmF L := by unfold twE; rw [if_pos hT]
    have e2 : twB L = [] := by unfold twB; rw [e1, if_neg hT]
    refine (twrite_bad v L w h hT).mono ?_
    rintro e w' ⟨rfl, hb⟩
    exact ⟨_, by rw [e1], by rw [e2]; exact Own.nil _ _, hb⟩
/-- An entry in memory. -/
structure Ee where
  kv : Value
  e : Et
def Ee.c (x : Ee) : List Value := e7 x.kv x.e.2
theorem flatE : ∀ (xs : List Ee) (j i : Nat) (hj : j < xs.length), i < 7 → (xs.flatMap Ee.c)[7 * j + i]? = (xs[j].c)[i]?
  | [], j, i, hj, _ => by simp at hj
  | x :: xs, 0, i, _, hi => by
    rw [List.flatMap_cons, List.getElem?_append_left (by simp [Ee.c, e7]; omega)]; simp
  | x :: xs, j + 1, i, hj, hi => by
    rw [List.flatMap_cons, List.getElem?_append_right (by simp [Ee.c, e7]; omega)]
    have := flatE xs j i (by simpa using hj) hi
    simp only [List.getElem_cons_succ]
    rw [← this]
    congr 1
    simp [Ee.c, e7]; omega
/-- Entries of one's own. -/
def TOwn (W : World) (base : Nat) (v : Value) (xs : List Ee) : Prop := W.ownsRow base 43 7 v xs.length (xs.flatMap Ee.c) ∧ ∀ x ∈ xs, Own W base x.kv x.e.1 ∧ AgOk x.e.2
theorem TOwn.nil (W : World) (base : Nat) : TOwn W base (.slice none 0 0) [] := ⟨World.ownsRow_nil _ _ _ _, fun _ h => by cases h⟩
theorem TOwn.kc {n : Nat} {A B : World} {base : Nat} {v : Value} {xs : List Ee} (h : TOwn A base v xs) (hk : Kc n A B) : TOwn B base v xs := ⟨row_kc h.1 hk, fun x hx => ⟨(h.2 x hx).1.kc hk, (h.2 x hx).2⟩⟩
theorem TOwn.below {A B : World} {base : Nat} {v : Value} {xs : List Ee} (h : TOwn A base v xs) (hb : Below A.heap.size A B) : TOwn B base v xs := h.kc (Kc.of_below hb (Nat.le_refl _))
theorem TOwn.form {W : World} {base : Nat} {v : Value} {xs : List Ee} (h : TOwn W base v xs) : ∃ a c, v = .slice a xs.length c ∧ xs.length ≤ c ∧ c ≤ maxLen := by
  rcases h.1.2 with ⟨g1, g2⟩ | ⟨g, cap, cur, g1, _, _, g2, g3, _⟩
  · exact ⟨none, 0, by rw [g1, g2], by omega, by simp [maxLen]⟩
  · exact ⟨_, cap, g1, g2, g3⟩
theorem TOwn.reads {W : World} {base : Nat} {v : Value} {xs : List Ee} (h : TOwn W base v xs) : TRd W v (xs.map Ee.e) := by
  have hlt := World.ownsRow.lt h.1
  obtain ⟨h1, h3⟩ := h
  rcases h1.2 with ⟨g1, g2⟩ | ⟨g, cap, cur, hv, hg, hw, hc, hm, _⟩
  · have : xs = [] := List.length_eq_zero_iff.1 g2
    subst this
    exact ⟨none, 0, by rw [g1]; rfl, Nat.le_refl _, by simp [maxLen], fun j hj => by simp at hj⟩
  · rw [hv] at h1
    refine ⟨_, cap, by rw [hv, List.length_map], by rw [List.length_map]; exact hc, hm, fun j hj => ?_⟩
    rw [List.length_map] at hj
    obtain ⟨q1, q2⟩ := h3 xs[j] (List.getElem_mem hj)
    refine ⟨g, 0, xs[j].kv, rfl, (hlt g (by rw [hv]; rfl)).2, fun i hi => ?_, ?_, ?_⟩
    · rw [show 0 + j * 7 + i = 7 * j + i by omega, World.ownsRow.cellAt h1 _ (by omega), flatE xs j i hj hi]
      simp only [List.getElem_map]
      rw [List.getElem?_eq_getElem (by simp [Ee.c, e7]; omega)]
      rfl
    · simp only [List.getElem_map]; exact q1.reads
    · simp only [List.getElem_map]; exact q2
theorem infoTe : (Try.prog.info? 43).map (fun i => (i.zero.map Value.cells, i.size, i.bytes)) = some (some #[.slice none 0 0, .int .u64 0, .bool false, .int .i64 0, .int .u64 0, .int .i64 0, .int .i64 0], 7, 72) := by kernel_rfl
/-- An entry more. -/
theorem TOwn.app {W : World} {base : Nat} {v : Value} {xs : List Ee} (h : TOwn W base v xs) (hz : base ≤ W.heap.size) {x : Ee} (hx : Own W base x.kv x.e.1 ∧ AgOk x.e.2) {B : Nat}
    (hc : W.heap[B]? = some (.cells x.c.toArray 43)) (hX : xs.length ≤ 1000000) (ty : TypeId) :
    ∃ v' w1, (Builtin.append_ #[22, 22] ty #[v, .slice (some ⟨B, 0, none⟩) 1 1]).run Try.prog W = .ok v' w1 ∧ (∃ a c, v' = .slice a (xs.length + 1) c) ∧ TOwn w1 base v' (xs ++ [x]) ∧ W.grownBy w1 v.ownBlock ∧ Below base W w1 := by
  have hinf := infoTe
  cases hi0 : Try.prog.info? 43 with
  | none => rw [hi0] at hinf; cases hinf
  | some i0 =>
    rw [hi0] at hinf
    simp only [Option.map_some, Option.some.injEq, Prod.mk.injEq] at hinf
    obtain ⟨hz0, hz1, hz2⟩ := hinf
    obtain ⟨z, hzz, hzc⟩ := Option.map_eq_some_iff.1 hz0
    obtain ⟨ak, ck, ek, _⟩ := hx.1.form
    have hnews : ∀ j u, x.c[j]? = some u → W.cell? ((⟨B, 0, none⟩ : Addr).add j) = some u := by
      intro j u hj
      have ea : (⟨B, 0, none⟩ : Addr).add j = ⟨B, j, none⟩ := by simp [Addr.add]; omega
      rw [ea]
      simp only [World.cell?, hc]
      simpa using hj
    obtain ⟨v', w1, hrun, hown, hg, _⟩ := run_append_own (P := Try.prog) W base 22 ty 43 i0 z 7 72 Try.underlying22 hi0 hzz hz1 hz2 (by rw [hzc]; rfl) (by decide) v xs.length (xs.flatMap Ee.c) h.1 ⟨B, 0, none⟩ 1 1 x.c rfl hnews (by unfold Ee.c e7; rw [ek]; simp [Value.oneCell']) (by unfold maxLen; omega) (by omega) hz
    have hT : TOwn w1 base v' (xs ++ [x]) := by
      refine ⟨by rw [List.length_append, List.flatMap_append]; simpa using hown, fun y hy => ?_⟩
      rcases List.mem_append.1 hy with hy | hy
      · exact ⟨row_other h.1 (h.2 y hy).1 (by decide) hg, (h.2 y hy).2⟩
      · simp at hy; subst hy; exact ⟨row_other h.1 hx.1 (by decide) hg, hx.2⟩
    refine ⟨v', w1, hrun, ?_, hT, hg, (Below.refl _ _).grown hg hz (own_block h.1)⟩
    obtain ⟨a, c, e, _⟩ := hT.form
    exact ⟨a, c, by rw [e, List.length_append]; rfl⟩
/-- The entries of a row's bytes. -/
def enF (row : List UInt8) : List Et := ((rdB row).getD []).map fun p => (p.1, rdA p.2)
def geF (key : List UInt8) (l : List Et) : List Et := l.filter fun x => decide (0 ≤ Lib.compareBytes x.1 key)
/-- The first entries of rows, from a key on. -/
def firF (rows : List (List UInt8)) (key : List UInt8) (m : Nat) : List Et := (geF key (rows.flatMap enF)).take m
theorem geF_app (key : List UInt8) (a b : List Et) : geF key (a ++ b) = geF key a ++ geF key b := by unfold geF; rw [List.filter_append]
theorem geF_one (key : List UInt8) (x : Et) : geF key [x] = if 0 ≤ Lib.compareBytes x.1 key then [x] else [] := by
  unfold geF
  by_cases h : 0 ≤ Lib.compareBytes x.1 key <;> simp [h]
/-- What Read tells of a row's bytes, in one form. -/
theorem read_u (v : Value) (bs : List UInt8) (hbl : bs.length ≤ 1000000) (w : World) (hR : Reads w v bs) :
    Calls Try.prog 35 #[v] w fun e w' => ∃ u xs E, e = .returned (.tuple #[u, .int .i64 E]) ∧ xs.map Pe.p = (rdB bs).getD [] ∧ POwn w' w.heap.size u xs ∧ Below w.heap.size w w' := by
  refine (read_any v bs hbl w hR).mono ?_
  rintro e w' ⟨hb, h⟩
  cases hr : rdB bs with
  | none =>
    rw [hr] at h
    exact ⟨_, [], _, h, rfl, ⟨World.ownsRow_nil _ _ _ _, fun _ h => by cases h⟩, hb⟩
  | some l =>
    rw [hr] at h
    obtain ⟨u, xs, h1, h2, h3⟩ := h
    exact ⟨u, xs, _, h1, h2, h3, hb⟩
end Go.Proofs.Ytlpjdfgknmfmnaa

/- table: first: the first entries of rows, from a key on. -/
namespace Go.Proofs.Ytlpjdfgknmfmnaa
open Go.RowKit

theorem PReads.atP {w : World} {a : Option Addr} {n cap : Nat} {L : List Pr} (h : PReads w (.slice a n cap) L) {j : Nat} (hj : j < L.length) {x : Pr} (hx : x = L[j]) : ∃ b off kv vv, a = some ⟨b, off, none⟩ ∧ b < w.heap.size ∧ w.cell? ⟨b, off + j * 2, none⟩ = some kv ∧ w.cell? ⟨b, off + j * 2 + 1, none⟩ = some vv ∧ Reads w kv x.1 ∧ Reads w vv x.2 := by
  subst hx
  obtain ⟨a', cap', he, h1, h2, h3⟩ := h
  simp only [Value.slice.injEq] at he
  obtain ⟨rfl, _, _⟩ := he
  rcases h3 with rfl | ⟨b, off, h4, h5, h6⟩
  · simp at hj
  · obtain ⟨kv, vv, g1, g2, g3, g4⟩ := h6 j hj
    exact ⟨b, off, kv, vv, h4, h5, g1, g2, g3, g4⟩
theorem PReads.form {w : World} {v : Value} {L : List Pr} (h : PReads w v L) : ∃ a cap, v = .slice a L.length cap ∧ L.length ≤ cap ∧ cap ≤ maxLen := by
  obtain ⟨a, cap, h1, h2, h3, _⟩ := h
  exact ⟨a, cap, h1, h2, h3⟩
theorem rdA_okT (l : List UInt8) : AgOk (rdA l) := by
  unfold rdA
  split
  · rename_i h; exact decU_ok l h.1
  · exact aZ_ok
theorem POwn.form {W : World} {base : Nat} {v : Value} {xs : List Pe} (h : POwn W base v xs) : ∃ a c, v = .slice a xs.length c ∧ xs.length ≤ c ∧ c ≤ maxLen := by
  rcases h.1.2 with ⟨g1, g2⟩ | ⟨g, cap, cur, g1, _, _, g2, g3, _⟩
  · exact ⟨none, 0, by rw [g1, g2], by omega, by simp [maxLen]⟩
  · exact ⟨_, cap, g1, g2, g3⟩
theorem POwn.atT {W : World} {base : Nat} {a : Option Addr} {n c : Nat} {xs : List Pe} (h : POwn W base (.slice a n c) xs) {j : Nat} (hj : j < xs.length) {x : Pe} (hx : x = xs[j]) : ∃ g, a = some ⟨g, 0, none⟩ ∧ W.cell? ⟨g, j * 2, none⟩ = some x.kv ∧ W.cell? ⟨g, j * 2 + 1, none⟩ = some x.vv ∧ Own W base x.kv x.p.1 ∧ Own W base x.vv x.p.2 := by
  subst hx
  obtain ⟨h1, h2⟩ := h
  rcases h1.2 with ⟨g1, g2⟩ | ⟨g, cap, cur, hv, hg, hw, hc, hm, _⟩
  · omega
  · simp only [Value.slice.injEq] at hv
    obtain ⟨rfl, rfl, rfl⟩ := hv
    have e0 := flat2 xs j 0 hj (by decide)
    have e1 := flat2 xs j 1 hj (by decide)
    obtain ⟨q1, q2⟩ := h2 xs[j] (List.getElem_mem hj)
    refine ⟨g, rfl, ?_, ?_, q1, q2⟩
    · rw [show j * 2 = 2 * j + 0 by omega, World.ownsRow.cellAt h1 _ (by omega), e0]; rfl
    · rw [show j * 2 + 1 = 2 * j + 1 by omega, World.ownsRow.cellAt h1 _ (by omega), e1]; rfl
def pe (x : Pe) : Et := (x.p.1, rdA x.p.2)
theorem pe_enF {ps : List Pe} {row : List UInt8} (h : ps.map Pe.p = (rdB row).getD []) : enF row = ps.map pe := by
  unfold enF
  rw [← h, List.map_map]
  rfl
/-- What first tells. -/
def FiP (w : World) (T : List Et) (e : Ending) (w' : World) : Prop := ∃ v xs, e = .returned v ∧ xs.map Ee.e = T ∧ TOwn w' w.heap.size v xs ∧ Below w.heap.size w w'
theorem FiP.of {w w' : World} {T : List Et} {v : Value} {xs : List Ee} (h1 : xs.map Ee.e = T) (h2 : TOwn w' w.heap.size v xs) (h3 : Below w.heap.size w w') : FiP w T (.returned v) w' := ⟨v, xs, rfl, h1, h2, h3⟩
set_option maxRecDepth 100000 in
set_option maxHeartbeats 4000000 in
theorem first_any (v : Value) (L : List Pr) (kv : Value) (key : List UInt8) (m : Nat) (w : World) (h : PReads w v L) (hk : Reads w kv key) (hm0 : 1 ≤ m) (hm1 : m ≤ 9223372036854775807) (hL : L.length ≤ 1000000) (hR : ∀ x ∈ L, x.2.length ≤ 1000000) (hS : (geF key ((L.map (·.2)).flatMap enF)).length ≤ 1000000) :
    Calls Try.prog 33 #[v, kv, .int .i64 (m : Int)] w (FiP w (firF (L.map (·.2)) key m)) := by
  obtain ⟨a, cap, rfl, hc, hm⟩ := h.form
  unfold maxLen at hm
  obtain ⟨ka, kc, rfl, hkm⟩ := hk.form
  unfold maxLen at hkm
  have HP : Hid (PReads w (.slice a L.length cap) L) := h
  have HK : Hid (Reads w (.slice ka key.length kc) key) := hk
  have HRl : Hid (∀ x ∈ L, x.2.length ≤ 1000000) := hR
  have HS : Hid ((geF key ((L.map (·.2)).flatMap enF)).length ≤ 1000000) := hS
  obtain ⟨RS, HRS⟩ := hid_ex (firF (L.map (·.2)) key m)
  have HRS2 : Hid (RS = (geF key ((L.map (·.2)).flatMap enF)).take m) := HRS.out
  rw [← HRS.out]
  obtain ⟨N, HN⟩ : ∃ n, Hid (L.length = n) := ⟨_, rfl⟩
  obtain ⟨KL, HKL⟩ : ∃ n, Hid (key.length = n) := ⟨_, rfl⟩
  rw [HN.out] at HP hc hL ⊢
  rw [HKL.out] at HK hkm ⊢
  clear h hk hR hS HRS
  go_enter Try.func33, Try.ntmps33
  go_wp2_with fail
  go_loopw [7, 18] (fun o i wr => ∃ (j : Nat) (xs : List Ee), i = .int .i64 (j : Int) ∧ j ≤ N ∧ Hid (TOwn wr w.heap.size o xs) ∧ Hid (xs.map Ee.e = geF key (((L.take j).map (·.2)).flatMap enF)) ∧ xs.length < m ∧ Hid (Below w.heap.size w wr)) (fun _ i _ => N - (intOf i).toNat)
  case atStart => exact ⟨0, [], rfl, by omega, TOwn.nil _ _, rfl, by simp; omega, Below.refl _ _⟩
  case round =>
    obtain ⟨j, xs, rfl, hj, HO, HX, hxm, HB⟩ := hrel
    obtain ⟨ao, co, rfl, _⟩ := HO.out.form
    obtain ⟨XL, HXL⟩ : ∃ n, Hid (xs.length = n) := ⟨_, rfl⟩
    rw [HXL.out] at HO hxm ⊢
    by_cases hlt : j < N
    · have hlt' : (j : Int) < (N : Int) := by omega
      have hjl : j < L.length := by rw [HN.out]; exact hlt
      obtain ⟨x, Hx⟩ := hid_ex L[j]
      have Hdr : Hid (L.map (·.2) = (L.take j).map (·.2) ++ x.2 :: (L.drop (j + 1)).map (·.2)) := by
        unfold Hid
        rw [Hx.out, ← List.map_cons (f := fun y : Pr => y.2), ← List.map_append, ← List.drop_eq_getElem_cons hjl, List.take_append_drop]
      have Htk : Hid ((L.take (j + 1)).map (·.2) = (L.take j).map (·.2) ++ [x.2]) := by
        unfold Hid
        rw [List.take_add_one, List.getElem?_eq_getElem hjl, ← Hx.out]
        simp
      have hxl : x.2.length ≤ 1000000 := HRl.out x (by rw [Hx.out]; exact List.getElem_mem hjl)
      obtain ⟨b, off, lv, rv, rfl, hbw, c0, c1, hr0, hr1⟩ := (HP.out.below HB.out).atP hjl Hx.out
      obtain ⟨la, lc, rfl, hlm⟩ := hr0.form
      obtain ⟨ra, rc, rfl, hrm⟩ := hr1.form
      obtain ⟨lk, row⟩ := x
      simp only at hr0 hr1 Hdr Htk hxl c0 c1 hlm hrm
      unfold maxLen at hlm hrm
      obtain ⟨LL, HLL⟩ : ∃ n, Hid (lk.length = n) := ⟨_, rfl⟩
      obtain ⟨RL, HRL⟩ : ∃ n, Hid (row.length = n) := ⟨_, rfl⟩
      have HRr : Hid (Reads wr (.slice ra row.length rc) row) := hr1
      rw [HLL.out] at c0 hlm
      rw [HRL.out] at c1 hrm HRr
      have HOn : Hid (([.slice la LL lc, .slice ra RL rc] : List Value).toArray.all (·.oneCell') = true) := by unfold Hid; kernel_rfl
      clear hr0 hr1 Hx
      go_wp2_with (refine stop_store 73 _ _ rfl ?_)
      refine Stop.of ?_
      refine wpList_storeN rfl _ _ _ rfl wr.heap.size 0 [.slice la LL lc, .slice ra RL rc] rfl rfl _ _ (heap_alloc_new _ _) (by simp) (by kernel_rfl) HOn.out ?_
      intro w2 hw2
      obtain ⟨hb2, hx2, hz2⟩ := stW_nw hw2 (by simp)
      have HB2 : Hid (Below w.heap.size w w2) := HB.out.trans (hb2.mono HB.out.size)
      have HO2 : Hid (TOwn w2 w.heap.size (.slice ao XL co) xs) := HO.out.below hb2
      have q1 := cell_rw hx2 1 (by simp)
      simp only [List.getElem_toArray, List.getElem_cons_succ, List.getElem_cons_zero] at q1
      have hRd := read_u _ row hxl w2 (HRr.out.below hb2)
      have HRd : Hid (Calls Try.prog 35 #[.slice ra RL rc] w2 _) := hRd
      clear hw2 hb2 hx2 c0 c1 hRd
      go_wp2_with fail
      refine HRd.out.mono ?_
      clear HRd
      rintro e w3 ⟨u, ps, E, rfl, hps, hpo, hb3⟩
      have HB3 : Hid (Below w.heap.size w w3) := HB2.out.trans (hb3.mono HB2.out.size)
      have HO3 : Hid (TOwn w3 w.heap.size (.slice ao XL co) xs) := HO2.out.below hb3
      have hz23 := HB2.out.size
      obtain ⟨pa, pc, rfl, hpl, hpm⟩ := hpo.form
      unfold maxLen at hpm
      obtain ⟨B2, HB2e⟩ := hid_ex w2.heap.size
      rw [← HB2e.out] at hpo hz23
      obtain ⟨PL, HPL⟩ : ∃ n, Hid (ps.length = n) := ⟨_, rfl⟩
      rw [HPL.out] at hpo hpl ⊢
      have HPo : Hid (POwn w3 B2 (.slice pa PL pc) ps) := hpo
      have HEn : Hid (enF row = ps.map pe) := pe_enF hps
      clear hpo hb3 hps q1 HB2 HO2 HB HO
      obtain ⟨A, HA⟩ := hid_ex (((L.take j).map (·.2)).flatMap enF)
      have HX0 : Hid (xs.map Ee.e = geF key (A ++ (ps.take 0).map pe)) := by unfold Hid; rw [HX.out, HA.out]; simp
      have HT : Hid (geF key ((L.map (·.2)).flatMap enF) = geF key (A ++ ps.map pe) ++ geF key (((L.drop (j + 1)).map (·.2)).flatMap enF)) := by
        unfold Hid
        rw [Hdr.out, List.flatMap_append, List.flatMap_cons, HEn.out, ← List.append_assoc, geF_app, HA.out]
      have HA1 : Hid (((L.take (j + 1)).map (·.2)).flatMap enF = A ++ ps.map pe) := by
        unfold Hid
        rw [Htk.out, List.flatMap_append, HA.out]
        simp [HEn.out]
      clear HX Hdr Htk HEn HA
      go_wp2_with fail
      go_loopw [7, 30] (fun o i wr => ∃ (k : Nat) (ys : List Ee), i = .int .i64 (k : Int) ∧ k ≤ PL ∧ Hid (TOwn wr w.heap.size o ys) ∧ Hid (ys.map Ee.e = geF key (A ++ (ps.take k).map pe)) ∧ ys.length < m ∧ Hid (POwn wr B2 (.slice pa PL pc) ps) ∧ Hid (Below w.heap.size w wr)) (fun _ i _ => PL - (intOf i).toNat)
      case atStart => exact ⟨0, xs, rfl, by omega, HO3, HX0, by rw [HXL.out]; exact hxm, HPo, HB3⟩
      case round =>
        clear HO3 HX0 HPo HB3
        obtain ⟨k, ys, rfl, hk, HO, HX, hym, HPo, HB⟩ := hrel
        obtain ⟨ay, cy, rfl, _⟩ := HO.out.form
        obtain ⟨YL, HYL⟩ : ∃ n, Hid (ys.length = n) := ⟨_, rfl⟩
        rw [HYL.out] at HO hym ⊢
        by_cases hkl : k < PL
        · have hkl' : (k : Int) < (PL : Int) := by omega
          have hkp : k < ps.length := by rw [HPL.out]; exact hkl
          obtain ⟨x, Hx⟩ := hid_ex ps[k]
          have Hsn : Hid ((ps.take (k + 1)).map pe = (ps.take k).map pe ++ [pe x]) := by
            unfold Hid
            rw [List.take_add_one, List.getElem?_eq_getElem hkp, ← Hx.out]
            simp
          have Hdr : Hid (ps.map pe = (ps.take k).map pe ++ pe x :: (ps.drop (k + 1)).map pe) := by
            unfold Hid
            rw [Hx.out, ← List.map_cons (f := pe), ← List.map_append, ← List.drop_eq_getElem_cons hkp, List.take_append_drop]
          obtain ⟨g, rfl, c0, c1, hk0, hk1⟩ := HPo.out.atT hkp Hx.out
          have HKo : Hid (Own wr w.heap.size x.kv x.p.1) := hk0.mono hz23
          obtain ⟨xk, xv, ⟨pk, pv⟩, xb, xr⟩ := x
          simp only at c0 c1 hk0 hk1 HKo
          obtain ⟨ea, ec, rfl, hem⟩ := hk0.reads.form
          obtain ⟨fa, fc, rfl, hfm⟩ := hk1.reads.form
          unfold maxLen at hem hfm
          obtain ⟨EL, HEL⟩ : ∃ n, Hid (pk.length = n) := ⟨_, rfl⟩
          obtain ⟨FL, HFL⟩ : ∃ n, Hid (pv.length = n) := ⟨_, rfl⟩
          have HR1 : Hid (Reads wr (.slice fa pv.length fc) pv) := hk1.reads
          rw [HEL.out] at c0 hem HKo
          rw [HFL.out] at c1 hfm HR1
          have HOn : Hid (([.slice ea EL ec, .slice fa FL fc] : List Value).toArray.all (·.oneCell') = true) := by unfold Hid; kernel_rfl
          clear hk0 hk1 Hx
          go_wp2_with (refine stop_store 53 _ _ rfl ?_)
          refine Stop.of ?_
          refine wpList_storeN rfl _ _ _ rfl wr.heap.size 0 [.slice ea EL ec, .slice fa FL fc] rfl rfl _ _ (heap_alloc_new _ _) (by simp) (by kernel_rfl) HOn.out ?_
          intro w4 hw4
          obtain ⟨hb4, hx4, hz4⟩ := stW_nw hw4 (by simp)
          have HB4 : Hid (Below w.heap.size w w4) := HB.out.trans (hb4.mono HB.out.size)
          have HO4 : Hid (TOwn w4 w.heap.size (.slice ay YL cy) ys) := HO.out.below hb4
          have HP4 : Hid (POwn w4 B2 (.slice (some ⟨g, 0, none⟩) PL pc) ps) := HPo.out.below hb4
          have HK4 : Hid (Own w4 w.heap.size (.slice ea EL ec) pk) := HKo.out.below hb4
          have HR4 : Hid (Reads w4 (.slice fa FL fc) pv) := HR1.out.below hb4
          have HX4 : Hid (w4.heap[wr.heap.size]? = some (.cells #[.slice ea EL ec, .slice fa FL fc] 53)) := hx4
          have HC4 : Hid (Calls Try.prog 49 #[.slice ea EL ec, .slice ka KL kc] w4 _) := cmp_any _ _ pk key w4 HK4.out.reads (HK.out.below HB4.out)
          obtain ⟨C, HC⟩ := hid_ex (Lib.compareBytes pk key)
          rw [← HC.out] at HC4
          have hzr := HB.out.size
          clear hw4 hb4 hx4 c0 c1 HO HPo HB HKo HR1
          have q0 := cell_rw HX4.out 0 (by simp)
          have q1 := cell_rw HX4.out 1 (by simp)
          simp only [List.getElem_toArray, List.getElem_cons_succ, List.getElem_cons_zero] at q0 q1
          go_wp2_with fail
          refine HC4.out.mono ?_
          clear HC4
          rintro e w5 ⟨rfl, rfl⟩
          by_cases hC : C < 0
          · have HN1 : Hid (geF key (A ++ (ps.take (k + 1)).map pe) = geF key (A ++ (ps.take k).map pe)) := by
              unfold Hid
              rw [Hsn.out, ← List.append_assoc, geF_app, geF_one, if_neg (by show ¬ 0 ≤ Lib.compareBytes pk key; rw [← HC.out]; omega), List.append_nil]
            go_wp2_with fail
            go_roundw
            case rel => exact ⟨k + 1, ys, by go_num, by omega, HO4, by rw [HN1.out]; exact HX, by rw [HYL.out]; exact hym, HP4, HB4⟩
            case measure => simp [intOf]; omega
          · have HN1 : Hid (geF key (A ++ (ps.take (k + 1)).map pe) = geF key (A ++ (ps.take k).map pe) ++ [(pk, rdA pv)]) := by
              unfold Hid
              rw [Hsn.out, ← List.append_assoc, geF_app, geF_one, if_pos (by show 0 ≤ Lib.compareBytes pk key; rw [← HC.out]; omega)]
              rfl
            have HTl : Hid (∃ Z, geF key ((L.map (·.2)).flatMap enF) = geF key (A ++ (ps.take k).map pe) ++ (pk, rdA pv) :: Z) := by
              unfold Hid
              rw [HT.out, Hdr.out, ← List.append_assoc, geF_app key (A ++ (ps.take k).map pe), ← List.singleton_append, geF_app key [_], geF_one, if_pos (by show 0 ≤ Lib.compareBytes pk key; rw [← HC.out]; omega)]
              exact ⟨_, by rw [List.append_assoc, List.append_assoc]; rfl⟩
            have HYS : Hid (YL ≤ 1000000) := by
              obtain ⟨Z, hZ⟩ := HTl.out
              have h1 := HS.out
              have h2 := congrArg List.length HX.out
              rw [List.length_map, HYL.out] at h2
              rw [hZ, List.length_append] at h1
              unfold Hid; omega
            have HAg : Hid (Calls Try.prog 70 #[.slice fa FL fc] w5 _) := aggRead_any _ pv w5 HR4.out
            obtain ⟨G, HG⟩ := hid_ex (rdA pv)
            obtain ⟨GR, HGR⟩ := hid_ex (rdR pv)
            rw [← HG.out, ← HGR.out] at HAg
            unfold agV at HAg
            have HGo : Hid (AgOk G) := by unfold Hid; rw [HG.out]; exact rdA_okT pv
            rw [← HG.out] at HN1 HTl
            go_wp2_with fail
            refine HAg.out.mono ?_
            clear HAg
            rintro e w6 ⟨rfl, hb6⟩
            have HB6 : Hid (Below w.heap.size w w6) := HB4.out.trans (hb6.mono HB4.out.size)
            have HO6 : Hid (TOwn w6 w.heap.size (.slice ay YL cy) ys) := HO4.out.below hb6
            have HP6 : Hid (POwn w6 B2 (.slice (some ⟨g, 0, none⟩) PL pc) ps) := HP4.out.below hb6
            have HK6 : Hid (Own w6 w.heap.size (.slice ea EL ec) pk) := HK4.out.below hb6
            have HX6 : Hid (w6.heap[wr.heap.size]? = some (.cells #[.slice ea EL ec, .slice fa FL fc] 53)) := (hb6.block _ hz4).trans HX4.out
            clear hb6 HB4 HO4 HP4 HK4 HX4 HR4 q0 q1
            have HOn2 : Hid (([.int .u64 G.c, .bool G.o, .int .i64 (hi G.s), .int .u64 (lo G.s), .int .i64 G.mn, .int .i64 G.mx] : List Value).toArray.all (·.oneCell') = true) := by unfold Hid; kernel_rfl
            go_wp2_with (refine stop_store 41 _ _ rfl ?_)
            refine Stop.of ?_
            refine wpList_storeN rfl _ _ _ rfl w6.heap.size 0 [.int .u64 G.c, .bool G.o, .int .i64 (hi G.s), .int .u64 (lo G.s), .int .i64 G.mn, .int .i64 G.mx] rfl rfl _ _ (heap_alloc_new _ _) (by simp) (by kernel_rfl) HOn2.out ?_
            intro w7 hw7
            obtain ⟨hb7, hx7, hz7⟩ := stW_nw hw7 (by simp)
            have HB7 : Hid (Below w.heap.size w w7) := HB6.out.trans (hb7.mono HB6.out.size)
            have HO7 : Hid (TOwn w7 w.heap.size (.slice ay YL cy) ys) := HO6.out.below hb7
            have HP7 : Hid (POwn w7 B2 (.slice (some ⟨g, 0, none⟩) PL pc) ps) := HP6.out.below hb7
            have HK7 : Hid (Own w7 w.heap.size (.slice ea EL ec) pk) := HK6.out.below hb7
            have HX7 : Hid (w7.heap[wr.heap.size]? = some (.cells #[.slice ea EL ec, .slice fa FL fc] 53)) := (hb7.block _ (Array.getElem?_eq_some_iff.1 HX6.out).1).trans HX6.out
            have HY7 : Hid (w7.heap[w6.heap.size]? = some (.cells #[.int .u64 G.c, .bool G.o, .int .i64 (hi G.s), .int .u64 (lo G.s), .int .i64 G.mn, .int .i64 G.mx] 41)) := hx7
            clear hw7 hb7 hx7 HB6 HO6 HP6 HK6 HX6
            have p0 := cell_rw HX7.out 0 (by simp)
            have q0 := cell_rw HY7.out 0 (by simp)
            have q1 := cell_rw HY7.out 1 (by simp)
            have q2 := cell_rw HY7.out 2 (by simp)
            have q3 := cell_rw HY7.out 3 (by simp)
            have q4 := cell_rw HY7.out 4 (by simp)
            have q5 := cell_rw HY7.out 5 (by simp)
            simp only [List.getElem_toArray, List.getElem_cons_succ, List.getElem_cons_zero] at p0 q0 q1 q2 q3 q4 q5
            obtain ⟨v9, w9, hr9, ⟨a9, c9, hv9⟩, hT9, hg9, hb9⟩ := ((HO7.out.below ((Below.refl _ _).alloc (Nat.le_refl _) (.cells #[.slice ea EL ec, .int .u64 G.c, .bool G.o, .int .i64 (hi G.s), .int .u64 (lo G.s), .int .i64 G.mn, .int .i64 G.mx] 43))).app (by have := HB7.out.size; simp; omega) (x := ⟨.slice ea EL ec, (pk, G)⟩) ⟨HK7.out.below ((Below.refl _ _).alloc (Nat.le_refl _) _), HGo.out⟩ (heap_alloc_new w7 _) (by rw [HYL.out]; exact HYS.out) 22)
            rw [HYL.out] at hv9
            subst hv9
            have HB9 : Hid (Below w.heap.size w w9) := (HB7.out.alloc HB7.out.size _).trans hb9
            have HP9 : Hid (POwn w9 B2 (.slice (some ⟨g, 0, none⟩) PL pc) ps) := by
              have h8 := HP7.out.below ((Below.refl w7.heap.size w7).alloc (Nat.le_refl _) (.cells #[.slice ea EL ec, .int .u64 G.c, .bool G.o, .int .i64 (hi G.s), .int .u64 (lo G.s), .int .i64 G.mn, .int .i64 G.mx] 43))
              have h9 := (HO7.out.below ((Below.refl w7.heap.size w7).alloc (Nat.le_refl _) (.cells #[.slice ea EL ec, .int .u64 G.c, .bool G.o, .int .i64 (hi G.s), .int .u64 (lo G.s), .int .i64 G.mn, .int .i64 G.mx] 43))).1
              exact ⟨row_other h9 h8.1 (by decide) hg9, fun y hy => ⟨row_other h9 (h8.2 y hy).1 (by decide) hg9, row_other h9 (h8.2 y hy).2 (by decide) hg9⟩⟩
            have HT9 : Hid (TOwn w9 w.heap.size (.slice a9 (YL + 1) c9) (ys ++ [⟨.slice ea EL ec, (pk, G)⟩])) := hT9
            have HX9 : Hid ((ys ++ [(⟨.slice ea EL ec, (pk, G)⟩ : Ee)]).map Ee.e = geF key (A ++ (ps.take (k + 1)).map pe)) := by
              unfold Hid
              rw [List.map_append, HX.out, HN1.out]
              rfl
            clear hT9 hg9 hb9 HO7 HP7 HK7 HB7
            have HLn : Hid ((ys ++ [(⟨.slice ea EL ec, (pk, G)⟩ : Ee)]).length = YL + 1) := by unfold Hid; rw [List.length_append, HYL.out]; rfl
            by_cases hq : YL + 1 = m
            · have hq' : ((YL : Int) + 1 == (m : Int)) = true := by simp; omega
              have HR9 : Hid ((ys ++ [(⟨.slice ea EL ec, (pk, G)⟩ : Ee)]).map Ee.e = RS) := by
                obtain ⟨Z, hZ⟩ := HTl.out
                have h2 := congrArg List.length HX.out
                rw [List.length_map, HYL.out] at h2
                unfold Hid
                rw [HRS2.out, hZ, HX9.out, HN1.out]
                generalize geF key (A ++ (ps.take k).map pe) = X at h2 ⊢
                rw [List.take_append, List.take_of_length_le (by omega), show m - X.length = 1 by omega]
                rfl
              clear hq
              go_wp2_with (at_builtin; refine wpList_app_runT rfl _ _ _ _ (by rfl) (by rfl) _ _ _ (by rfl) (by rfl) hr9 ?_; clear hr9)
              go_ret
              exact FiP.of HR9.out HT9.out HB9.out
            · have hq' : ((YL : Int) + 1 == (m : Int)) = false := by simp; omega
              go_wp2_with (at_builtin; refine wpList_app_runT rfl _ _ _ _ (by rfl) (by rfl) _ _ _ (by rfl) (by rfl) hr9 ?_; clear hr9)
              go_roundw
              case rel => exact ⟨k + 1, _, by go_num, by omega, HT9, HX9, by rw [HLn.out]; omega, HP9, HB9⟩
              case measure => simp [intOf]; omega
        · have hkl' : ¬ (k : Int) < (PL : Int) := by omega
          have hX1 : ys.map Ee.e = geF key (((L.take (j + 1)).map (·.2)).flatMap enF) := by
            rw [HX.out, HA1.out, List.take_of_length_le (by rw [HPL.out]; omega)]
          have HX1 : Hid (ys.map Ee.e = geF key (((L.take (j + 1)).map (·.2)).flatMap enF)) := hX1
          clear hX1
          go_wp2_with fail
          go_roundw
          case rel => exact ⟨j + 1, ys, by go_num, by omega, HO, HX1, by rw [HYL.out]; exact hym, HB⟩
          case measure => simp [intOf]; omega
    · have hlt' : ¬ (j : Int) < (N : Int) := by omega
      have HR9 : Hid (xs.map Ee.e = RS) := by
        unfold Hid
        have h1 : L.take j = L := List.take_of_length_le (by rw [HN.out]; omega)
        have h2 := HX.out
        rw [h1] at h2
        have h3 := congrArg List.length h2
        rw [List.length_map, HXL.out] at h3
        rw [HRS2.out, h2, List.take_of_length_le (by omega)]
      go_wp2_with fail
      go_ret
      exact FiP.of HR9.out HO.out HB.out
end Go.Proofs.Ytlpjdfgknmfmnaa

/- The contract of bloom's Read. -/
namespace Go.Proofs.Ytlpjdfgknmfmnaa
open Go.RowKit

def rdOk (l : List UInt8) : Prop := 2 ≤ l.length ∧ l.length ≤ 8193 ∧ 1 ≤ (l.getD 0 0).toNat ∧ (l.getD 0 0).toNat ≤ 8
set_option maxRecDepth 100000 in
set_option maxHeartbeats 1000000 in
theorem read_ok (v : Value) (l : List UInt8) (w : World) (hR : Reads w v l) (hok : rdOk l) :
    Calls Try.prog 36 #[v] w fun e w' => ∃ v', e = .returned (.tuple #[v', .int .i64 0]) ∧ Fil w' w.heap.size v' (l.getD 0 0).toNat (l.drop 1) ∧ Below w.heap.size w w' := by
  obtain ⟨h1, h2, h3, h4⟩ := hok
  obtain ⟨h, Hh⟩ := hid_ex (l.getD 0 0).toNat
  rw [← Hh.out] at h3 h4 ⊢
  rcases hR with ⟨rfl, _⟩ | ⟨b, off, cap, rfl, r2, r3, r4, r5, r6⟩
  · simp at h1
  have HR : Hid (Reads w (.slice (some ⟨b, off, none⟩) l.length cap) l) := .inr ⟨b, off, cap, rfl, r2, r3, r4, r5, r6⟩
  have c0 := r6 0 (by omega)
  have e0 : bc l[0] = .int .u8 (h : Int) := by
    rw [Hh.out]; simp [bc, List.getD, List.getElem?_eq_getElem (show 0 < l.length by omega)]
  rw [e0, Nat.add_zero] at c0
  unfold maxLen at r4
  clear r6 e0
  have HM : Hid _ := mayHash_any (h : Int)
  have em : decide (1 ≤ (h : Int) ∧ (h : Int) ≤ 8) = true := by simp; omega
  rw [em] at HM
  clear em
  obtain ⟨i0, hi, hz0, hz1, hz2⟩ := info_parts info5
  obtain ⟨w2, hrn, hown2, hg2⟩ := run_make_full (P := Try.prog) w.drew w.heap.size 25 5 i0 (.int .u8 0) 1 Try.underlying25 hi hz0 hz1 .i64 .i64 (l.length - 1) (by rw [hz2]; omega) (by unfold maxLen; omega) (Nat.le_refl _)
  have e2 : ((l.length - 1 : Nat) : Int) = (l.length : Int) - 1 := by omega
  rw [e2] at hrn
  rw [Nat.mul_one] at hown2
  have hO2 := own_zeros hown2
  have HB2 : Hid (Below w.heap.size w w2) := (Below.refl w.heap.size w).drew.grown hg2 (Nat.le_refl _) (fun k hk => by cases hk)
  have HO2 : Hid (Own w2 w.heap.size (.slice (some ⟨w.heap.size, 0, none⟩) (l.length - 1) (l.length - 1)) (List.replicate (l.length - 1) 0)) := hO2
  have i1 : ¬ (l.length : Int) < 2 := by omega
  have i2 : ¬ (8193 : Int) < (l.length : Int) := by omega
  clear hown2 hg2 hO2 e2 hi hz0 hz1 hz2
  go_enter Try.func36, Try.ntmps36
  go_wp2_with fail
  refine (HM.out _).mono ?_
  rintro e w' ⟨rfl, hw⟩
  subst w'
  go_wp2_with fail
  refine wp_region_noPanic ?_
  refine wp_region_held_drew (S := (fun w' => Below w.heap.size w w')) (by kernel_rfl) ?_ (fun hHeld => ?_)
  · exact (Below.refl _ _).drew
  refine tk (i := 0) (v := .slice (some ⟨b, off, none⟩) l.length cap) rfl ?_ ?_
  · intro w1 hSw; go_simp
  simp only [za, zc, Act.put, zd, ze, zf]
  refine tk (i := 1) (v := .pointer (some ⟨b, off, none⟩)) rfl ?_ ?_
  · intro w1 hSw; go_simp
  simp only [za, zb, zc, Act.put, zd, ze, zf]
  refine tk (i := 2) (v := .int .u8 (h : Int)) rfl ?_ ?_
  · (intro w1 hSw; (try dsimp only at hSw); have hcc := (hSw.cell (p := ⟨b, off, none⟩) r5).trans c0; go_simp)
  simp only [za, zb, zc, Act.put, zd, ze, zf]
  refine tk (i := 3) (v := .int .i64 (h : Int)) rfl ?_ ?_
  · (intro w1 hSw; (try dsimp only at hSw); go_simp; (rw [IntKind.wrap_i64]; omega))
  simp only [za, zb, zc, Act.put, zd, ze, zf]
  refine tk (i := 4) (v := .slice (some ⟨b, off, none⟩) l.length cap) rfl ?_ ?_
  · intro w1 hSw; go_simp
  simp only [za, zb, zc, Act.put, zd, ze, zf]
  refine tk (i := 5) (v := .int .i64 (l.length : Int)) rfl ?_ ?_
  · intro w1 hSw; go_simp
  simp only [za, zb, zc, Act.put, zd, ze, zf]
  refine tk (i := 6) (v := .int .i64 ((l.length : Int) - 1)) rfl ?_ ?_
  · (intro w1 hSw; (try dsimp only at hSw); go_simp; (rw [IntKind.wrap_i64]; omega))
  simp only [za, zb, zc, Act.put, zd, ze, zf]
  refine wpAnyH_ready (rs := [7]) (by kernel_rfl) (by simp) ?_
  refine AllReadyH.cons (o := _) rfl (fun K hK => ?_) AllReadyH.nil
  go_simp
  refine hK.out _ _ ?_ (fun hHeld => ?_)
  · exact HB2.out
  clear hK K
  refine tk (i := 8) (v := .agg #[.int .i64 (h : Int), .slice (some ⟨w.heap.size, 0, none⟩) (l.length - 1) (l.length - 1)]) rfl ?_ ?_
  · intro w1 hSw; go_simp
  simp only [za, zb, zc, Act.put, zd, ze, zf]
  refine wpAnyH_ready (rs := [9]) (by kernel_rfl) (by simp) ?_
  refine AllReadyH.cons (o := _) rfl (fun K hK => ?_) AllReadyH.nil
  go_simp
  refine hK.out _ _ ?_ (fun hHeld => ?_)
  · exact hHeld.alloc HB2.out.size _
  clear hK K
  refine tk (i := 10) (v := .pointer (some ⟨w2.heap.size, 0, none⟩)) rfl ?_ ?_
  · intro w1 hSw; go_simp
  simp only [za, zb, zc, Act.put, zd, ze, zf]
  refine wpAnyH_done (by kernel_rfl) ?_ _
  refine NoPanic.normal ?_
  obtain ⟨w3, HW3⟩ := hid_ex (w2.alloc (.cells #[.int .i64 (h : Int), .slice (some ⟨w.heap.size, 0, none⟩) (l.length - 1) (l.length - 1)] 125))
  rw [← HW3.out]
  have HB3 : Hid (Below w.heap.size w w3) := by rw [HW3.out]; exact hHeld
  clear hHeld hrn
  go_wp2_with fail
  have hN2 : ¬ cap = 1 := by omega
  have i4 : (1 : Int) ≤ (l.length : Int) := by omega
  have HRD : Hid (∀ w', Below w.heap.size w w' → Reads w' (.slice (some ⟨b, off + 1, none⟩) (l.length - 1) (cap - 1)) (l.drop 1)) := by
    intro w' hb
    have := (HR.out.below hb).drop (c := 1) (by omega) b off rfl
    exact this.1 (by omega)
  have hdl : (l.drop 1).length = l.length - 1 := by simp
  have HDL : Hid ((l.drop 1).length = l.length - 1) := hdl
  clear hdl
  have HOW : Hid (Own w3 w.heap.size (.slice (some ⟨w.heap.size, 0, none⟩) (l.length - 1) (l.length - 1)) (List.replicate (l.length - 1) 0)) := by rw [HW3.out]; exact HO2.out.alloc _
  have HCW : Hid (w3.heap[w2.heap.size]? = some (.cells #[.int .i64 (h : Int), .slice (some ⟨w.heap.size, 0, none⟩) (l.length - 1) (l.length - 1)] 125)) := by rw [HW3.out]; exact World.alloc_heap_new _ _
  have hg2 := (World.ownsRow.lt HO2.out w.heap.size rfl).2
  refine wp_region_noPanic ?_
  refine wp_region_held_drew (S := (fun w' => Below w.heap.size w w' ∧ w'.heap[w2.heap.size]? = some (.cells #[.int .i64 (h : Int), .slice (some ⟨w.heap.size, 0, none⟩) (l.length - 1) (l.length - 1)] 125) ∧ ∃ L, Own w' w.heap.size (.slice (some ⟨w.heap.size, 0, none⟩) (l.length - 1) (l.length - 1)) L)) (by kernel_rfl) ?_ (fun hHeld => ?_)
  · exact ⟨HB3.out.drew, HCW.out, _, HOW.out⟩
  refine tk (i := 0) (v := .pointer (some ⟨w2.heap.size, 0, none⟩)) rfl ?_ ?_
  · intro w1 hSw; go_simp
  simp only [za, zc, Act.put, zd, ze, zf]
  refine tk (i := 1) (v := .pointer (some ⟨w2.heap.size, 0, none⟩)) rfl ?_ ?_
  · intro w1 hSw; go_simp
  simp only [za, zb, zc, Act.put, zd, ze, zf]
  refine tk (i := 2) (v := .pointer (some ⟨w2.heap.size, 1, none⟩)) rfl ?_ ?_
  · intro w1 hSw; go_simp
  simp only [za, zb, zc, Act.put, zd, ze, zf]
  refine tk (i := 3) (v := .slice (some ⟨w.heap.size, 0, none⟩) (l.length - 1) (l.length - 1)) rfl ?_ ?_
  · (intro w1 hSw; (try dsimp only at hSw); (have hcc := cell_of hSw.2.1 1 (by simp); simp at hcc); go_simp)
  simp only [za, zb, zc, Act.put, zd, ze, zf]
  refine tk (i := 4) (v := .slice (some ⟨b, off, none⟩) l.length cap) rfl ?_ ?_
  · intro w1 hSw; go_simp
  simp only [za, zb, zc, Act.put, zd, ze, zf]
  refine tk (i := 5) (v := .slice (some ⟨b, off + 1, none⟩) (l.length - 1) (cap - 1)) rfl ?_ ?_
  · intro w1 hSw; go_simp
  simp only [za, zb, zc, Act.put, zd, ze, zf]
  refine wpAnyH_ready (rs := [6]) (by kernel_rfl) (by simp) ?_
  refine AllReadyH.cons (o := _) rfl (fun K hK => ?_) AllReadyH.nil
  obtain ⟨hbh, hch, L1, hOL⟩ := id hHeld
  refine wp_copy _ _ (by rfl) w.heap.size w.heap.size (l.length - 1) 0 (l.length - 1) L1 (l.drop 1) _ (by omega) (by rfl) (by rfl) hOL (HRD.out _ hbh) (by rw [HDL.out]; omega) (by rw [HDL.out]; omega) ?_
  intro w4 HO4 HB4 HG4
  rw [List.take_zero, List.nil_append] at HO4
  have HC4 : Hid (w4.heap[w2.heap.size]? = some (.cells #[.int .i64 (h : Int), .slice (some ⟨w.heap.size, 0, none⟩) (l.length - 1) (l.length - 1)] 125)) := (HG4.out.block _ (Array.getElem?_eq_some_iff.1 hch).1 (by simp; omega)).trans hch
  have HB5 : Hid (Below w.heap.size w w4) := hbh.trans HB4.out
  simp only [za, zb, zc, Act.put, zd, ze, zf]
  refine hK.out _ _ ?_ (fun hHeld => ?_)
  · exact ⟨HB5.out, HC4.out, _, HO4⟩
  clear hK K
  clear hHeld
  refine wpAnyH_done (by kernel_rfl) ?_ _
  refine NoPanic.normal ?_
  go_wp2_with fail
  go_ret2
  have hB2s := HB2.out.size
  refine ⟨_, rfl, ⟨w2.heap.size, w.heap.size, l.length - 1, rfl, hB2s, ?_, ?_, by omega, h3, h4, by rw [HDL.out]; omega, by rw [HDL.out]; omega⟩, HB5.out⟩
  · rw [HDL.out]; exact HC4.out
  · rw [HDL.out]; exact HO4
end Go.Proofs.Ytlpjdfgknmfmnaa

/- table: plain words: what Open makes of bytes. -/
namespace Go.Proofs.Ytlpjdfgknmfmnaa
open Go.RowKit

/-- The frames of bytes. -/
def opR (b : List UInt8) : List (List UInt8) := (alF (b.length + 1) b).map (·.1)
def opL (b : List UInt8) : List Et := firF ((opR b).take ((opR b).length - 3)) [] 4096
def opOk (b : List UInt8) : Prop := 3 ≤ (opR b).length ∧ twE (opL b) = 0 ∧ twB (opL b) = b
instance (b : List UInt8) : Decidable (opOk b) := inferInstanceAs (Decidable (_ ∧ _ ∧ _))
theorem alF_sum : ∀ (n : Nat) (l : List UInt8), (((alF n l).map (·.1)).map List.length).sum + 8 * (alF n l).length ≤ l.length
  | 0, l => by simp [alF]
  | n + 1, l => by
    rw [alF]
    by_cases h : (nxF l).2.2 = 0
    · rw [if_pos h]
      have h1 := nxF_ok h
      have h2 : (nxF l).1.length + 8 ≤ (nxF l).2.1 := by
        unfold nxF at h ⊢
        by_cases a1 : l.length < 4
        · rw [if_pos a1] at h; simp at h
        · rw [if_neg a1] at h ⊢
          by_cases a2 : 65535 < vle (l.take 4)
          · rw [if_pos a2] at h; simp at h
          · rw [if_neg a2] at h ⊢
            by_cases a3 : l.length < vle (l.take 4) + 8
            · rw [if_pos a3] at h; simp at h
            · rw [if_neg a3] at h ⊢
              by_cases a4 : vle ((l.drop (4 + vle (l.take 4))).take 4) ≠ mor 0 (l.take (4 + vle (l.take 4)))
              · rw [if_pos a4] at h; simp at h
              · rw [if_neg a4]; simp; omega
      have ih := alF_sum n (l.drop (nxF l).2.1)
      rw [List.length_drop] at ih
      simp only [List.map_cons, List.sum_cons, List.length_cons]
      omega
    · rw [if_neg h]; simp
theorem opR_sum (b : List UInt8) : ((opR b).map List.length).sum + 8 * (opR b).length ≤ b.length := by
  have := alF_sum (b.length + 1) b
  unfold opR
  simpa using this
theorem mem_sum : ∀ (L : List (List UInt8)) (x : List UInt8), x ∈ L → x.length ≤ (L.map List.length).sum
  | y :: L, x, h => by
    rw [List.map_cons, List.sum_cons]
    rcases List.mem_cons.1 h with rfl | h
    · omega
    · have := mem_sum L x h; omega
theorem wbF_ge : ∀ (l : List Pr) (i : Nat) (ah : Ks), l.length ≤ (wbF i ah l).length
  | [], _, _ => by simp
  | x :: l, i, ah => by
    have ih := wbF_ge l (i + 1) x.1
    have h := pb_len i ah x
    have h2 := sh_pos (svd i ah x.1)
    rw [wbF, List.length_append, List.length_cons]
    omega
theorem enF_len (row : List UInt8) : (enF row).length ≤ row.length := by
  unfold enF
  rw [List.length_map]
  cases h : rdB row with
  | none => simp
  | some l =>
    have := (rdB_back h).2
    have h2 := wbF_ge l 0 []
    unfold wb at this
    rw [this] at h2
    exact h2
theorem flat_sum : ∀ L : List (List UInt8), (L.flatMap enF).length ≤ (L.map List.length).sum
  | [] => by simp
  | x :: L => by
    have := flat_sum L
    have := enF_len x
    rw [List.flatMap_cons, List.length_append, List.map_cons, List.sum_cons]
    omega
theorem sum_take : ∀ (L : List (List UInt8)) (n : Nat), ((L.take n).map List.length).sum ≤ (L.map List.length).sum
  | [], _ => by simp
  | x :: L, 0 => by simp
  | x :: L, n + 1 => by
    have := sum_take L n
    rw [List.take_succ_cons, List.map_cons, List.sum_cons, List.map_cons, List.sum_cons]
    omega
theorem geF_le (key : List UInt8) (l : List Et) : (geF key l).length ≤ l.length := List.length_filter_le _ _
theorem op_bd (b : List UInt8) (n : Nat) : (geF [] (((opR b).take n).flatMap enF)).length ≤ b.length := by
  have h1 := geF_le [] (((opR b).take n).flatMap enF)
  have h2 := flat_sum ((opR b).take n)
  have h3 := sum_take (opR b) n
  have h4 := opR_sum b
  omega
/-- A table's frames. -/
theorem twE_zero {l : List Et} (h : twE l = 0) : TOk l ∧ (wrB (tIdx l)).length ≤ 65535 := by
  unfold twE at h
  by_cases h1 : tmF l ≠ 0
  · rw [if_pos h1] at h; exact absurd h h1
  · rw [if_neg h1] at h
    refine ⟨tm_ok (Decidable.not_not.1 h1), ?_⟩
    by_cases h2 : 65535 < (wrB (tIdx l)).length
    · rw [if_pos h2] at h; simp at h
    · omega
theorem tabL_bd {l : List Et} (h : twE l = 0) : ∀ x ∈ tabL l, x.length ≤ 65535 := by
  obtain ⟨h1, h2⟩ := twE_zero h
  intro x hx
  unfold tabL at hx
  rcases List.mem_append.1 hx with hx | hx
  · have := tRows_bd h1 x hx; omega
  · simp at hx
    rcases hx with rfl | rfl | rfl
    · exact h2
    · rw [rmB_len]; have := (rmN_ok h1.n).2.2.1; omega
    · rw [tFoot_len]; omega
theorem tabL_len (l : List Et) : (tabL l).length = tK l.length + 3 := by unfold tabL; rw [List.length_append, tRows_len]; rfl
theorem alF_cat (L : List (List UInt8)) (h : ∀ x ∈ L, x.length ≤ 65535) (f : Nat) (hf : L.length ≤ f) : alF f (cat L) = L.map pr := by
  have := al_cut L.length L (cat L).length f (Nat.le_refl _) h (by unfold en; rw [List.take_length]; exact Nat.le_refl _) (.inl rfl) hf
  rw [List.take_length, List.take_length] at this
  exact this
theorem cat_ge (L : List (List UInt8)) : 8 * L.length ≤ (cat L).length := by
  have := en_ge L L.length (Nat.le_refl _)
  unfold en at this
  rw [List.take_length] at this
  exact this
theorem opR_tab {l : List Et} {b : List UInt8} (h : twE l = 0) (hb : twB l = b) : opR b = tabL l := by
  subst hb
  unfold opR twB
  rw [if_pos h, alF_cat _ (tabL_bd h) _ (by have := cat_ge (tabL l); omega), List.map_map]
  exact (List.map_congr_left (fun _ _ => rfl)).trans (List.map_id _)
/-- What was written is there again. -/
theorem flat_rows {l : List Et} (h : TOk l) (hA : ∀ x ∈ l, AgOk x.2) : (tRows l).flatMap enF = l := by
  have hone : ∀ j, enF (tRow l j) = tCh l j := by
    intro j
    have h0 := rowP_ok h j
    unfold enF tRow
    rw [wrB_of h0, rdB_wb h0]
    show (rowP (tCh l j)).map _ = _
    unfold rowP
    rw [List.map_map]
    refine (List.map_congr_left (fun x hx => ?_)).trans (List.map_id _)
    have hm := tCh_mem hx
    have hr := (h.a x hm).2
    have : rdA (wrU x.2) = x.2 := by
      unfold wrU
      rw [if_pos hr]
      have hg : rdG (aggU x.2) := by
        refine ⟨?_, by rw [dec_aggU _ (hA x hm)]; exact hr⟩
        unfold aggU; cases x.2.o <;> simp
      unfold rdA
      rw [if_pos ⟨aggU_len x.2, hg⟩, dec_aggU _ (hA x hm)]
    show (x.1, rdA (wrU x.2)) = x
    rw [this]
  have hall : ∀ n, ((List.range n).map (tRow l)).flatMap enF = l.take (16 * n) := by
    intro n
    induction n with
    | zero => simp
    | succ n ih =>
      rw [List.range_succ, List.map_append, List.flatMap_append, ih]
      simp only [List.map_cons, List.map_nil, List.flatMap_cons, List.flatMap_nil, List.append_nil]
      rw [hone n]
      unfold tCh
      rw [show 16 * (n + 1) = 16 * n + 16 by omega, List.take_add]
  unfold tRows
  rw [hall, List.take_of_length_le (by unfold tK; omega)]
theorem geF_nil (l : List Et) : geF [] l = l := by
  unfold geF
  rw [List.filter_eq_self]
  intro x _
  simp only [decide_eq_true_eq]
  rw [cmp_ge]
  intro h
  unfold ltK at h
  cases hx : x.1 with
  | nil => rw [hx] at h; exact absurd h (by decide)
  | cons y z => rw [hx] at h; exact absurd h (by simp [Lib.compareBytes])
theorem op_back {l : List Et} (h : twE l = 0) (hA : ∀ x ∈ l, AgOk x.2) : opL (twB l) = l ∧ opOk (twB l) := by
  obtain ⟨h1, _⟩ := twE_zero h
  have hR := opR_tab h rfl
  have hL : opL (twB l) = l := by
    unfold opL firF
    rw [hR, tabL_len, Nat.add_sub_cancel]
    have : (tabL l).take (tK l.length) = tRows l := by
      unfold tabL
      rw [← tRows_len, List.take_left]
    rw [this, flat_rows h1 hA, geF_nil, List.take_of_length_le h1.n]
  refine ⟨hL, ?_, ?_, ?_⟩
  · rw [hR, tabL_len]; omega
  · rw [hL]; exact h
  · rw [hL]
theorem enF_ok (row : List UInt8) : ∀ x ∈ enF row, AgOk x.2 := by
  intro x hx
  obtain ⟨p, _, rfl⟩ := List.mem_map.1 hx
  exact rdA_okT p.2
theorem opL_ok (b : List UInt8) : ∀ x ∈ opL b, AgOk x.2 := by
  intro x hx
  have h1 := List.mem_of_mem_take hx
  have h2 := (List.mem_filter.1 h1).1
  obtain ⟨r, _, h3⟩ := List.mem_flatMap.1 h2
  exact enF_ok r x h3
end Go.Proofs.Ytlpjdfgknmfmnaa
