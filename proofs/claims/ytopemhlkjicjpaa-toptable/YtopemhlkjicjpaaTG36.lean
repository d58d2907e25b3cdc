/- TL1 B10 TL2 TP1, joined. -/
import Derived.Test.YtopemhlkjicjpaaTG7
import Derived.Test.YtopemhlkjicjpaaTG15
import Derived.Test.YtopemhlkjicjpaaTG35
/- law10: the reference's Same, where both hold the same. -/
namespace Go.Proofs.Ytopemhlkjicjpaa
open Go.RowKit

set_option maxRecDepth 100000 in
set_option maxHeartbeats 2000000 in
theorem same10_true (va vb : Value) (L : List Et) (w : World) (hA : TRd w va L) (hB : TRd w vb L) :
    Calls Try.prog 17 #[va, vb] w fun e w' => e = .returned (.bool true) ∧ Below w.heap.size w w' := by
  obtain ⟨a, ca, rfl, hca, hma⟩ : ∃ a cap, va = .slice a L.length cap ∧ L.length ≤ cap ∧ cap ≤ maxLen := by obtain ⟨a, cap, h1, h2, h3, _⟩ := hA; exact ⟨a, cap, h1, h2, h3⟩
  obtain ⟨b, cb, rfl, hcb, hmb⟩ : ∃ a cap, vb = .slice a L.length cap ∧ L.length ≤ cap ∧ cap ≤ maxLen := by obtain ⟨a, cap, h1, h2, h3, _⟩ := hB; exact ⟨a, cap, h1, h2, h3⟩
  unfold maxLen at hma hmb
  have HA3 : Hid (TRd w (.slice a L.length ca) L) := hA
  have HB3 : Hid (TRd w (.slice b L.length cb) L) := hB
  clear hA hB
  go_enter Try.func17, Try.ntmps17
  go_wp2_with fail
  go_loopw [5] (fun i wr => ∃ k : Nat, k ≤ L.length ∧ i = .int .i64 (k : Int) ∧ Hid (Below w.heap.size w wr)) (fun i _ => L.length - (intOf i).toNat)
  case atStart => exact ⟨0, by omega, rfl, Below.refl _ _⟩
  case round =>
    obtain ⟨k, hk, rfl, HW⟩ := hrel
    by_cases hlt : k < L.length
    · obtain ⟨X, HX⟩ := hid_ex L[k]
      obtain ⟨bA, oA, kv, rfl, hbA, hc, hR, _⟩ := HA3.out.at hlt HX.out
      obtain ⟨bB, oB, kv', rfl, hbB, hc', hR', _⟩ := HB3.out.at hlt HX.out
      have hq : ∀ i (hi : i < 7), wr.cell? ⟨bA, oA + k * 7 + i, none⟩ = some ((e7 kv X.2)[i]'hi) := fun i hi => (HW.out.cell (p := ⟨bA, _, none⟩) hbA).trans (hc i hi)
      have hq' : ∀ i (hi : i < 7), wr.cell? ⟨bB, oB + k * 7 + i, none⟩ = some ((e7 kv' X.2)[i]'hi) := fun i hi => (HW.out.cell (p := ⟨bB, _, none⟩) hbB).trans (hc' i hi)
      obtain ⟨ak, ck, rfl, _⟩ := hR.form
      obtain ⟨al, cl, rfl, _⟩ := hR'.form
      have c0 := hq 0 (by decide)
      have c1 := hq (1 + 0) (by decide)
      have c2 := hq (1 + 1) (by decide)
      have c3 := hq (1 + 2) (by decide)
      have c4 := hq (1 + 3) (by decide)
      have c5 := hq (1 + 4) (by decide)
      have c6 := hq (1 + 5) (by decide)
      have d0 := hq' 0 (by decide)
      have d1 := hq' (1 + 0) (by decide)
      have d2 := hq' (1 + 1) (by decide)
      have d3 := hq' (1 + 2) (by decide)
      have d4 := hq' (1 + 3) (by decide)
      have d5 := hq' (1 + 4) (by decide)
      have d6 := hq' (1 + 5) (by decide)
      simp only [e7, List.getElem_cons_zero, List.getElem_cons_succ, Nat.add_zero, Nat.reduceAdd] at c0 c1 c2 c3 c4 c5 c6 d0 d1 d2 d3 d4 d5 d6
      have hq1 : ∀ n, (convert 23 9 (.slice ak X.1.length ck)).run Try.prog (wr.drewN n) = .ok (.string ⟨X.1.toArray⟩) (wr.drewN n) := fun n => reads_text (hR.below (below_drewN HW.out n))
      have hq2 : ∀ n, (convert 23 9 (.slice al X.1.length cl)).run Try.prog (wr.drewN n) = .ok (.string ⟨X.1.toArray⟩) (wr.drewN n) := fun n => reads_text (hR'.below (below_drewN HW.out n))
      clear hq hq' hc hc'
      go_wp2_with fail
      go_quiet (fail)
      have HW2 : Hid (Below w.heap.size w (wr.drewN nq)) := below_drewN HW.out nq
      clear hq1 hq2
      go_wp2_with fail
      go_roundw
      case rel => exact ⟨k + 1, by omega, by go_num, HW2⟩
      case measure => simp [intOf]; omega
    · go_wp2_with fail
      go_ret
      exact ⟨rfl, HW.out⟩
end Go.Proofs.Ytopemhlkjicjpaa

/- Many keys, and two filters side by side. -/
namespace Go.Proofs.Ytopemhlkjicjpaa
open Go.RowKit

/-- Keys are added, one behind the other. -/
def adK (h : Nat) (D : List UInt8) (L : List (List UInt8)) : List UInt8 := L.foldl (fun E k => adF E (plc k (8 * D.length) h)) D
theorem gb_fold (n h : Nat) (L : List (List UInt8)) : ∀ (D : List UInt8) (q : Nat), n = 8 * D.length → 0 < D.length → gb (L.foldl (fun E k => adF E (plc k n h)) D) q = (gb D q || L.any fun k => decide (q ∈ plc k n h)) := by
  induction L with
  | nil => intro D q _ _; simp
  | cons l L ih =>
    intro D q hn hd
    rw [List.foldl_cons, ih _ _ (by rw [adF_len]; exact hn) (by rw [adF_len]; exact hd), gb_adF _ _ _ (by rw [hn]; exact plc_in hd), List.any_cons, Bool.or_assoc]
theorem gb_adK (h : Nat) (D : List UInt8) (L : List (List UInt8)) (q : Nat) (hd : 0 < D.length) : gb (adK h D L) q = (gb D q || L.any fun k => decide (q ∈ plc k (8 * D.length) h)) := gb_fold _ _ _ _ _ rfl hd
theorem my_adK {h : Nat} {D : List UInt8} {L : List (List UInt8)} {l : List UInt8} (hd : 0 < D.length) (hl : l ∈ L) : myF (adK h D L) (plc l (8 * D.length) h) = true := by
  unfold myF
  rw [List.all_eq_true]
  intro q hq
  rw [gb_adK h D L q hd, List.any_eq_true.2 ⟨l, hl, by simpa using hq⟩, Bool.or_true]
/-- A filter in memory, made since lo, and ahead of hi. -/
def FilIn (w : World) (lo hi : Nat) (v : Value) (h : Nat) (D : List UInt8) : Prop :=
  ∃ B g cap, v = .pointer (some ⟨B, 0, none⟩) ∧ lo ≤ B ∧ w.heap[B]? = some (.cells #[.int .i64 (h : Int), .slice (some ⟨g, 0, none⟩) D.length cap] 125) ∧ Own w lo (.slice (some ⟨g, 0, none⟩) D.length cap) D ∧ B ≠ g ∧ (1 ≤ h ∧ h ≤ 8 ∧ 0 < D.length ∧ D.length ≤ 8192) ∧ B < hi ∧ g < hi
theorem Fil.in {w : World} {lo : Nat} {v : Value} {h : Nat} {D : List UInt8} (hf : Fil w lo v h D) : FilIn w lo w.heap.size v h D := by
  obtain ⟨B, g, cap, h1, h2, h3, h4, h5, h6, h7, h8, h9⟩ := hf
  exact ⟨B, g, cap, h1, h2, h3, h4, h5, ⟨h6, h7, h8, h9⟩, (Array.getElem?_eq_some_iff.1 h3).1, (World.ownsRow.lt h4 g rfl).2⟩
theorem FilIn.below {w w' : World} {lo hi : Nat} {v : Value} {h : Nat} {D : List UInt8} (hf : FilIn w lo hi v h D) (hb : Below hi w w') : FilIn w' lo hi v h D := by
  obtain ⟨B, g, cap, h1, h2, h3, h4, h5, h6, h7, h8⟩ := hf
  refine ⟨B, g, cap, h1, h2, (hb.block B h7).trans h3, ?_, h5, h6, h7, h8⟩
  obtain ⟨q1, q2⟩ := h4
  refine ⟨q1, ?_⟩
  rcases q2 with q2 | ⟨g', cap', cur, hv, hg, hw, r⟩
  · exact .inl q2
  · have : g = g' := by simp at hv; exact hv.1
    subst this
    exact .inr ⟨g, cap', cur, hv, hg, (hb.block g h8).trans hw, r⟩
theorem Fil.kx {A W : World} {base g : Nat} {v : Value} {h : Nat} {D : List UInt8} (hf : Fil A base v h D) (hk : Kx g A W) (hg : g < base) : Fil W base v h D := by
  obtain ⟨B, g', cap, h1, h2, h3, h4, h5⟩ := hf
  refine ⟨B, g', cap, h1, h2, hk _ _ _ _ (by omega) h3, ?_, h5⟩
  obtain ⟨q1, q2⟩ := h4
  refine ⟨q1, ?_⟩
  rcases q2 with q2 | ⟨g2, cap', cur, hv, hg2, hw, r⟩
  · exact .inl q2
  · exact .inr ⟨g2, cap', cur, hv, hg2, hk _ _ _ _ (by omega) hw, r⟩
end Go.Proofs.Ytopemhlkjicjpaa

/- law10: what an open table tells of its own, plainly. -/
namespace Go.Proofs.Ytopemhlkjicjpaa
open Go.RowKit

theorem rmD_adK (n : Nat) (l : List Et) : rmD n l = adK 6 (List.replicate (rmN n) 0) (l.map (·.1)) := by
  unfold rmD adK
  rw [List.foldl_map, List.length_replicate]
theorem rm_len (n : Nat) (l : List Et) : (rmD n l).length = rmN n := rmD_len n l _ (by simp)
theorem my_own {l : List Et} (h : TOk l) {x : Et} (hx : x ∈ l) : tmyF l x.1 = true := by
  unfold tmyF
  rw [rm_len, rmD_adK]
  have := my_adK (h := 6) (D := List.replicate (rmN l.length) (0 : UInt8)) (L := l.map (·.1)) (l := x.1) (by rw [List.length_replicate]; exact (rmN_ok h.n).2.2.2.1) (List.mem_map_of_mem hx)
  rw [List.length_replicate] at this
  exact this
theorem TRd.ag {w : World} {v : Value} {L : List Et} (h : TRd w v L) : ∀ x ∈ L, AgOk x.2 := by
  intro x hx
  obtain ⟨j, hj, rfl⟩ := List.getElem_of_mem hx
  obtain ⟨a, cap, _, _, _, h4⟩ := h
  obtain ⟨_, _, _, _, _, _, _, g⟩ := h4 j hj
  exact g
theorem twB_len {l : List Et} (h : twE l = 0) (hn : l.length ≤ 80) : (twB l).length ≤ 1000000 := by
  obtain ⟨h1, h2⟩ := twE_zero h
  have h3 := cat_bd 4848 (tRows l) (tRows_bd h1)
  rw [tRows_len] at h3
  have hk : tK l.length ≤ 5 := by unfold tK; omega
  have hr := (rmN_ok h1.n).2.2.1
  unfold twB
  rw [if_pos h]
  unfold tabL
  rw [cat_append]
  simp only [cat, List.append_nil, List.length_append, frm_len, rmB_len, tFoot_len]
  have := Nat.mul_le_mul_right (4848 + 8) hk
  omega
end Go.Proofs.Ytopemhlkjicjpaa

/- TopTable: a list's entries as a table's, plainly and in memory. -/
namespace Go.Proofs.Ytopemhlkjicjpaa
open Go.RowKit

/-- What is known, its sum in its reach. -/
def nz (a : Ag) : Ag := { a with s := hi a.s * 18446744073709551616 + lo a.s }
theorem hi_nz (a : Ag) : hi (nz a).s = hi a.s := by unfold nz hi lo; dsimp only; omega
theorem lo_nz (a : Ag) : lo (nz a).s = lo a.s := by unfold nz hi lo; dsimp only; omega
theorem nz_bd (a : Ag) : -170141183460469231731687303715884105728 ≤ (nz a).s ∧ (nz a).s < 170141183460469231731687303715884105728 := by unfold nz hi lo; dsimp only; omega
def nzE (x : En) : Et := (x.1, nz x.2)
theorem right_nz (a : Ag) : rightB (nz a) = rightB a := by unfold rightB; rw [hi_nz, lo_nz]; rfl
theorem agV_nz (a : Ag) : agV (nz a) = agv a := by unfold agV agv; rw [hi_nz, lo_nz]; rfl
/-- Least and greatest in their reach. -/
def MnOk (a : Ag) : Prop := -9223372036854775808 ≤ a.mn ∧ a.mn ≤ 9223372036854775807 ∧ -9223372036854775808 ≤ a.mx ∧ a.mx ≤ 9223372036854775807
theorem mn_mrg {a b : Ag} (ha : MnOk a) (hb : MnOk b) : MnOk (mrg a b) := by
  unfold mrg
  split
  · exact hb
  · split
    · exact ha
    · obtain ⟨a1, a2, a3, a4⟩ := ha
      obtain ⟨b1, b2, b3, b4⟩ := hb
      unfold MnOk minF maxF
      dsimp only
      refine ⟨?_, ?_, ?_, ?_⟩ <;> split <;> omega
def MnE (E : List En) : Prop := ∀ x ∈ E, MnOk x.2
theorem mn_put {E : List En} (h : MnE E) {k : Ks} {a : Ag} (ha : MnOk a) : MnE (putE E k a) := by
  unfold putE
  split
  · rename_i h1
    split
    · intro x hx
      rcases List.mem_or_eq_of_mem_set hx with hx | hx
      · exact h x hx
      · subst hx; exact mn_mrg (h _ (List.getElem_mem h1)) ha
    · intro x hx
      rcases List.mem_append.1 hx with hx | hx
      · exact h x (List.mem_of_mem_take hx)
      · rcases List.mem_cons.1 hx with hx | hx
        · subst hx; exact ha
        · exact h x (List.mem_of_mem_drop hx)
  · intro x hx
    rcases List.mem_append.1 hx with hx | hx
    · exact h x hx
    · simp at hx; subst hx; exact ha
theorem put_len (E : List En) (k : Ks) (a : Ag) : (putE E k a).length ≤ E.length + 1 := by
  unfold putE
  split
  · split
    · simp
    · simp; omega
  · simp
theorem agok_nz {a : Ag} (hc : 0 < a.c ∧ a.c < 18446744073709551616) (hm : MnOk a) : AgOk (nz a) := by
  obtain ⟨m1, m2, m3, m4⟩ := hm
  have hs := nz_bd a
  exact ⟨by show 0 ≤ a.c; omega, hc.2, m1, m2, m3, m4, hs.1, hs.2⟩
theorem sla_e {N : List Nd} {sz : Int} (h : SLa N sz) : (∀ x ∈ ents N, 1 ≤ x.1.length ∧ x.1.length ≤ 256) ∧ (∀ x ∈ ents N, 0 < x.2.c ∧ x.2.c < 18446744073709551616 ∧ rightB x.2 = true) ∧ (keysE (ents N)).Pairwise ltK ∧ (ents N).length ≤ 4096 := by
  refine ⟨fun x hx => ?_, fun x hx => ?_, by rw [keys_ents]; exact h.so, by unfold ents; rw [List.length_map]; exact h.le⟩
  · obtain ⟨y, hy, rfl⟩ := List.mem_map.1 hx
    exact h.kl y hy
  · obtain ⟨y, hy, rfl⟩ := List.mem_map.1 hx
    exact h.ag y hy
theorem keys_nz (E : List En) : (E.map nzE).map (·.1) = keysE E := by unfold keysE; rw [List.map_map]; rfl
theorem sk_tok {w : World} {base L0 : Nat} {E : List En} {fr : Bool} (h : SK w base L0 E fr) : TOk (E.map nzE) := by
  obtain ⟨N, hs, rfl⟩ := h
  obtain ⟨h1, h2, h3, h4⟩ := sla_e hs.2
  refine ⟨by rw [List.length_map]; exact h4, fun x hx => ?_, fun x hx => ?_, by rw [keys_nz]; exact h3⟩
  · obtain ⟨y, hy, rfl⟩ := List.mem_map.1 hx
    exact h1 y hy
  · obtain ⟨y, hy, rfl⟩ := List.mem_map.1 hx
    have := h2 y hy
    exact ⟨by show y.2.c ≠ 0; omega, by show rightB (nz y.2) = true; rw [right_nz]; exact this.2.2⟩
theorem sk_ag {w : World} {base L0 : Nat} {E : List En} {fr : Bool} (h : SK w base L0 E fr) (hm : MnE E) : ∀ x ∈ E, AgOk (nz x.2) := by
  obtain ⟨N, hs, rfl⟩ := h
  obtain ⟨h1, h2, h3, h4⟩ := sla_e hs.2
  intro x hx
  exact agok_nz ⟨(h2 x hx).1, (h2 x hx).2.1⟩ (hm x hx)
theorem tIdx_lenT {l : List Et} (h : TOk l) : (wrB (tIdx l)).length ≤ tK l.length * 270 := by
  have h0 := tIdx_ok h
  rw [wrB_of h0]
  have h1 := wbF_bd (tIdx l) 0 [] (mb_zero.1 h0).2.1
  have h2 := sum_le (fun x : Pr => x.1.length + x.2.length + 6) 270 (tIdx l) (fun x hx => by
    obtain ⟨j, hj, rfl⟩ := List.mem_map.1 hx
    obtain ⟨y, hy, e⟩ := tLast_mem (l := l) (tK_lt.1 (List.mem_range.1 hj))
    have a := (h.k y hy).2
    show (tLast l j).length + (u8s _).length + 6 ≤ 270
    rw [← e, u8s_len]; omega)
  rw [tIdx_len] at h2
  unfold wb
  omega
theorem sk_tok_e {w : World} {base L0 : Nat} {E : List En} {fr : Bool} (h : SK w base L0 E fr) (hn : E.length ≤ 80) : twE (E.map nzE) = 0 := by
  have ht := sk_tok h
  unfold twE
  rw [if_neg (by rw [tm_of ht]; decide), if_neg]
  have h1 := tIdx_lenT ht
  have h2 : tK (E.map nzE).length ≤ 5 := by rw [List.length_map]; unfold tK; omega
  have := Nat.mul_le_mul_right 270 h2
  omega
/-- The list's entries, as the table reads them. -/
theorem EOwn.trd {w : World} {base : Nat} {v : Value} {xs : List Ev} (h : EOwn w base v xs) (ha : ∀ x ∈ xs.map evE, AgOk (nz x.2)) : TRd w v ((xs.map evE).map nzE) := by
  obtain ⟨a, cap, rfl, h1, h2, h3⟩ := h.at
  refine ⟨a, cap, by simp, by simpa using h1, h2, fun j hj => ?_⟩
  simp only [List.length_map] at hj
  obtain ⟨g, rfl, _, hg, hc⟩ := h3 (by omega)
  refine ⟨g, 0, xs[j].kv, rfl, hg, fun i hi => ?_, ?_, ?_⟩
  · have := (hc j hj i hi).1
    rw [show 0 + j * 7 + i = 7 * j + i by omega, this]
    simp only [List.getElem_map]
    show some ((c7 xs[j])[i]'hi) = some ((e7 xs[j].kv (nz xs[j].a))[i]'hi)
    have e : e7 xs[j].kv (nz xs[j].a) = c7 xs[j] := by unfold e7 c7; rw [hi_nz, lo_nz]; rfl
    simp only [e]
    rfl
  · simp only [List.getElem_map]; exact (h.2 _ (List.getElem_mem hj)).reads
  · simp only [List.getElem_map]; exact ha _ (List.mem_map_of_mem (List.getElem_mem hj))
/-- From a key on. -/
theorem ge_drop : ∀ (E : List En) (key : Ks), (keysE E).Pairwise ltK → geF key (E.map nzE) = (E.drop (plK (keysE E) key)).map nzE
  | [], key, _ => by simp [geF]
  | x :: E, key, h => by
    have h' : ltK x.1 key ∨ ¬ ltK x.1 key := Decidable.em _
    unfold keysE at h
    rw [List.map_cons, List.pairwise_cons] at h
    rcases h' with hx | hx
    · have ih := ge_drop E key h.2
      have e1 : plK (keysE (x :: E)) key = plK (keysE E) key + 1 := by
        unfold plK keysE
        rw [List.map_cons, List.takeWhile_cons_of_pos (by simpa using hx), List.length_cons]
      rw [e1, List.drop_succ_cons, ← ih]
      unfold geF
      rw [List.map_cons, List.filter_cons_of_neg]
      simp only [decide_eq_true_eq]
      rw [cmp_ge]
      exact fun q => q hx
    · have e1 : plK (keysE (x :: E)) key = 0 := by
        unfold plK keysE
        rw [List.map_cons, List.takeWhile_cons_of_neg (by simpa using hx)]
        rfl
      rw [e1, List.drop_zero]
      unfold geF
      rw [List.filter_eq_self]
      intro y hy
      simp only [decide_eq_true_eq]
      rw [cmp_ge]
      rcases List.mem_cons.1 hy with rfl | hy
      · exact hx
      · obtain ⟨z, hz, rfl⟩ := List.mem_map.1 hy
        intro q
        have hxz : ltK x.1 z.1 := h.1 _ (List.mem_map_of_mem hz)
        exact hx (ltK_trans hxz q)
/-- Seek, of any number. -/
def skI (l : List Et) (key : List UInt8) (m : Int) : List Et := (geF key l).take m.toNat
theorem skI_T (l : List Et) (key : List UInt8) (m : Nat) : skI l key (m : Int) = skT l key m := by unfold skI skT; rw [Int.toNat_natCast]
theorem skI_no (l : List Et) (key : List UInt8) {m : Int} (h : m < 1) : skI l key m = [] := by unfold skI; rw [show m.toNat = 0 by omega]; rfl
theorem sk_same {w : World} {base L0 : Nat} {E : List En} {fr : Bool} (h : SK w base L0 E fr) (key : Ks) (m : Int) : skI (E.map nzE) key m = (skF E key m).map nzE := by
  obtain ⟨N, hs, rfl⟩ := h
  unfold skI skF
  rw [ge_drop _ _ (sla_e hs.2).2.2.1, List.map_take]
theorem tseekI_any {w : World} {lo B : Nat} {l : List Et} (h : Tb w lo B l) (kv : Value) (key : List UInt8) (hR : Reads w kv key) (m : Int) (hm : m ≤ 9223372036854775807) : Calls Try.prog 19 #[.pointer (some ⟨B, 0, none⟩), kv, .int .i64 m] w (FiP w (skI l key m)) := by
  by_cases h1 : m < 1
  · rw [skI_no l key h1]
    obtain ⟨ka, kc, rfl, _⟩ := hR.form
    exact tseek_no _ _ _ _ m h1 w
  · obtain ⟨n, rfl⟩ : ∃ n : Nat, m = (n : Int) := ⟨m.toNat, by omega⟩
    rw [skI_T]
    exact tseek_any h kv key hR n (by omega) (by omega)
theorem gt_oneT {l : List Et} (h : TOk l) (key : List UInt8) : gtT l key = match skT l key 1 with | [] => none | x :: _ => if x.1 = key then some x.2 else none := by
  unfold gtT
  by_cases hm : tmyF l key = false
  · rw [if_pos hm]
    cases hs : skT l key 1 with
    | nil => rfl
    | cons x r =>
      simp only
      by_cases hx : x.1 = key
      · exfalso
        have hmem : x ∈ l := by
          have h1 : x ∈ skT l key 1 := by rw [hs]; simp
          exact (List.mem_filter.1 (List.mem_of_mem_take h1)).1
        have := my_own h hmem
        rw [hx, hm] at this
        cases this
      · rw [if_neg hx]
  · rw [if_neg hm]
    cases skT l key 1 <;> rfl
/-- What is known of a key: the table and the list tell alike. -/
def gtE (E : List En) (key : Ks) : Option Ag := if h : plK (keysE E) key < E.length then (if E[plK (keysE E) key].1 = key then some E[plK (keysE E) key].2 else none) else none
theorem gtF_E (N : List Nd) (key : Ks) : gtF N key = gtE (ents N) key := by
  unfold gtF gtE
  have e : plK (keysE (ents N)) key = plK (N.map Nd.k) key := by rw [keys_ents]
  by_cases h : plK (N.map Nd.k) key < N.length
  · rw [dif_pos h, dif_pos (by rw [e]; unfold ents; rw [List.length_map]; exact h)]
    simp only [e]
    unfold ents
    simp only [List.getElem_map]
  · rw [dif_neg h, dif_neg (by rw [e]; unfold ents; rw [List.length_map]; exact h)]
theorem gt_same {w : World} {base L0 : Nat} {E : List En} {fr : Bool} (h : SK w base L0 E fr) (key : Ks) : gtT (E.map nzE) key = (gtE E key).map nz := by
  have ht := sk_tok h
  obtain ⟨N, hs, rfl⟩ := h
  rw [gt_oneT ht]
  unfold skT
  rw [ge_drop _ _ (sla_e hs.2).2.2.1]
  unfold gtE
  by_cases hl : plK (keysE (ents N)) key < (ents N).length
  · rw [dif_pos hl, List.drop_eq_getElem_cons hl]
    simp only [List.map_cons, List.take_succ_cons]
    show (if ((ents N)[plK (keysE (ents N)) key]).1 = key then some (nz ((ents N)[plK (keysE (ents N)) key]).2) else none) = _
    by_cases hk : ((ents N)[plK (keysE (ents N)) key]).1 = key
    · rw [if_pos hk, if_pos hk]; rfl
    · rw [if_neg hk, if_neg hk]; rfl
  · rw [dif_neg hl, List.drop_eq_nil_of_le (by omega)]
    rfl
theorem sget_any {L0 : Nat} {E : List En} {fr : Bool} {w : World} {base : Nat} (hS : SK w base L0 E fr) (kv : Value) (key : Ks) (hR : Reads w kv key) :
    Calls Try.prog 14 #[.pointer (some ⟨L0, 0, none⟩), kv] w fun e w' => e = .returned (.tuple #[agv ((gtE E key).getD agZ), .bool (gtE E key).isSome]) ∧ Below w.heap.size w w' := by
  obtain ⟨N, h1, rfl⟩ := hS
  rw [← gtF_E]
  exact get_any L0 N _ fr kv key w base h1 hR
end Go.Proofs.Ytopemhlkjicjpaa
