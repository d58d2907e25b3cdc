/- B10 TL2 TN7, joined. -/
import Derived.Test.YtldifjfcgcmfiaaTD11
import Derived.Test.YtldifjfcgcmfiaaTD31
import Derived.Test.YtldifjfcgcmfiaaTD32
/- Many keys, and two filters side by side. -/
namespace Go.Proofs.Ytldifjfcgcmfiaa
open Go.RowKit

/-- Keys are added, one behind the other. -/
def adK (h : Nat) (D : List UInt8) (L : List (List UInt8)) : List UInt8 := L.foldl (fun E k => adF E (plc k (8 * D.length) h)) D
theorem fold_len (n h : Nat) (L : List (List UInt8)) : ∀ D : List UInt8, (L.foldl (fun E k => adF E (plc k n h)) D).length = D.length := by
  induction L with
  | nil => intro D; rfl
  | cons l L ih => intro D; rw [List.foldl_cons, ih, adF_len]
theorem adK_len (h : Nat) (D : List UInt8) (L : List (List UInt8)) : (adK h D L).length = D.length := fold_len _ _ _ _
theorem adK_snoc (h : Nat) (D : List UInt8) (L : List (List UInt8)) (l : List UInt8) : adK h D (L ++ [l]) = adF (adK h D L) (plc l (8 * (adK h D L).length) h) := by
  rw [adK_len]; unfold adK; rw [List.foldl_append]; rfl
theorem gb_fold (n h : Nat) (L : List (List UInt8)) : ∀ (D : List UInt8) (q : Nat), n = 8 * D.length → 0 < D.length → gb (L.foldl (fun E k => adF E (plc k n h)) D) q = (gb D q || L.any fun k => decide (q ∈ plc k n h)) := by
  induction L with
  | nil => intro D q _ _; simp
  | cons l L ih =>
    intro D q hn hd
    rw [List.foldl_cons, ih _ _ (by rw [adF_len]; exact hn) (by rw [adF_len]; exact hd), gb_adF _ _ _ (by rw [hn]; exact plc_in hd), List.any_cons, Bool.or_assoc]
theorem gb_adK (h : Nat) (D : List UInt8) (L : List (List UInt8)) (q : Nat) (hd : 0 < D.length) : gb (adK h D L) q = (gb D q || L.any fun k => decide (q ∈ plc k (8 * D.length) h)) := gb_fold _ _ _ _ _ rfl hd
theorem my_adK {h : Nat} {D : List UInt8} {L : List (List UInt8)} {l : List UInt8} (hd : 0 < D.length) (hl : l ∈ L) : myF (adK h D L) (plc l (8 * D.length) h) = true := by
  unfold myF
  rw [List.all_eq_true]
  intro q hq
  rw [gb_adK h D L q hd, List.any_eq_true.2 ⟨l, hl, by simpa using hq⟩, Bool.or_true]
theorem adK_same {h : Nat} {D : List UInt8} {L M : List (List UInt8)} (hd : 0 < D.length) (hLM : ∀ l, l ∈ L ↔ l ∈ M) : adK h D L = adK h D M := by
  apply gb_ext
  · rw [adK_len, adK_len]
  · intro q _
    rw [gb_adK h D L q hd, gb_adK h D M q hd]
    congr 1
    rw [Bool.eq_iff_iff, List.any_eq_true, List.any_eq_true]
    constructor
    · rintro ⟨l, hl, e⟩; exact ⟨l, (hLM l).1 hl, e⟩
    · rintro ⟨l, hl, e⟩; exact ⟨l, (hLM l).2 hl, e⟩
/-- A filter in memory, made since lo, and ahead of hi. -/
def FilIn (w : World) (lo hi : Nat) (v : Value) (h : Nat) (D : List UInt8) : Prop :=
  ∃ B g cap, v = .pointer (some ⟨B, 0, none⟩) ∧ lo ≤ B ∧ w.heap[B]? = some (.cells #[.int .i64 (h : Int), .slice (some ⟨g, 0, none⟩) D.length cap] 104) ∧ Own w lo (.slice (some ⟨g, 0, none⟩) D.length cap) D ∧ B ≠ g ∧ (1 ≤ h ∧ h ≤ 8 ∧ 0 < D.length ∧ D.length ≤ 8192) ∧ B < hi ∧ g < hi
theorem FilIn.fil {w : World} {lo hi : Nat} {v : Value} {h : Nat} {D : List UInt8} (hf : FilIn w lo hi v h D) : Fil w lo v h D := by
  obtain ⟨B, g, cap, h1, h2, h3, h4, h5, ⟨h6, h7, h8, h9⟩, _, _⟩ := hf
  exact ⟨B, g, cap, h1, h2, h3, h4, h5, h6, h7, h8, h9⟩
theorem Fil.in {w : World} {lo : Nat} {v : Value} {h : Nat} {D : List UInt8} (hf : Fil w lo v h D) : FilIn w lo w.heap.size v h D := by
  obtain ⟨B, g, cap, h1, h2, h3, h4, h5, h6, h7, h8, h9⟩ := hf
  exact ⟨B, g, cap, h1, h2, h3, h4, h5, ⟨h6, h7, h8, h9⟩, (Array.getElem?_eq_some_iff.1 h3).1, (World.ownsRow.lt h4 g rfl).2⟩
theorem FilIn.below {w w' : World} {lo hi : Nat} {v : Value} {h : Nat} {D : List UInt8} (hf : FilIn w lo hi v h D) (hb : Below hi w w') : FilIn w' lo hi v h D := by
  obtain ⟨B, g, cap, h1, h2, h3, h4, h5, h6, h7, h8⟩ := hf
  refine ⟨B, g, cap, h1, h2, (hb.block B h7).trans h3, ?_, h5, h6, h7, h8⟩
  obtain ⟨q1, q2⟩ := h4
  refine ⟨q1, ?_⟩
  rcases q2 with q2 | ⟨g', cap', cur, hv, hg, hw, r⟩
  · exact .inl q2
  · have : g = g' := by simp at hv; exact hv.1
    subst this
    exact .inr ⟨g, cap', cur, hv, hg, (hb.block g h8).trans hw, r⟩
theorem Fil.kx {A W : World} {base g : Nat} {v : Value} {h : Nat} {D : List UInt8} (hf : Fil A base v h D) (hk : Kx g A W) (hg : g < base) : Fil W base v h D := by
  obtain ⟨B, g', cap, h1, h2, h3, h4, h5⟩ := hf
  refine ⟨B, g', cap, h1, h2, hk _ _ _ _ (by omega) h3, ?_, h5⟩
  obtain ⟨q1, q2⟩ := h4
  refine ⟨q1, ?_⟩
  rcases q2 with q2 | ⟨g2, cap', cur, hv, hg2, hw, r⟩
  · exact .inl q2
  · exact .inr ⟨g2, cap', cur, hv, hg2, hk _ _ _ _ (by omega) hw, r⟩
theorem add_two (v kv : Value) (h : Nat) (D key : List UInt8) (w : World) (lo hi : Nat) (hlo : lo ≤ w.heap.size) (hF : FilIn w lo hi v h D) (hR : Reads w kv key) :
    Calls Try.prog 44 #[v, kv] w fun e W' => e = .returned (.int .i64 0) ∧ FilIn W' lo hi v h (adF D (plc key (8 * D.length) h)) ∧ (∀ vx hx Dx, Fil w hi vx hx Dx → Fil W' hi vx hx Dx) ∧ Below lo w W' := by
  refine (add_any_B v kv h D key w lo hlo hF.fil hR).mono ?_
  rintro e W' ⟨rfl, hf, hb, hk⟩
  obtain ⟨B, g, cap, rfl, h2, h3, h4, h5, h6, h7, h8⟩ := hF
  have hkx := hk B g _ cap _ rfl h3
  refine ⟨rfl, ?_, fun vx hx Dx hfx => hfx.kx hkx h8, hb⟩
  obtain ⟨B', g', cap', e1, f2, f3, f4, f5, f6, f7, f8, f9⟩ := hf
  cases e1
  have f10 := hkx _ _ _ _ h5 h3
  rw [f3] at f10
  simp at f10
  obtain ⟨rfl, _, rfl⟩ := f10
  exact ⟨B, g', cap', rfl, f2, f3, f4, f5, ⟨f6, f7, f8, f9⟩, h7, h8⟩
end Go.Proofs.Ytldifjfcgcmfiaa

/- law10: what an open table tells of its own, plainly. -/
namespace Go.Proofs.Ytldifjfcgcmfiaa
open Go.RowKit

theorem rmD_adK (n : Nat) (l : List Et) : rmD n l = adK 6 (List.replicate (rmN n) 0) (l.map (·.1)) := by
  unfold rmD adK
  rw [List.foldl_map, List.length_replicate]
theorem rm_len (n : Nat) (l : List Et) : (rmD n l).length = rmN n := rmD_len n l _ (by simp)
theorem my_own {l : List Et} (h : TOk l) {x : Et} (hx : x ∈ l) : tmyF l x.1 = true := by
  unfold tmyF
  rw [rm_len, rmD_adK]
  have := my_adK (h := 6) (D := List.replicate (rmN l.length) (0 : UInt8)) (L := l.map (·.1)) (l := x.1) (by rw [List.length_replicate]; exact (rmN_ok h.n).2.2.2.1) (List.mem_map_of_mem hx)
  rw [List.length_replicate] at this
  exact this
theorem ge_own {l : List Et} (h : TOk l) {i : Nat} (hi : i < l.length) : geF l[i].1 l = l.drop i := by
  have hs := List.pairwise_iff_getElem.1 h.s
  have h1 : geF l[i].1 (l.take i) = [] := by
    unfold geF
    rw [List.filter_eq_nil_iff]
    intro x hx
    obtain ⟨j, hj, rfl⟩ := List.getElem_of_mem hx
    rw [List.length_take] at hj
    simp only [decide_eq_true_eq, List.getElem_take]
    rw [cmp_ge, Decidable.not_not]
    have := hs j i (by rw [List.length_map]; omega) (by rw [List.length_map]; omega) (by omega)
    simpa using this
  have h2 : geF l[i].1 (l.drop i) = l.drop i := by
    unfold geF
    rw [List.filter_eq_self]
    intro x hx
    obtain ⟨j, hj, rfl⟩ := List.getElem_of_mem hx
    rw [List.length_drop] at hj
    simp only [decide_eq_true_eq, List.getElem_drop]
    rw [cmp_ge]
    intro hlt
    rcases Nat.eq_zero_or_pos j with h0 | h0
    · subst h0; exact ltK_irrefl _ hlt
    · have := hs i (i + j) (by rw [List.length_map]; omega) (by rw [List.length_map]; omega) (by omega)
      have this' : ltK l[i].1 l[i + j].1 := by simpa using this
      exact ltK_asymm this' hlt
  have h3 : l.take i ++ l.drop i = l := List.take_append_drop i l
  have h4 := geF_app l[i].1 (l.take i) (l.drop i)
  rw [h3, h1, h2, List.nil_append] at h4
  exact h4
theorem get_own {l : List Et} (h : TOk l) {i : Nat} (hi : i < l.length) : gtT l l[i].1 = some l[i].2 := by
  unfold gtT
  rw [my_own h (List.getElem_mem hi), if_neg (by simp)]
  unfold skT
  have e : (l.drop i).take 1 = [l[i]] := by rw [List.drop_eq_getElem_cons hi]; rfl
  rw [ge_own h hi, e]
  simp
theorem TRd.ag {w : World} {v : Value} {L : List Et} (h : TRd w v L) : ∀ x ∈ L, AgOk x.2 := by
  intro x hx
  obtain ⟨j, hj, rfl⟩ := List.getElem_of_mem hx
  obtain ⟨a, cap, _, _, _, h4⟩ := h
  obtain ⟨_, _, _, _, _, _, _, g⟩ := h4 j hj
  exact g
theorem twB_len {l : List Et} (h : twE l = 0) (hn : l.length ≤ 80) : (twB l).length ≤ 1000000 := by
  obtain ⟨h1, h2⟩ := twE_zero h
  have h3 := cat_bd 4848 (tRows l) (tRows_bd h1)
  rw [tRows_len] at h3
  have hk : tK l.length ≤ 5 := by unfold tK; omega
  have hr := (rmN_ok h1.n).2.2.1
  unfold twB
  rw [if_pos h]
  unfold tabL
  rw [cat_append]
  simp only [cat, List.append_nil, List.length_append, frm_len, rmB_len, tFoot_len]
  have := Nat.mul_le_mul_right (4848 + 8) hk
  omega
theorem twE_few {l : List Et} (h : twE l = 0) (hn : l.length ≤ 80 ∨ (4096 < l.length ∧ l.length ≤ 5000)) : l.length ≤ 80 := by
  have := (twE_zero h).1.n
  omega
end Go.Proofs.Ytldifjfcgcmfiaa

/- law10's alive. -/
namespace Go.Proofs.Ytldifjfcgcmfiaa
open Go.RowKit

theorem reads_97 (w : World) : Reads (w.alloc (.cells #[.int .u8 97] 5)) (.slice (some ⟨w.heap.size, 0, none⟩) 1 1) [97] :=
  .inr ⟨w.heap.size, 0, 1, rfl, by simp, by simp, by simp [maxLen], by simp, fun j hj => by
    have : j = 0 := by simp at hj; omega
    subst this
    exact cell_rw (heap_alloc_new w _) 0 (by simp)⟩
set_option maxRecDepth 100000 in
set_option maxHeartbeats 2000000 in
theorem alive10_any (w : World) : Calls Try.prog 8 #[] w fun e w' => e = .returned (.bool true) ∧ Below w.heap.size w w' := by
  go_enter Try.func8, Try.ntmps8
  go_wp2_with fail
  refine (twrite_nil w).mono ?_
  rintro e w1 ⟨v1, rfl, ho1, hb1⟩
  have HB1 : Hid (Below w.heap.size w w1) := hb1
  have hOp := topen_e42 v1 w1 ho1.reads
  obtain ⟨a1, c1, hv1, _⟩ := ho1.form
  subst hv1
  have e4 : (frm [] ++ frm [6, 0] ++ frm [0, 0, 0, 0, 0, 0, 0, 0, 0, 0, 0, 0, 0, 0, 0, 0]).length = 42 := e42_len
  rw [e4] at hOp ⊢
  have HOp : Hid (Calls Try.prog 10 #[.slice a1 42 c1] w1 _) := hOp
  clear ho1 hb1 hOp e4
  go_wp2_with fail
  refine HOp.out.mono ?_
  clear HOp
  rintro e w2 ⟨B, fv, rfl, hte, hb2⟩
  have HT2 : Hid (TE w2 B fv) := hte
  have HB2 : Hid (Below w.heap.size w w2) := HB1.out.trans (hb2.mono HB1.out.size)
  clear hte hb2
  go_wp2_with fail
  refine (topen_nil w2).mono ?_
  rintro e w3 ⟨rfl, hb3⟩
  have HB3 : Hid (Below w.heap.size w w3) := HB2.out.trans (hb3.mono HB2.out.size)
  have HT3 : Hid (TE w3 B fv) := HT2.out.below hb3
  clear hb3
  go_wp2_with fail
  refine (tlen_te HT3.out).mono ?_
  rintro e w4 ⟨rfl, rfl⟩
  obtain ⟨wm, hcv, hrm, hbl⟩ := run_mark (w := w4.alloc (.cells #[.int .u8 97] 5)) (g := w4.heap.size) (by unfold World.shape?; rw [heap_alloc_new]; rfl)
  have HBm : Hid (Below w4.heap.size w4 wm) := ((Below.refl _ _).alloc (Nat.le_refl _) _).trans (hbl _ (Nat.le_refl _))
  have HMy : Hid (Calls Try.prog 14 #[.pointer (some ⟨B, 0, none⟩), .slice (some ⟨w4.heap.size, 0, none⟩) 1 1] wm _) := tmay_te (HT3.out.below HBm.out) _ [97] ((reads_97 w4).rm hrm) my_a
  clear hrm hbl
  go_wp2_with fail
  refine HMy.out.mono ?_
  rintro e w5 ⟨rfl, hb5⟩
  have HB5 : Hid (Below w.heap.size w w5) := (HB3.out.trans (HBm.out.mono HB3.out.size)).trans (hb5.mono (Nat.le_trans HB3.out.size HBm.out.size))
  clear hb5 HMy
  go_wp2_with fail
  go_ret
  exact ⟨rfl, HB5.out⟩
end Go.Proofs.Ytldifjfcgcmfiaa
