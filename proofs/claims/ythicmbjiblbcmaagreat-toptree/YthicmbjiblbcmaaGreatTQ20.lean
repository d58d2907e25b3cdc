/- RT K10 K9 K11 CM, joined. -/
import Derived.Test.YthicmbjiblbcmaaGreatTQ7
import Derived.Test.YthicmbjiblbcmaaGreatTQ18
import Derived.Test.YthicmbjiblbcmaaGreatTQ19
/- Pieces of bytes that a slice reads. -/
namespace Go.Proofs.YthicmbjiblbcmaaGreat
open Go.RowKit

theorem Reads.take {w : World} {a : Option Addr} {cap : Nat} {l : List UInt8} (h : Reads w (.slice a l.length cap) l) {c : Nat} (hc : c ≤ l.length) : Reads w (.slice a c cap) (l.take c) := by
  rcases h with ⟨rfl, a', cap', hv, hn⟩ | ⟨b, off, cap', hv, h2, h3, h4, h5, h6⟩
  · have : c = 0 := by simpa using hc
    subst this
    simp at hv
    obtain ⟨rfl, rfl⟩ := hv
    exact .inl ⟨rfl, _, _, rfl, hn⟩
  · simp at hv
    obtain ⟨rfl, rfl⟩ := hv
    exact reads_take c hc h3 h4 h5 h6
theorem Reads.cap {w : World} {a : Option Addr} {n cap : Nat} {l : List UInt8} (h : Reads w (.slice a n cap) l) (h0 : 0 < l.length) : l.length ≤ cap := by
  rcases h with ⟨rfl, _⟩ | ⟨b, off, cap', hv, h2, h3, h4, h5, h6⟩
  · simp at h0
  · simp at hv; omega
theorem Reads.drop {w : World} {a : Option Addr} {cap : Nat} {l : List UInt8} (h : Reads w (.slice a l.length cap) l) {c : Nat} (hc : c ≤ l.length) (b off : Nat) (ha : a = some ⟨b, off, none⟩) :
    (c < cap → Reads w (.slice (some ⟨b, off + c, none⟩) (l.length - c) (cap - c)) (l.drop c)) ∧ (¬ c < cap → l.drop c = []) := by
  rcases h with ⟨rfl, a', cap', hv, hn⟩ | ⟨b', off', cap', hv, h2, h3, h4, h5, h6⟩
  · have : c = 0 := by simpa using hc
    subst this
    refine ⟨fun _ => .inl ⟨rfl, _, _, rfl, fun h => by cases h⟩, fun _ => rfl⟩
  · simp at hv
    obtain ⟨hv1, rfl⟩ := hv
    rw [ha] at hv1
    simp at hv1
    obtain ⟨rfl, rfl⟩ := hv1
    have hl : (l.drop c).length = l.length - c := by simp
    refine ⟨fun hcc => ?_, fun hcc => List.drop_eq_nil_of_le (by omega)⟩
    rcases Nat.eq_zero_or_pos (l.length - c) with h0 | h0
    · left; exact ⟨List.length_eq_zero_iff.1 (by omega), _, _, by rw [h0], fun h => by cases h⟩
    · right
      refine ⟨b, off + c, cap - c, by rw [hl], by omega, by omega, by omega, h5, fun j hj => ?_⟩
      rw [Nat.add_assoc, h6 (c + j) (by omega)]
      simp
theorem reads_nil {w : World} {a : Option Addr} {cap : Nat} (h : a = none → cap = 0) : Reads w (.slice a 0 cap) [] := .inl ⟨rfl, _, _, rfl, h⟩
end Go.Proofs.YthicmbjiblbcmaaGreat

/- The contract of key.parted. -/
namespace Go.Proofs.YthicmbjiblbcmaaGreat
open Go.RowKit

/-- The dimensions at bytes' front, so many more at most, and what stands behind the group. -/
def pdF : Nat → List UInt8 → List ByteArray → Option (List ByteArray × List UInt8)
  | 0, _, _ => none
  | _ + 1, [], _ => none
  | n + 1, x :: r, acc => if x.toNat = 0 then some (acc, r) else if x.toNat = 1 then (if (rtF r [] 0).2.2 = 0 then pdF n (r.drop (rtF r [] 0).2.1) (acc ++ [⟨(rtF r [] 0).1.toArray⟩]) else none) else none
def vlen : Value → Nat
  | .slice _ n _ => n
  | _ => 0
theorem txb_ge (l : List UInt8) : l.length ≤ (txb l).length := by
  induction l with
  | nil => simp
  | cons x l ih => simp only [txb, List.length_append, List.length_cons]; split <;> simp <;> omega
theorem rt_facts {l S : List UInt8} {N : Nat} (h : rtF l [] 0 = (S, N, 0)) : 2 ≤ N ∧ N ≤ l.length ∧ S.length ≤ N ∧ tx S = l.take N := by
  obtain ⟨s, c, h1, h2, h3, h4, h5⟩ := rtF_ok l.length l [] 0 S N (Nat.le_refl _) h
  have e : N = c := by omega
  subst e
  have e2 : S = s := by simpa using h4
  subst e2
  have h6 := congrArg List.length h5
  have h7 := txb_ge S
  unfold tx at h6
  simp at h6
  exact ⟨h2, h3, by omega, h5⟩
set_option maxRecDepth 100000 in
set_option maxHeartbeats 2000000 in
theorem parted_some (v : Value) (l : List UInt8) (hl : l.length ≤ 1000) (w : World) (h : Reads w v l) :
    Calls Tryz.prog 88 #[v] w fun e w' => (∃ D r vd vr, pdF 5 l [] = some (D, r) ∧ e = .returned (.tuple #[vd, vr, .bool true]) ∧ SOwn w' w.heap.size vd D ∧ Reads w' vr r ∧ Below w.heap.size w w') ∨ (pdF 5 l [] = none ∧ e = .returned (.tuple #[.slice none 0 0, .slice none 0 0, .bool false]) ∧ Below w.heap.size w w') := by
  go_enter Tryz.func88, Tryz.ntmps88
  go_wp2_with fail
  go_step3
  go_wp2_with fail
  go_step3
  go_wp2_with fail
  go_loopw [0, 5] (fun x y wr => ∃ (n : Nat) (r : List UInt8) (A : List ByteArray), n ≤ 5 ∧ Hid (A.length = 5 - n) ∧ r.length ≤ 1000 ∧ Hid (pdF 5 l [] = pdF n r A) ∧ Reads w x r ∧ SOwn wr w.heap.size y A ∧ Hid (Below w.heap.size w wr)) (fun _ y _ => 5 - vlen y)
  case atStart => exact ⟨5, l, [], by omega, rfl, hl, rfl, h, SOwn.nil _ _, Below.refl _ _⟩
  case round =>
    obtain ⟨n, r, A, hn, HAL, hrl, HP, HR, HO, HB⟩ := hrel
    obtain ⟨ax, cx, rfl, _⟩ := HR.form
    obtain ⟨ay, cy, rfl, _⟩ := HO.reads.form
    have HRr : Hid (Reads w (.slice ax r.length cx) r) := HR
    have HOo : Hid (SOwn wr w.heap.size (.slice ay A.length cy) A) := HO
    clear HR HO h
    have hAl := HAL.out
    by_cases h0 : r.length = 0
    · have hr : r = [] := List.length_eq_zero_iff.1 h0
      have HN : Hid (pdF 5 l [] = none) := by rw [HP.out, hr]; cases n <;> rfl
      have i0 : ¬ (0 : Int) < (r.length : Int) := by omega
      clear hAl hr
      go_wp2_with fail
      go_ret3
      exact .inr ⟨HN.out, rfl, HB.out⟩
    · by_cases hn0 : n = 0
      · have HN : Hid (pdF 5 l [] = none) := by rw [HP.out, hn0]; rfl
        have i0 : (0 : Int) < (r.length : Int) := by omega
        have i1 : ¬ (A.length : Int) ≤ 4 := by omega
        clear hAl hn0
        go_wp2_with fail
        go_ret3
        exact .inr ⟨HN.out, rfl, HB.out⟩
      · obtain ⟨m, rfl⟩ : ∃ m, n = m + 1 := ⟨n - 1, by omega⟩
        obtain ⟨x, r', rfl⟩ : ∃ x r', r = x :: r' := by cases r with
          | nil => simp at h0
          | cons x r' => exact ⟨x, r', rfl⟩
        obtain ⟨b, off, rfl, hbw, hc⟩ := HRr.out.at 0 (by simp)
        have hcell := (HB.out.cell (p := ⟨b, off + 0, none⟩) hbw).trans hc
        simp only [Nat.add_zero, List.getElem_cons_zero] at hcell
        unfold bc at hcell
        have hxb : x.toNat < 256 := x.toNat_lt
        have HP2 : Hid (pdF 5 l [] = if x.toNat = 0 then some (A, r') else if x.toNat = 1 then (if (rtF r' [] 0).2.2 = 0 then pdF m (r'.drop (rtF r' [] 0).2.1) (A ++ [⟨(rtF r' [] 0).1.toArray⟩]) else none) else none) := HP.out
        have hlr : (x :: r').length = r'.length + 1 := rfl
        have hrl2 : r'.length + 1 ≤ 1000 := hrl
        have HDC : Hid (∀ c, c ≤ r'.length + 1 → (c < cx → Reads w (.slice (some ⟨b, off + c, none⟩) (r'.length + 1 - c) (cx - c)) ((x :: r').drop c)) ∧ (¬ c < cx → (x :: r').drop c = [])) := fun c hc => HRr.out.drop (c := c) hc b off rfl
        have hcap := HRr.out.cap (by simp)
        rw [hlr] at hcap ⊢
        have i0 : (0 : Int) < (r'.length : Int) + 1 := by omega
        have i1 : (A.length : Int) ≤ 4 := by omega
        have i2 : (1 : Int) ≤ (cx : Int) := by omega
        have HD1 : Hid _ := HRr.out.drop (c := 1) (by simp) b off rfl
        clear hc h0 hn0 hAl HP hlr
        by_cases hx0 : x.toNat = 0
        · have j0 : ((x.toNat : Int) == 0) = true := by simpa using hx0
          have HN : Hid (pdF 5 l [] = some (A, r')) := by rw [HP2.out, if_pos hx0]; rfl
          clear HP2
          by_cases hc1 : (cx : Int) = 1
          · have HZ : Hid (r' = []) := by
              have := HD1.out.2 (by omega)
              unfold Hid; simpa using this
            clear hx0 HD1
            go_wp2_with fail
            go_quiet (fail)
            go_wp2_with fail
            rw [Exit.noGoto_ret]
            go_ret3
            refine .inl ⟨A, r', _, _, HN.out, rfl, HOo.out.below (below_drewN (Below.refl _ _) _), ?_, below_drewN HB.out _⟩
            have h0 := HZ.out
            subst h0
            exact reads_nil (fun h => by cases h)
          · have HRR : Hid (Reads w (.slice (some ⟨b, off + 1, none⟩) r'.length (cx - 1)) r') := HD1.out.1 (by omega)
            clear hx0 HD1
            go_wp2_with fail
            go_quiet (fail)
            go_wp2_with fail
            rw [Exit.noGoto_ret]
            go_ret3
            exact .inl ⟨A, r', _, _, HN.out, rfl, HOo.out.below (below_drewN (Below.refl _ _) _), HRR.out.below (below_drewN HB.out _), below_drewN HB.out _⟩
        · have j0 : ((x.toNat : Int) == 0) = false := by simpa using hx0
          by_cases hx1 : x.toNat = 1
          · have j1 : ((x.toNat : Int) == 1) = true := by simp; omega
            by_cases hc1 : (cx : Int) = 1
            · have HZ : Hid (r' = []) := by
                have := HD1.out.2 (by omega)
                unfold Hid; simpa using this
              have HN : Hid (pdF 5 l [] = none) := by
                rw [HP2.out, if_neg hx0, if_pos hx1, HZ.out]; rfl
              clear HP2 HD1 hx0 hx1
              go_wp2_with fail
              refine (readText_any _ r' (by omega) _ (by rw [HZ.out]; exact reads_nil (fun h => by cases h))).mono ?_
              rw [HZ.out, show rtF [] [] 0 = ([], 0, 10) from rfl]
              rintro e w1 ⟨rfl, hb1⟩
              have HB1 : Hid (Below w.heap.size w w1) := HB.out.trans (hb1.mono HB.out.size)
              clear hb1 hcell
              go_wp2_with fail
              rw [Exit.noGoto_ret]
              go_ret3
              exact .inr ⟨HN.out, rfl, HB1.out⟩
            · have HRR : Hid (Reads w (.slice (some ⟨b, off + 1, none⟩) r'.length (cx - 1)) r') := HD1.out.1 (by omega)
              have HP3 : Hid (pdF 5 l [] = if (rtF r' [] 0).2.2 = 0 then pdF m (r'.drop (rtF r' [] 0).2.1) (A ++ [⟨(rtF r' [] 0).1.toArray⟩]) else none) := by
                rw [HP2.out, if_neg hx0, if_pos hx1]; rfl
              clear HP2 HD1 hx0 hx1
              go_wp2_with fail
              refine (readText_any _ r' (by omega) _ (HRR.out.below HB.out)).mono ?_
              obtain ⟨q, hq⟩ := hid_ex (rtF r' [] 0)
              rw [← hq.out] at HP3 ⊢
              have HF : Hid (q.2.2 = 0 → 2 ≤ q.2.1 ∧ q.2.1 ≤ r'.length ∧ q.1.length ≤ q.2.1) := by
                intro h
                have := rt_facts (l := r') (S := q.1) (N := q.2.1) (by rw [← hq.out, ← h])
                exact ⟨this.1, this.2.1, this.2.2.1⟩
              obtain ⟨S, N, E⟩ := q
              simp only at HP3 HF ⊢
              rintro e w1 ⟨rfl, hb1⟩
              have HB1 : Hid (Below w.heap.size w w1) := HB.out.trans (hb1.mono HB.out.size)
              have HO1 : SOwn w1 w.heap.size (.slice ay A.length cy) A := HOo.out.below hb1
              clear hb1 hcell hq HOo HB
              by_cases hE : E = 0
              · subst hE
                obtain ⟨f1, f2, f3⟩ := HF.out rfl
                have HP4 : Hid (pdF 5 l [] = pdF m (r'.drop N) (A ++ [⟨S.toArray⟩])) := by rw [HP3.out, if_pos rfl]; rfl
                obtain ⟨A1, HA1⟩ := hid_ex (A ++ [(⟨S.toArray⟩ : ByteArray)])
                have hys : (⟨S.toArray⟩ : ByteArray).size ≤ maxLen := by unfold maxLen; show S.toArray.size ≤ _; simp; omega
                have hs1 := HB1.out.size
                clear HP3 HF
                go_wp2_with (at_builtin; refine wpList_sapp1 rfl _ _ rfl w.heap.size _ A A1 HA1.out hys rfl rfl HO1 (by omega) hs1 ?_)
                intro v2 w2 HO2 hb2
                have HB2 : Hid (Below w.heap.size w w2) := HB1.out.trans hb2.out
                obtain ⟨a2, c2, rfl, _⟩ := HO2.reads.form
                have HA1l : Hid (A1.length = A.length + 1) := by rw [HA1.out]; simp [Hid]
                clear hb2 HO1 HB1 hs1
                have k1 : 1 + (N : Int) ≤ (r'.length : Int) + 1 := by omega
                have k2 : 1 + (N : Int) ≤ (cx : Int) := by omega
                have hdN : (x :: r').drop (1 + N) = r'.drop N := by rw [Nat.add_comm]; rfl
                have HDN : Hid _ := HDC.out (1 + N) (by omega)
                rw [hdN] at HDN
                have HLN : Hid ((r'.drop N).length ≤ 1000) := by unfold Hid; simp; omega
                have HAL2 : Hid (A1.length = 5 - m) := by have := HAL.out; have := HA1l.out; unfold Hid; omega
                rw [← HA1.out] at HP4
                by_cases hc2 : (cx : Int) = 1 + (N : Int)
                · have HZ : Hid (r'.drop N = []) := HDN.out.2 (by omega)
                  have HRN : Reads w (.slice (some ⟨b, off, none⟩) (r'.length + 1 - (1 + N)) (cx - (1 + N))) (r'.drop N) := by
                    rw [HZ.out]
                    have : r'.length + 1 - (1 + N) = 0 := by
                      have := congrArg List.length HZ.out
                      simp at this; omega
                    rw [this]
                    exact reads_nil (fun h => by cases h)
                  clear HDN hdN HZ
                  go_wp2_with fail
                  go_roundw
                  case rel => exact ⟨m, r'.drop N, A1, by omega, HAL2, HLN.out, HP4, HRN, HO2, HB2⟩
                  case measure =>
                    have := HA1l.out; have := HAL.out
                    simp [vlen]; omega
                · have HRN : Reads w (.slice (some ⟨b, off + (1 + N), none⟩) (r'.length + 1 - (1 + N)) (cx - (1 + N))) (r'.drop N) := HDN.out.1 (by omega)
                  clear HDN hdN
                  go_wp2_with fail
                  go_roundw
                  case rel => exact ⟨m, r'.drop N, A1, by omega, HAL2, HLN.out, HP4, HRN, HO2, HB2⟩
                  case measure =>
                    have := HA1l.out; have := HAL.out
                    simp [vlen]; omega
              · have HN : Hid (pdF 5 l [] = none) := by rw [HP3.out, if_neg hE]; rfl
                have jE : (E == 0) = false := by simpa using hE
                clear HP3 HF hE
                go_wp2_with fail
                rw [Exit.noGoto_ret]
                go_ret3
                exact .inr ⟨HN.out, rfl, HB1.out⟩
          · have j1 : ((x.toNat : Int) == 1) = false := by simp; omega
            have HN : Hid (pdF 5 l [] = none) := by rw [HP2.out, if_neg hx0, if_neg hx1]; rfl
            clear HP2 HD1 hx0 hx1
            go_wp2_with fail
            rw [Exit.noGoto_ret]
            go_ret3
            exact .inr ⟨HN.out, rfl, HB.out⟩
end Go.Proofs.YthicmbjiblbcmaaGreat

/- Keys' bytes stand as the keys do: no program in sight. -/
namespace Go.Proofs.YthicmbjiblbcmaaGreat

theorem right_facts {L : List ByteArray} {f g : Int} (h : rightBK L f g = true) : mayB L = true ∧ 0 ≤ f ∧ f ≤ 1099511627776 ∧ 0 ≤ g ∧ g ≤ 3 := by
  unfold rightBK at h
  obtain ⟨h1, h2⟩ := Bool.and_eq_true_iff.1 h
  exact ⟨h1, of_decide_eq_true h2⟩
theorem kb_form (L : List ByteArray) (f g : Int) : kb L f g = jb L ++ 0 :: (nb f ++ [UInt8.ofNat g.toNat]) := by
  unfold kb jn; simp
theorem kb_len (L : List ByteArray) (f g : Int) : (kb L f g).length = (jn L).length + 9 := by unfold kb; simp [nb_len]
end Go.Proofs.YthicmbjiblbcmaaGreat

/- The contract of key.Read. -/
namespace Go.Proofs.YthicmbjiblbcmaaGreat
open Go.RowKit

/-- What Read tells. -/
def rdF (l : List UInt8) : Option (List ByteArray × Int × Int) :=
  match pdF 5 l [] with
  | none => none
  | some (D, r) => if r.length = 9 then (if rightBK D (rnF r).1 ((r.getD 8 0).toNat : Int) = true then some (D, (rnF r).1, ((r.getD 8 0).toNat : Int)) else none) else none
theorem rdF_none {l : List UInt8} (h : pdF 5 l [] = none) : rdF l = none := by unfold rdF; rw [h]
theorem rdF_some {l r : List UInt8} {D : List ByteArray} (h : pdF 5 l [] = some (D, r)) : rdF l = if r.length = 9 then (if rightBK D (rnF r).1 ((r.getD 8 0).toNat : Int) = true then some (D, (rnF r).1, ((r.getD 8 0).toNat : Int)) else none) else none := by unfold rdF; rw [h]
theorem kfro {w w' : World} {x y z : Value} {t : TypeId} (h : Below (w.heap.size + 1) (w.alloc (.cells #[x, y, z] t)) w') : w'.frozen? ⟨w.heap.size, 0, none⟩ = false ∧ w'.frozen? ⟨w.heap.size, 1, none⟩ = false ∧ w'.frozen? ⟨w.heap.size, 2, none⟩ = false := by
  refine ⟨(h.frozen (p := ⟨w.heap.size, 0, none⟩) (by simp)).trans (by simp), (h.frozen (p := ⟨w.heap.size, 1, none⟩) (by simp)).trans (by simp), (h.frozen (p := ⟨w.heap.size, 2, none⟩) (by simp)).trans (by simp)⟩
theorem set3_below {B : Nat} {w w' : World} {b : Nat} {x y z : Value} (h : Below B w w') (hb : B ≤ b) : Below B w (((w'.setCell ⟨b, 0, none⟩ x).setCell ⟨b, 1, none⟩ y).setCell ⟨b, 2, none⟩ z) := ((h.setCell hb x).setCell hb y).setCell hb z
theorem SReads.set {w : World} {v : Value} {L : List ByteArray} {b o : Nat} {x : Value} (h : SReads w v L) (hb : ∀ k, v.ownBlock = some k → b < k) : SReads (w.setCell ⟨b, o, none⟩ x) v L := by
  rcases h with h | ⟨b', off, cap, h1, h2, h3, h4, h5, h6, h7⟩
  · exact .inl h
  · have hlt := hb b' (by rw [h1]; rfl)
    refine .inr ⟨b', off, cap, h1, h2, h3, h4, by simpa using h5, fun j hj => ?_, h7⟩
    exact (World.cell?_of_block (w := w) (w' := w.setCell ⟨b, o, none⟩ x) (a := ⟨b', off + j, none⟩) (Below.heap_setCell w ⟨b, o, none⟩ x b' (by simp; omega))).trans (h6 j hj)
theorem rnF9 {r : List UInt8} (h : r.length = 9) : (rnF r).2.1 = 8 ∧ (rnF r).2.2 = 0 ∧ -9223372036854775808 ≤ (rnF r).1 ∧ (rnF r).1 ≤ 9223372036854775807 := by
  unfold rnF
  rw [if_neg (by omega)]
  have hb := beval8 ((r.take 8).map fun x => (x.toNat : Int)) (by simp; omega) (by
    intro x hx
    obtain ⟨y, _, rfl⟩ := List.mem_map.1 hx
    have := y.toNat_lt
    omega)
  refine ⟨rfl, rfl, ?_, ?_⟩ <;> simp only <;> omega
set_option maxRecDepth 100000 in
set_option maxHeartbeats 2000000 in
theorem read_own (v : Value) (l : List UInt8) (hl : l.length ≤ 1000) (w : World) (h : Reads w v l) :
    Calls Tryz.prog 59 #[v] w fun e w' => (∃ D f g vd, rdF l = some (D, f, g) ∧ e = .returned (.tuple #[.agg #[vd, .int .i64 f, .int .i64 g], .int .i64 0]) ∧ KLies ⟨vd, D, f, g⟩ w' ∧ (∀ k, vd.ownBlock = some k → w.heap.size < k) ∧ Below w.heap.size w w') ∨ (rdF l = none ∧ e = .returned (.tuple #[.agg #[.slice none 0 0, .int .i64 0, .int .i64 0], .int .i64 40]) ∧ Below w.heap.size w w') := by
  obtain ⟨a, cap, rfl, _⟩ := h.form
  have HR0 := h.alloc (.cells #[.slice none 0 0, .int .i64 0, .int .i64 0] 73)
  have HX0 : Hid (Below (w.heap.size + 1) (w.alloc (.cells #[.slice none 0 0, .int .i64 0, .int .i64 0] 73)) (w.alloc (.cells #[.slice none 0 0, .int .i64 0, .int .i64 0] 73))) := Below.refl _ _
  clear h
  go_enter Tryz.func59, Tryz.ntmps59
  go_wp2_with fail
  refine (parted_some _ l hl _ HR0).mono ?_
  rintro e w1 (⟨D, r, vd, vr, hp, rfl, HO1, HR1, hb1⟩ | ⟨hp, rfl, hb1⟩)
  · have HX1 : Hid (Below (w.heap.size + 1) (w.alloc (.cells #[.slice none 0 0, .int .i64 0, .int .i64 0] 73)) w1) := hb1.mono (by simp)
    have HS1 : Hid (w.heap.size + 1 ≤ w1.heap.size) := by have := hb1.size; unfold Hid; simpa using this
    obtain ⟨ad, cd, rfl, _⟩ := HO1.reads.form
    obtain ⟨ar, cr, rfl, hrm⟩ := HR1.form
    unfold maxLen at hrm
    have HSR : Hid (SReads w1 (.slice ad D.length cd) D) := HO1.reads
    have HGB : Hid (∀ k, (Value.slice ad D.length cd).ownBlock = some k → w.heap.size < k) := fun k hk => by have := own_block HO1.1 k hk; simp at this; omega
    have HRR : Hid (Reads w1 (.slice ar r.length cr) r) := HR1
    have HF : Hid _ := rdF_some hp
    obtain ⟨k0, k1, k2⟩ := kbox HX1.out
    obtain ⟨z0, z1, z2⟩ := kfro HX1.out
    clear hb1 HX0 HR0 hp HO1 HR1
    by_cases h9 : r.length = 9
    · have j9 : ((r.length : Int) != 9) = false := by simp; omega
      have HF2 : Hid (rdF l = if rightBK D (rnF r).1 ((r.getD 8 0).toNat : Int) = true then some (D, (rnF r).1, ((r.getD 8 0).toNat : Int)) else none) := by rw [HF.out, if_pos h9]; rfl
      obtain ⟨q1, q2, q3, q4⟩ := rnF9 h9
      obtain ⟨b, off, rfl, hbw, hc8⟩ := HRR.out.at 8 (by omega)
      have HQ : Hid ((r.getD 8 0).toNat = (r[8]'(by omega)).toNat) := by simp [Hid, List.getD, h9]
      obtain ⟨y, HY⟩ := hid_ex (r[8]'(by omega))
      rw [← HY.out] at hc8 HQ
      rw [HQ.out] at HF2
      unfold bc at hc8
      have hyb : y.toNat < 256 := y.toNat_lt
      have i8 : (8 : Int) < (r.length : Int) := by omega
      clear HY HQ HF h9
      go_wp2_with fail
      refine (readNumber_any _ r _ HRR.out).mono ?_
      rw [q1, q2]
      rintro e w2 ⟨rfl, hb2⟩
      generalize (rnF r).1 = F at *
      have HX2 : Hid (Below (w.heap.size + 1) (w.alloc (.cells #[.slice none 0 0, .int .i64 0, .int .i64 0] 73)) w2) := HX1.out.trans (hb2.mono HS1.out)
      have HS2 : Hid (w.heap.size + 1 ≤ w2.heap.size) := Nat.le_trans HS1.out hb2.size
      have HSR2 : Hid (SReads w2 (.slice ad D.length cd) D) := HSR.out.below hb2
      have hc2 := (hb2.cell (p := ⟨b, off + 8, none⟩) hbw).trans hc8
      clear hb2 hc8 hbw HX1 HS1 HSR HRR k0 k1 k2 z0 z1 z2
      go_wp2_with fail
      have HK2 : KLies ⟨.slice ad D.length cd, D, F, (y.toNat : Int)⟩ (w2.alloc (.cells #[.slice ad D.length cd, .int .i64 F, .int .i64 (y.toNat : Int)] 73)) :=
        ⟨HSR2.out.below ((Below.refl _ _).alloc (Nat.le_refl _) _), q3, q4, by show (-9223372036854775808 : Int) ≤ (y.toNat : Int); omega, by show (y.toNat : Int) ≤ 9223372036854775807; omega⟩
      refine (right_anyK ⟨.slice ad D.length cd, D, F, (y.toNat : Int)⟩ _ HK2).mono ?_
      simp only
      rintro e w3 ⟨rfl, hb3⟩
      have HY3 : Hid (Below (w2.heap.size + 1) (w2.alloc (.cells #[.slice ad D.length cd, .int .i64 F, .int .i64 (y.toNat : Int)] 73)) w3) := hb3.mono (by simp)
      have HX3 : Hid (Below (w.heap.size + 1) (w.alloc (.cells #[.slice none 0 0, .int .i64 0, .int .i64 0] 73)) w3) := HX2.out.trans (((Below.refl _ _).alloc HS2.out _).trans (hb3.mono (by have := HS2.out; simp; omega)))
      have HK3 : Hid (KLies ⟨.slice ad D.length cd, D, F, (y.toNat : Int)⟩ w3) := HK2.below hb3
      obtain ⟨k0, k1, k2⟩ := kbox HX3.out
      obtain ⟨z0, z1, z2⟩ := kfro HX3.out
      obtain ⟨y0, y1, y2⟩ := kbox HY3.out
      have hne : ¬ w2.heap.size = w.heap.size := by have := HS2.out; omega
      clear hb3 HK2 HY3 hc2
      cases hrt : rightBK D F (y.toNat : Int) with
      | true =>
        have HN : Hid (rdF l = some (D, F, (y.toNat : Int))) := by rw [HF2.out, hrt]; rfl
        clear hrt HF2
        go_wp2_with fail
        refine bodyPost_ret (v := .tuple #[.agg #[.slice ad D.length cd, .int .i64 F, .int .i64 (y.toNat : Int)], .int .i64 0]) (by simp [results, Tryz.results59, go_sem, k0, k1, k2]) rfl (.inl ⟨D, F, (y.toNat : Int), _, HN.out, rfl, ?_, HGB.out, set3_below (box_below HX3.out) (Nat.le_refl _)⟩)
        exact ⟨((HK3.out.r.set HGB.out).set HGB.out).set HGB.out, HK3.out.f1, HK3.out.f2, HK3.out.g1, HK3.out.g2⟩
      | false =>
        have HN : Hid (rdF l = none) := by rw [HF2.out, hrt]; rfl
        clear hrt HF2 y0 y1 y2
        go_wp2_with fail
        refine bodyPost_ret (v := .tuple #[.agg #[.slice none 0 0, .int .i64 0, .int .i64 0], .int .i64 40]) (by simp [results, Tryz.results59, go_sem, k0, k1, k2]) rfl (.inr ⟨HN.out, rfl, set3_below (box_below HX3.out) (Nat.le_refl _)⟩)
    · have j9 : ((r.length : Int) != 9) = true := by simp; omega
      have HN : Hid (rdF l = none) := by rw [HF.out, if_neg h9]; rfl
      clear HF h9
      go_wp2_with fail
      refine bodyPost_ret (v := .tuple #[.agg #[.slice none 0 0, .int .i64 0, .int .i64 0], .int .i64 40]) (by simp [results, Tryz.results59, go_sem, k0, k1, k2]) rfl (.inr ⟨HN.out, rfl, set3_below (box_below HX1.out) (Nat.le_refl _)⟩)
  · have HN : Hid (rdF l = none) := rdF_none hp
    have HX1 : Hid (Below (w.heap.size + 1) (w.alloc (.cells #[.slice none 0 0, .int .i64 0, .int .i64 0] 73)) w1) := hb1.mono (by simp)
    obtain ⟨k0, k1, k2⟩ := kbox HX1.out
    obtain ⟨z0, z1, z2⟩ := kfro HX1.out
    clear hb1 HX0 HR0 hp
    go_wp2_with fail
    refine bodyPost_ret (v := .tuple #[.agg #[.slice none 0 0, .int .i64 0, .int .i64 0], .int .i64 40]) (by simp [results, Tryz.results59, go_sem, k0, k1, k2]) rfl (.inr ⟨HN.out, rfl, set3_below (box_below HX1.out) (Nat.le_refl _)⟩)
end Go.Proofs.YthicmbjiblbcmaaGreat

/- Texts and numbers go there and back: no program in sight. -/
namespace Go.Proofs.YthicmbjiblbcmaaGreat

theorem rtF_step {x : UInt8} (t acc : List UInt8) (i : Nat) (hx : ¬ x.toNat = 0) (ht : t ≠ []) : rtF (x :: t) acc i = rtF t (acc ++ [x]) (i + 1) := by
  cases t with
  | nil => exact absurd rfl ht
  | cons y t => rw [rtF_cons2, if_neg hx]
theorem rtF_tx (s : List UInt8) : ∀ (m acc : List UInt8) i, rtF (txb s ++ 0 :: 1 :: m) acc i = (acc ++ s, i + (tx s).length, 0) := by
  induction s with
  | nil =>
    intro m acc i
    show rtF (0 :: 1 :: m) acc i = _
    rw [rtF_cons2, if_pos (by decide), if_neg (by decide), if_pos (by decide)]
    simp [tx, txb]
  | cons x s ih =>
    intro m acc i
    have hlen : (tx (x :: s)).length = (if x.toNat = 0 then 2 else 1) + (tx s).length := by
      unfold tx
      by_cases hx : x.toNat = 0
      · rw [txb_cons0 s hx, if_pos hx]; simp; omega
      · rw [txb_cons1 s hx, if_neg hx]; simp; omega
    by_cases hx : x.toNat = 0
    · rw [hlen, if_pos hx, txb_cons0 s hx]
      have ex : x = 0 := by rw [← u8_of hx]; rfl
      show rtF (0 :: 255 :: (txb s ++ 0 :: 1 :: m)) acc i = _
      rw [rtF_cons2, if_pos (by decide), if_pos (by decide), ih, ex]
      simp; omega
    · rw [hlen, if_neg hx, txb_cons1 s hx]
      show rtF (x :: (txb s ++ 0 :: 1 :: m)) acc i = _
      rw [rtF_step _ _ _ hx (by simp), ih]
      simp; omega
theorem foldl_bv (l : List UInt8) : ∀ p : Int, (l.map fun x => (x.toNat : Int)).foldl (fun n x => n * 256 + x) p = p * 256 ^ l.length + (bv l : Int) := by
  induction l with
  | nil => intro p; simp [bv]
  | cons x l ih =>
    intro p
    simp only [List.map_cons, List.foldl_cons]
    rw [ih]
    simp only [bv, List.length_cons]
    have e1 : (((x.toNat * 256 ^ l.length + bv l : Nat)) : Int) = (x.toNat : Int) * 256 ^ l.length + (bv l : Int) := by
      rw [Int.natCast_add, Int.natCast_mul, Int.natCast_pow]; rfl
    rw [e1, Int.pow_succ, Int.add_mul, Int.mul_assoc, Int.mul_comm 256 (256 ^ l.length)]
    omega
theorem rnF_nb (n : Int) (h1 : -9223372036854775808 ≤ n) (h2 : n ≤ 9223372036854775807) (m : List UInt8) : rnF (nb n ++ m) = (n, 8, 0) := by
  have hl := nb_len n
  unfold rnF
  rw [if_neg (by simp; omega)]
  have ht : (nb n ++ m).take 8 = nb n := by rw [List.take_append_of_le_length (by omega), List.take_of_length_le (by omega)]
  rw [ht]
  have hb := foldl_bv (nb n) 0
  have e : beval ((nb n).map fun x => (x.toNat : Int)) = (bv (nb n) : Int) := by
    unfold beval; rw [hb]; simp
  rw [e, bv_nb n h1 h2]
  congr 1
  omega
end Go.Proofs.YthicmbjiblbcmaaGreat
