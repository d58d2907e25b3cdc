/- WS2 WIc WNm WS3 WS4, joined. -/
import Derived.Test.YtahigmjpeicemaaGreatDoorNA11
import Derived.Test.YtahigmjpeicemaaGreatDoorNA12
import Derived.Shelf.Small.Wraps
import Derived.Test.YtahigmjpeicemaaGreatDoorRows
import Derived.Lib.AtoiErrMem
/- wal: Start; Read of nothing; law12's alive. -/
namespace Go.Proofs.YtahigmjpeicemaaGreatDoor
open Go.RowKit Go.Shelf

def seg : List UInt8 := [119, 97, 108, 45]
/-- What Start answers, and what it leaves. -/
def stF (s : SfS) (n : Int) : Int × SfS :=
  if isNo n = false then (1, s) else if (sfCreate s (nmF seg n)).1 = 0 then sfSyncDir (sfCreate s (nmF seg n)).2 else sfCreate s (nmF seg n)
/-- A log in memory. -/
def LgAt (w : World) (g : Nat) (p : Value) (nm : List UInt8) : Prop := w.heap[g]? = some (.cells #[p, .string ⟨nm.toArray⟩] 79)
def StPost (w : World) (O : Nat → Prop) (p : Value) (s : SfS) (n : Int) (e : Ending) (w' : World) : Prop :=
  ∃ lv O', e = .returned (.tuple #[lv, .int .i64 (stF s n).1]) ∧ Fs w' O' p (stF s n).2 ∧ (∀ k, O' k → Grw O w w' k) ∧ Onl O w w' ∧
    (((stF s n).1 ≠ 0 ∧ lv = .pointer none) ∨ ((stF s n).1 = 0 ∧ ∃ g, lv = .pointer (some ⟨g, 0, none⟩) ∧ LgAt w' g p (nmF seg n) ∧ ¬ O' g ∧ w.heap.size ≤ g))
theorem nm_len {n : Int} : (nmF seg n).length ≤ 17 := by
  by_cases h : 1 ≤ n ∧ n ≤ 1099511627776
  · rw [nmF_yes h.1 h.2, List.length_append]
    have := dec_len (n := n.toNat) (by omega)
    have : seg.length = 4 := rfl
    omega
  · rw [nmF_no h]; simp
theorem Tb.below {w w' : World} (h : Tb w) (hb : Below w.heap.size w w') : Tb w' := by
  unfold Tb Lib.TabIs World.var? at *
  cases hg : Tryz.prog.globalNamed "internal/strconv.uint64pow10" with
  | none => rw [hg] at h; simp at h
  | some g =>
    rw [hg] at h
    simp only [Option.bind_some] at h ⊢
    cases hh : w.heap[g]? with
    | none => rw [hh] at h; simp at h
    | some o => rw [hb.block g (Array.getElem?_eq_some_iff.1 hh).1]; exact h
set_option maxRecDepth 100000 in
set_option maxHeartbeats 1000000 in
theorem start_any {w : World} {O : Nat → Prop} {p : Value} {s : SfS} (h : Fs w O p s) (n : Int) (hpn : s.pend.length < 1099511627775) (hT : n < 100 ∨ Tb w) :
    Calls Tryz.prog 13 #[p, .int .i64 n] w (StPost w O p s n) := by
  obtain ⟨g0, rfl⟩ := h.ptr
  have HFs : Hid (Fs w O (.pointer (some ⟨g0, 0, none⟩)) s) := h
  have HT : Hid (n < 100 ∨ Tb w) := hT
  clear h hT
  cases hq : isNo n with
  | false =>
    have HS : Hid (stF s n = (1, s)) := by unfold Hid stF; rw [if_pos hq]
    go_enter Tryz.func13, Tryz.ntmps13
    go_wp2_with fail
    refine (isNumber_any n w).mono ?_
    rintro e w1 ⟨rfl, hw⟩
    subst w1
    rw [hq]
    go_wp2_with fail
    go_ret2
    refine ⟨_, O, by rw [HS.out]; rfl, by rw [HS.out]; exact HFs.out, fun k hk => .inl hk, Onl.refl _ _, .inl ⟨by rw [HS.out]; simp, rfl⟩⟩
  | true =>
    have HN : Hid (isNo n = true) := hq
    clear hq
    obtain ⟨NM, HNM⟩ := hid_ex (nmF seg n)
    have HNl : Hid (NM.length ≤ 17) := by rw [HNM.out]; exact nm_len
    have HS0 : Hid (stF s n = if (sfCreate s NM).1 = 0 then sfSyncDir (sfCreate s NM).2 else sfCreate s NM) := by unfold Hid stF; rw [HN.out, HNM.out]; rfl
    go_enter Tryz.func13, Tryz.ntmps13
    go_wp2_with fail
    refine (isNumber_any n w).mono ?_
    rintro e w1 ⟨rfl, hw⟩
    subst w1
    rw [HN.out]
    go_wp2_with fail
    refine (name_any seg (by decide) n w HT.out).mono ?_
    rintro e w1 ⟨rfl, hb1⟩
    rw [← HNM.out]
    have HF1 : Hid (Fs w1 O (.pointer (some ⟨g0, 0, none⟩)) s) := HFs.out.below hb1
    have HB1 : Hid (Below w.heap.size w w1) := hb1
    clear hb1
    go_wp2_with fail
    refine (HF1.out.create NM (by have := HNl.out; unfold maxLen; omega) (by omega)).mono ?_
    rintro e w2 ⟨rfl, hf2, ho2⟩
    have HF2 : Hid (Fs w2 (Grw O w1 w2) (.pointer (some ⟨g0, 0, none⟩)) (sfCreate s NM).2) := hf2
    have HO2 : Hid (Onl O w w2) := (onl_of_below HB1.out).trans (ho2.mono fun k hk => .inl hk)
    have HG2 : Hid (∀ k, Grw O w1 w2 k → Grw O w w2 k) := fun k hk => by
      rcases hk with hk | hk
      · exact .inl hk
      · exact .inr ⟨Nat.le_trans HB1.out.size hk.1, hk.2⟩
    clear hf2 ho2 HF1
    rcases hc : sfCreate s NM with ⟨c1, c2⟩
    rw [hc] at HS0 HF2
    simp only at HS0 HF2 ⊢
    by_cases hz : c1 = 0
    · subst hz
      rw [if_pos rfl] at HS0
      go_wp2_with fail
      refine HF2.out.syncDir.mono ?_
      rintro e w3 ⟨rfl, hf3, ho3⟩
      have HF3 : Hid (Fs w3 (Grw (Grw O w1 w2) w2 w3) (.pointer (some ⟨g0, 0, none⟩)) (sfSyncDir c2).2) := hf3
      have HO3 : Hid (Onl O w w3) := HO2.out.trans (ho3.mono HG2.out)
      have HG3 : Hid (∀ k, Grw (Grw O w1 w2) w2 w3 k → Grw O w w3 k) := fun k hk => by
        rcases hk with hk | hk
        · exact (Grw.trans HO2.out.size ho3.size) k (.inl (HG2.out k hk))
        · exact .inr ⟨Nat.le_trans HO2.out.size hk.1, hk.2⟩
      clear hf3 ho3 HF2
      rcases hd : sfSyncDir c2 with ⟨d1, d2⟩
      rw [hd] at HS0 HF3
      simp only at HS0 HF3 ⊢
      by_cases hy : d1 = 0
      · subst hy
        go_wp2_with fail
        go_ret2
        refine ⟨_, Grw (Grw O w1 w2) w2 w3, by rw [HS0.out]; rfl, ?_, ?_, ?_, .inr ⟨by rw [HS0.out], w3.heap.size, rfl, ?_, ?_, ?_⟩⟩
        · rw [HS0.out]; exact HF3.out.below ((Below.refl _ _).alloc (Nat.le_refl _) _)
        · intro k hk
          rcases HG3.out k hk with h | h
          · exact .inl h
          · exact .inr ⟨h.1, by have := h.2; simp; omega⟩
        · exact HO3.out.then (Onl.alloc _)
        · rw [← HNM.out]; exact World.alloc_heap_new _ _
        · intro hk; exact absurd (HF3.out.lt _ hk) (Nat.lt_irrefl _)
        · exact HO3.out.size
      · have hy' : (d1 != 0) = true := by simpa using hy
        go_wp2_with fail
        go_ret2
        exact ⟨_, Grw (Grw O w1 w2) w2 w3, by rw [HS0.out]; rfl, by rw [HS0.out]; exact HF3.out, HG3.out, HO3.out, .inl ⟨by rw [HS0.out]; exact hy, rfl⟩⟩
    · rw [if_neg hz] at HS0
      have hz' : (c1 != 0) = true := by simpa using hz
      go_wp2_with fail
      go_ret2
      exact ⟨_, Grw O w1 w2, by rw [HS0.out]; rfl, by rw [HS0.out]; exact HF2.out, HG2.out, HO2.out, .inl ⟨by rw [HS0.out]; exact hz, rfl⟩⟩
end Go.Proofs.YtahigmjpeicemaaGreatDoor

/- strings.CutPrefix at this program (written by mkwic.py, for one seat). -/
namespace Go.Proofs.YtahigmjpeicemaaGreatDoor
open Go.Shelf Go.RowKit Go.Lib

def witC_ren : Go.Shelf.Ren := ⟨fun | 103 => 30 | 210 => 66 | 206 => 94 | n => n, fun | 9 => 9 | 4 => 4 | 24 => 65 | 3 => 3 | n => n, fun | n => n⟩
theorem witC : Go.Proofs.Lays.n103 Tryz.prog witC_ren := {
  mixed := by kernel_rfl
  f103 := Tryz.func30.trans (congrArg some (by kernel_rfl))
  f206 := Tryz.func94.trans (congrArg some (by kernel_rfl))
  f210 := Tryz.func66.trans (congrArg some (by kernel_rfl))
  t3 := Tryz.underlying3
  a3 := Tryz.isAgg3
  z3 := Tryz.sizeOf3
  v3 := Tryz.zeroValue3
  t4 := Tryz.underlying4
  a4 := Tryz.isAgg4
  z4 := Tryz.sizeOf4
  v4 := Tryz.zeroValue4
  t9 := Tryz.underlying9
  a9 := Tryz.isAgg9
  z9 := Tryz.sizeOf9
  v9 := Tryz.zeroValue9
  t24 := Tryz.underlying65
  a24 := Tryz.isAgg65
  z24 := Tryz.sizeOf65
  v24 := Tryz.zeroValue65 }
theorem cutP_any (s p : ByteArray) (w : World) :
    Calls Tryz.prog 30 #[.string s, .string p] w fun e w' => e = .returned (.tuple #[.string ⟨(Lib.trimPrefix s.data.toList p.data.toList).toArray⟩, .bool (Lib.hasPrefix s.data.toList p.data.toList)]) ∧ w' = w := Any.strings_CutPrefix witC s p w
end Go.Proofs.YtahigmjpeicemaaGreatDoor

/- wal: the number of a file's name. -/
namespace Go.Proofs.YtahigmjpeicemaaGreatDoor
open Go.RowKit Go.Shelf

theorem var_below {P : Program} {nm : String} {cs : Array Value} {w w' : World} (h : w.var? P nm = some cs) (hb : Below w.heap.size w w') : w'.var? P nm = some cs := by
  unfold World.var? at *
  cases hg : P.globalNamed nm with
  | none => rw [hg] at h; simp at h
  | some g =>
    rw [hg] at h
    simp only [Option.bind_some] at h ⊢
    cases hh : w.heap[g]? with
    | none => rw [hh] at h; simp at h
    | some o => rw [hb.block g (Array.getElem?_eq_some_iff.1 hh).1]; exact h
/-- The library's errors are laid. -/
def Er (w : World) : Prop := (∃ tp p, w.var? Tryz.prog "strconv.ErrSyntax" = some #[.iface tp p]) ∧ (∃ tp p, w.var? Tryz.prog "strconv.ErrRange" = some #[.iface tp p])
theorem Er.below {w w' : World} (h : Er w) (hb : Below w.heap.size w w') : Er w' := by
  obtain ⟨⟨a, b, h1⟩, c, d, h2⟩ := h
  exact ⟨⟨a, b, var_below h1 hb⟩, c, d, var_below h2 hb⟩
/-- Whose number it is. -/
def NumP (p s : List UInt8) (n : Int) (ok : Bool) : Prop := (ok = true ∧ 1 ≤ n ∧ n ≤ 1099511627776 ∧ s = nmF p n) ∨ (ok = false ∧ n = 0 ∧ ∀ m, 1 ≤ m → m ≤ 1099511627776 → s ≠ nmF p m)
theorem nm_has {p : List UInt8} {m : Int} (h1 : 1 ≤ m) (h2 : m ≤ 1099511627776) : Lib.hasPrefix (nmF p m) p = true ∧ Lib.trimPrefix (nmF p m) p = Lib.decDigits m.toNat := by
  have h : Lib.hasPrefix (nmF p m) p = true := by
    unfold Lib.hasPrefix
    rw [nmF_yes h1 h2, List.isPrefixOf_iff_prefix]
    exact List.prefix_append _ _
  refine ⟨h, ?_⟩
  unfold Lib.trimPrefix
  rw [h, if_pos rfl, nmF_yes h1 h2, List.drop_left]
theorem nm_atoi {p : List UInt8} {m : Int} (h1 : 1 ≤ m) (h2 : m ≤ 1099511627776) : Lib.atoiAll (Lib.trimPrefix (nmF p m) p) = .ok m := by
  rw [(nm_has h1 h2).2, atoi_dec (by omega)]
  congr 1; omega
theorem num_nofound {p s : List UInt8} (h : Lib.hasPrefix s p = false) : NumP p s 0 false := .inr ⟨rfl, rfl, fun m h1 h2 e => by rw [e, (nm_has h1 h2).1] at h; cases h⟩
theorem num_noatoi {p s : List UInt8} (h : ∀ m : Int, Lib.atoiAll (Lib.trimPrefix s p) ≠ .ok m) : NumP p s 0 false := .inr ⟨rfl, rfl, fun m h1 h2 e => h m (by rw [e]; exact nm_atoi h1 h2)⟩
theorem num_other {p s : List UInt8} {v : Int} (h : Lib.atoiAll (Lib.trimPrefix s p) = .ok v) (hn : nmF p v ≠ s) : NumP p s 0 false := .inr ⟨rfl, rfl, fun m h1 h2 e => by
  rw [e, nm_atoi h1 h2] at h
  injection h with h
  rw [h] at e
  exact hn e.symm⟩
theorem num_this {p s : List UInt8} {v : Int} (hf : Lib.hasPrefix s p = true) (h : Lib.atoiAll (Lib.trimPrefix s p) = .ok v) (hn : nmF p v = s) : NumP p s v true := by
  by_cases hv : 1 ≤ v ∧ v ≤ 1099511627776
  · exact .inl ⟨rfl, hv.1, hv.2, hn.symm⟩
  · rw [nmF_no hv] at hn
    subst hn
    unfold Lib.trimPrefix at h
    rw [hf, if_pos rfl] at h
    simp [Lib.atoiAll] at h
theorem len_sz {l : List UInt8} : (⟨l.toArray⟩ : ByteArray).size = l.length := by simp [ByteArray.size]
theorem trim_len (s p : List UInt8) : (Lib.trimPrefix s p).length ≤ s.length := by
  unfold Lib.trimPrefix; split
  · rw [List.length_drop]; omega
  · omega
set_option maxRecDepth 100000 in
set_option maxHeartbeats 1000000 in
theorem walNumber_any (p s : List UInt8) (hp : p.length ≤ 100000) (hs : s.length ≤ 100000) (w : World) (hT : Tb w) (hE : Er w) :
    Calls Tryz.prog 8 #[.string ⟨p.toArray⟩, .string ⟨s.toArray⟩] w fun e w' => ∃ n ok, e = .returned (.tuple #[.int .i64 n, .bool ok]) ∧ NumP p s n ok ∧ Below w.heap.size w w' := by
  obtain ⟨⟨tp1, p1, hv1⟩, tp2, p2, hv2⟩ := id hE
  have HT : Hid (Tb w) := hT
  obtain ⟨d, HD⟩ := hid_ex (Lib.trimPrefix s p)
  obtain ⟨f, HF⟩ := hid_ex (Lib.hasPrefix s p)
  have HC : Hid (Calls Tryz.prog 30 #[.string ⟨s.toArray⟩, .string ⟨p.toArray⟩] w fun e w' => e = .returned (.tuple #[.string ⟨d.toArray⟩, .bool f]) ∧ w' = w) := by
    have := cutP_any ⟨s.toArray⟩ ⟨p.toArray⟩ w
    simp only at this
    rw [← HD.out, ← HF.out] at this
    exact this
  have hdl : d.length ≤ 100000 := by rw [HD.out]; exact Nat.le_trans (trim_len s p) hs
  have hsz : (⟨d.toArray⟩ : ByteArray).size ≤ 100000 := by rw [len_sz]; exact hdl
  -- how Atoi ends
  obtain ⟨A, HA⟩ := hid_ex (Lib.atoiAll d)
  cases A with
  | ok v =>
    have HAt : Hid (Calls Tryz.prog 31 #[.string ⟨d.toArray⟩] w fun e w' => e = .returned (.tuple #[.int .i64 v, .nilIface]) ∧ Below w.heap.size w w') := by
      refine (atoi_ok ⟨d.toArray⟩ (by omega) v HA.out.symm w).mono ?_
      rintro e w' ⟨rfl, hw⟩
      refine ⟨rfl, ?_⟩
      rcases hw with rfl | ⟨t, rfl⟩
      · exact Below.refl _ _
      · exact Lib.bytesWorld_below w _ t
    have HB : Hid (Lib.atoiAll (Lib.trimPrefix s p) = .ok v) := by unfold Hid; rw [← HD.out]; exact HA.out.symm
    clear HA hdl hsz hv1 hv2 hE
    cases f with
    | false =>
      have HN : Hid (NumP p s 0 false) := num_nofound HF.out.symm
      go_enter Tryz.func8, Tryz.ntmps8
      go_wp2_with fail
      refine HC.out.mono ?_
      rintro e w1 ⟨rfl, hw⟩
      subst w1
      go_wp2_with fail
      refine HAt.out.mono ?_
      rintro e w1 ⟨rfl, hb1⟩
      go_wp2_with fail
      go_ret2
      exact ⟨_, _, rfl, HN.out, hb1⟩
    | true =>
      obtain ⟨NM, HNM⟩ := hid_ex (nmF p v)
      go_enter Tryz.func8, Tryz.ntmps8
      go_wp2_with fail
      refine HC.out.mono ?_
      rintro e w1 ⟨rfl, hw⟩
      subst w1
      go_wp2_with fail
      refine HAt.out.mono ?_
      rintro e w1 ⟨rfl, hb1⟩
      have HB1 : Hid (Below w.heap.size w w1) := hb1
      clear hb1
      go_wp2_with fail
      refine (name_any p (by omega) v w1 (.inr (HT.out.below HB1.out))).mono ?_
      rintro e w2 ⟨rfl, hb2⟩
      rw [← HNM.out]
      have HB2 : Hid (Below w.heap.size w w2) := HB1.out.trans (hb2.mono HB1.out.size)
      clear hb2 HB1
      by_cases hq : NM = s
      · have HN : Hid (NumP p s v true) := num_this HF.out.symm HB.out (HNM.out.symm.trans hq)
        subst hq
        go_wp2_with fail
        go_ret2
        exact ⟨_, _, rfl, HN.out, HB2.out⟩
      · have HN : Hid (NumP p s 0 false) := num_other HB.out (by rw [← HNM.out]; exact hq)
        have hq2 : (NM != s) = true := by simpa using hq
        have hq1 : (NM == s) = false := by simpa using hq
        clear hq
        go_wp2_with fail
        go_ret2
        exact ⟨_, _, rfl, HN.out, HB2.out⟩
  | «syntax» =>
    have HAt : Hid (Calls Tryz.prog 31 #[.string ⟨d.toArray⟩] w fun e w' => ∃ N T, e = .returned (.tuple #[.int .i64 0, .iface T (.pointer (some ⟨N, 0, none⟩))]) ∧ Below w.heap.size w w') := by
      refine (atoi_syntax ⟨d.toArray⟩ (by omega) HA.out.symm tp1 p1 w hv1).mono ?_
      rintro e w' ⟨N, rfl, _, _, hb⟩
      exact ⟨N, _, rfl, hb⟩
    have HN : Hid (NumP p s 0 false) := num_noatoi (fun m h => by rw [← HD.out, ← HA.out] at h; cases h)
    clear HA hdl hsz hv1 hv2 hE
    cases f with
    | false =>
      go_enter Tryz.func8, Tryz.ntmps8
      go_wp2_with fail
      refine HC.out.mono ?_
      rintro e w1 ⟨rfl, hw⟩
      subst w1
      go_wp2_with fail
      refine HAt.out.mono ?_
      rintro e w1 ⟨N, T, rfl, hb1⟩
      go_wp2_with fail
      go_ret2
      exact ⟨_, _, rfl, HN.out, hb1⟩
    | true =>
      go_enter Tryz.func8, Tryz.ntmps8
      go_wp2_with fail
      refine HC.out.mono ?_
      rintro e w1 ⟨rfl, hw⟩
      subst w1
      go_wp2_with fail
      refine HAt.out.mono ?_
      rintro e w1 ⟨N, T, rfl, hb1⟩
      go_wp2_with fail
      go_ret2
      exact ⟨_, _, rfl, HN.out, hb1⟩
  | range =>
    obtain ⟨B, HBs⟩ := hid_ex (Lib.atoiSat d)
    have HAt : Hid (Calls Tryz.prog 31 #[.string ⟨d.toArray⟩] w fun e w' => ∃ N T, e = .returned (.tuple #[.int .i64 B, .iface T (.pointer (some ⟨N, 0, none⟩))]) ∧ Below w.heap.size w w') := by
      refine (atoi_range ⟨d.toArray⟩ (by omega) HA.out.symm tp2 p2 w hv2).mono ?_
      rintro e w' ⟨N, rfl, _, _, hb⟩
      exact ⟨N, _, by rw [HBs.out], hb⟩
    have HN : Hid (NumP p s 0 false) := num_noatoi (fun m h => by rw [← HD.out, ← HA.out] at h; cases h)
    clear HA hdl hsz hv1 hv2 hE HBs
    cases f with
    | false =>
      go_enter Tryz.func8, Tryz.ntmps8
      go_wp2_with fail
      refine HC.out.mono ?_
      rintro e w1 ⟨rfl, hw⟩
      subst w1
      go_wp2_with fail
      refine HAt.out.mono ?_
      rintro e w1 ⟨N, T, rfl, hb1⟩
      go_wp2_with fail
      go_ret2
      exact ⟨_, _, rfl, HN.out, hb1⟩
    | true =>
      go_enter Tryz.func8, Tryz.ntmps8
      go_wp2_with fail
      refine HC.out.mono ?_
      rintro e w1 ⟨rfl, hw⟩
      subst w1
      go_wp2_with fail
      refine HAt.out.mono ?_
      rintro e w1 ⟨N, T, rfl, hb1⟩
      go_wp2_with fail
      go_ret2
      exact ⟨_, _, rfl, HN.out, hb1⟩
end Go.Proofs.YtahigmjpeicemaaGreatDoor

/- wal: Read of nothing; law12's alive. -/
namespace Go.Proofs.YtahigmjpeicemaaGreatDoor
open Go.RowKit Go.Shelf

theorem results_rt {fn : Func} {p u : Tmp} {ty : TypeId} (h : fn.results = #[.cell p ty, .tmp u]) (tmps : Array Value) (w : World) (g : Nat) (cs : Array Value)
    (hp : tmps.getD p undef = .pointer (some ⟨g, 0, none⟩)) (hl : (loadVar ty ⟨g, 0, none⟩).run Tryz.prog w = .ok (.agg cs) w) :
    (results fn tmps).run Tryz.prog w = .ok (.tuple #[.agg cs, tmps.getD u undef]) w := by
  have hp' : tmps[p]?.getD undef = .pointer (some ⟨g, 0, none⟩) := by simpa using hp
  simp [results, h, hp', asAddr, hl]
theorem cell_rw' {w : World} {b : Nat} {cs : Array Value} {T : TypeId} (h : w.heap[b]? = some (.cells cs T)) (i : Nat) (hi : i < cs.size) : w.cell? ⟨b, i, none⟩ = some cs[i] := by
  simp [World.cell?, h, hi]
set_option maxRecDepth 100000 in
theorem guessed_nil (w : World) : Calls Tryz.prog 60 #[.slice none 0 0] w fun e w' => e = .returned (.agg #[.slice none 0 0, .int .i64 (-1)]) ∧ Below w.heap.size w w' := by
  go_enter Tryz.func60, Tryz.ntmps60
  go_wp2_with fail
  go_step3
  go_wp2_with fail
  rw [Exit.noGoto_ret]
  refine bodyPost_ret (v := .agg #[.slice none 0 0, .int .i64 (-1)]) (by simp [results, Tryz.results60, go_sem]) rfl ⟨rfl, ((Below.refl _ _).alloc (Nat.le_refl _) _).alloc (by simp) _⟩
theorem rc_nil (w : World) (m : Int) (h1 : -9223372036854775808 ≤ m) (h2 : m ≤ 9223372036854775807) : RcOk w ⟨.slice none 0 0, [], m⟩ := ⟨⟨none, 0, rfl, by simp, by simp, .inl rfl⟩, h1, h2⟩
theorem wr_nil (m : Int) (w : World) (h1 : -9223372036854775808 ≤ m) (h2 : m ≤ 9223372036854775807) : Calls Tryz.prog 26 #[.agg #[.slice none 0 0, .int .i64 m]] w fun e w' => ∃ v, e = .returned (.tuple #[v, .int .i64 (if isTm m = true then 0 else 90)]) ∧ Own w' w.heap.size v (if isTm m = true then 2 :: nb m else []) ∧ Below w.heap.size w w' := walWrite_any ⟨.slice none 0 0, [], m⟩ w (rc_nil w m h1 h2)
set_option maxRecDepth 100000 in
theorem wread_nil (w : World) : Calls Tryz.prog 27 #[.slice none 0 0] w fun e w' => e = .returned (.tuple #[.agg #[.slice none 0 0, .int .i64 0], .int .i64 90]) ∧ Below w.heap.size w w' := by
  go_enter Tryz.func27, Tryz.ntmps27
  go_wp2_with fail
  refine (guessed_nil _).mono ?_
  rintro e w1 ⟨rfl, hb1⟩
  have c0 := hb1.cell (p := ⟨w.heap.size, 0, none⟩) (by simp)
  have c1 := hb1.cell (p := ⟨w.heap.size, 1, none⟩) (by simp)
  have f0 := hb1.frozen (p := ⟨w.heap.size, 0, none⟩) (by simp)
  have f1 := hb1.frozen (p := ⟨w.heap.size, 1, none⟩) (by simp)
  simp [go_sem] at c0 c1 f0 f1
  have hz1 : w.heap.size + 1 ≤ w1.heap.size := by have := hb1.size; simpa using this
  have HB1 : Hid (Below w.heap.size w w1) := ((Below.refl _ w).alloc (Nat.le_refl _) _).trans (hb1.mono (by simp))
  have HK1 : Hid (w1.heap[w.heap.size]? = some (.cells #[.slice none 0 0, .int .i64 0] 43)) := (hb1.block w.heap.size (by simp)).trans (World.alloc_heap_new _ _)
  clear hb1
  go_wp2_with fail
  refine (wr_nil (-1) _ (by omega) (by omega)).mono ?_
  rintro e w2 ⟨v2, rfl, _, hb2⟩
  have HK2 : Hid (w2.heap[w.heap.size]? = some (.cells #[.slice none 0 0, .int .i64 0] 43)) := (hb2.block w.heap.size (by simp; omega)).trans ((Below.heap_alloc _ _ _ (by omega)).trans HK1.out)
  have HB2 : Hid (Below w.heap.size w w2) := HB1.out.trans (((Below.refl _ w1).alloc (by omega) _).trans (hb2.mono (by simp; omega)))
  clear hb2 c0 c1 f0 f1
  have c0 := cell_rw' HK2.out 0 (by decide)
  have c1 := cell_rw' HK2.out 1 (by decide)
  have f0 : w2.frozen? ⟨w.heap.size, 0, none⟩ = false := by simp [World.frozen?, HK2.out]
  have f1 : w2.frozen? ⟨w.heap.size, 1, none⟩ = false := by simp [World.frozen?, HK2.out]
  simp only [List.getElem_toArray, List.getElem_cons_succ, List.getElem_cons_zero] at c0 c1
  have hi : (if isTm (-1) = true then (0 : Int) else 90) = 90 := rfl
  rw [hi]
  go_wp2_with fail
  have HK3 := cells_set (cells_set HK2.out 0 (.slice none 0 0)) 1 (.int .i64 0)
  exact bodyPost_ret (results_rt rfl _ _ w.heap.size _ rfl (run_loadVar_row _ w.heap.size _ _ _ (0, 0) _ HK3 Tryz.underlying43 rfl (by kernel_rfl))) rfl ⟨rfl, (HB2.out.setCell (by simp) _).setCell (by simp) _⟩
/-- The log's first names. -/
theorem nm12 : nmF seg 12 = [119, 97, 108, 45, 49, 50] := by
  rw [nmF_yes (by omega) (by omega)]
  show seg ++ Lib.decDigits 12 = _
  rw [Lib.decDigits_two (by omega) (by omega)]
  rfl
theorem st12 : ∃ s, stF (sfZ 1000) 12 = (0, s) ∧ s.dir.length = 1 := by
  unfold stF
  rw [nm12]
  exact ⟨_, rfl, rfl⟩
end Go.Proofs.YtahigmjpeicemaaGreatDoor

/- law12's alive. -/
namespace Go.Proofs.YtahigmjpeicemaaGreatDoor
open Go.RowKit Go.Shelf

theorem wr5 : (if isTm 5 = true then 2 :: nb 5 else []) = ([2, 128, 0, 0, 0, 0, 0, 0, 5] : List UInt8) := by decide
set_option maxRecDepth 100000 in
set_option maxHeartbeats 1000000 in
theorem alive12_any (w : World) : Calls Tryz.prog 7 #[] w fun e w' => e = .returned (.bool true) ∧ Below w.heap.size w w' := by
  go_enter Tryz.func7, Tryz.ntmps7
  go_wp2_with fail
  refine (wr_nil 5 w (by omega) (by omega)).mono ?_
  rintro e w1 ⟨vb, rfl, ho1, hb1⟩
  rw [wr5] at ho1
  rw [show (if isTm 5 = true then (0 : Int) else 90) = 0 from rfl]
  have hR1 : Hid (Reads w1 vb [2, 128, 0, 0, 0, 0, 0, 0, 5]) := ho1.reads
  obtain ⟨va, vc, rfl, _⟩ := ho1.form
  have HB1 : Hid (Below w.heap.size w w1) := hb1
  clear ho1 hb1
  go_wp2_with fail
  refine (fs_new 1000 w1 (by omega) (by omega)).mono ?_
  rintro e w2 ⟨p, rfl, hf2, hb2⟩
  have HF2 : Hid (Fs w2 (fun k => w1.heap.size ≤ k ∧ k < w2.heap.size) p (sfZ 1000)) := hf2
  have HB2 : Hid (Below w1.heap.size w1 w2) := hb2
  obtain ⟨pg, rfl⟩ := hf2.ptr
  clear hf2 hb2
  go_wp2_with fail
  refine (start_any HF2.out 12 (by show [].length < _; simp) (.inl (by omega))).mono ?_
  rintro e w3 ⟨lv, O', rfl, hf3, _, ho3, hlv⟩
  obtain ⟨s3, hs3, hd3⟩ := st12
  rw [hs3] at hf3 hlv
  rw [hs3]
  simp only at hf3 hlv ⊢
  obtain ⟨g3, rfl⟩ : ∃ g, lv = .pointer (some ⟨g, 0, none⟩) := by
    rcases hlv with ⟨h, _⟩ | ⟨_, g, h, _⟩
    · exact absurd rfl h
    · exact ⟨g, h⟩
  have HF3 : Hid (Fs w3 O' (.pointer (some ⟨pg, 0, none⟩)) s3) := hf3
  have HB3 : Hid (Below w1.heap.size w1 w3) := HB2.out.trans (ho3.below HB2.out.size (fun k hk => hk.1))
  have HD3 : Hid (s3.dir.length = 1) := hd3
  clear hf3 ho3 hlv hs3 hd3 HF2 HB2
  go_wp2_with fail
  refine (wread_nil w3).mono ?_
  rintro e w4 ⟨rfl, hb4⟩
  have HF4 : Hid (Fs (w4.alloc (.cells #[.slice none 0 0, .int .i64 0] 43)) O' (.pointer (some ⟨pg, 0, none⟩)) s3) := (HF3.out.below hb4).below ((Below.refl _ _).alloc (Nat.le_refl _) _)
  have HB4 : Hid (Below w1.heap.size w1 (w4.alloc (.cells #[.slice none 0 0, .int .i64 0] 43))) := (HB3.out.trans (hb4.mono HB3.out.size)).trans ((Below.refl _ _).alloc (Nat.le_trans HB3.out.size hb4.size) _)
  have ht : (convert 28 9 (.slice va 9 vc)).run Tryz.prog (w4.alloc (.cells #[.slice none 0 0, .int .i64 0] 43)) = .ok (.string ⟨#[2, 128, 0, 0, 0, 0, 0, 0, 5]⟩) (w4.alloc (.cells #[.slice none 0 0, .int .i64 0] 43)) := reads_text (hR1.out.below HB4.out)
  clear hb4 HF3 HB3
  go_wp2_with fail
  refine (name_any seg (by decide) 12 _ (.inl (by omega))).mono ?_
  rintro e w5 ⟨rfl, hb5⟩
  rw [nm12]
  have HF5 : Hid (Fs w5 O' (.pointer (some ⟨pg, 0, none⟩)) s3) := HF4.out.below hb5
  have HB5 : Hid (Below w1.heap.size w1 w5) := HB4.out.trans (hb5.mono HB4.out.size)
  clear hb5 ht HF4 HB4
  go_wp2_with fail
  refine HF5.out.list.mono ?_
  rintro e w6 ⟨v6, rfl, ho6, hb6⟩
  obtain ⟨la, lc, rfl⟩ := row_form ho6
  rw [HD3.out]
  have HB6 : Hid (Below w.heap.size w w6) := (HB1.out.trans (HB5.out.mono HB1.out.size)).trans (hb6.mono (Nat.le_trans HB1.out.size HB5.out.size))
  clear ho6 hb6
  go_wp2_with fail
  go_ret
  exact ⟨rfl, HB6.out⟩
end Go.Proofs.YtahigmjpeicemaaGreatDoor
