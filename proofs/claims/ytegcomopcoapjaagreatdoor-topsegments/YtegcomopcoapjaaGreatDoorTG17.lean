/- WS2 WS3, joined. -/
import Derived.Test.YtegcomopcoapjaaGreatDoorTG15
import Derived.Test.YtegcomopcoapjaaGreatDoorTG16
/- wal: Start; Read of nothing; law12's alive. -/
namespace Go.Proofs.YtegcomopcoapjaaGreatDoor
open Go.RowKit Go.Shelf

def seg : List UInt8 := [119, 97, 108, 45]
/-- What Start answers, and what it leaves. -/
def stF (s : SfS) (n : Int) : Int × SfS :=
  if isNo n = false then (1, s) else if (sfCreate s (nmF seg n)).1 = 0 then sfSyncDir (sfCreate s (nmF seg n)).2 else sfCreate s (nmF seg n)
/-- A log in memory. -/
def LgAt (w : World) (g : Nat) (p : Value) (nm : List UInt8) : Prop := w.heap[g]? = some (.cells #[p, .string ⟨nm.toArray⟩] 58)
def StPost (w : World) (O : Nat → Prop) (p : Value) (s : SfS) (n : Int) (e : Ending) (w' : World) : Prop :=
  ∃ lv O', e = .returned (.tuple #[lv, .int .i64 (stF s n).1]) ∧ Fs w' O' p (stF s n).2 ∧ (∀ k, O' k → Grw O w w' k) ∧ Onl O w w' ∧
    (((stF s n).1 ≠ 0 ∧ lv = .pointer none) ∨ ((stF s n).1 = 0 ∧ ∃ g, lv = .pointer (some ⟨g, 0, none⟩) ∧ LgAt w' g p (nmF seg n) ∧ ¬ O' g ∧ w.heap.size ≤ g))
theorem nm_len {n : Int} : (nmF seg n).length ≤ 17 := by
  by_cases h : 1 ≤ n ∧ n ≤ 1099511627776
  · rw [nmF_yes h.1 h.2, List.length_append]
    have := dec_len (n := n.toNat) (by omega)
    have : seg.length = 4 := rfl
    omega
  · rw [nmF_no h]; simp
theorem Tb.below {w w' : World} (h : Tb w) (hb : Below w.heap.size w w') : Tb w' := by
  unfold Tb Lib.TabIs World.var? at *
  cases hg : Tryz.prog.globalNamed "internal/strconv.uint64pow10" with
  | none => rw [hg] at h; simp at h
  | some g =>
    rw [hg] at h
    simp only [Option.bind_some] at h ⊢
    cases hh : w.heap[g]? with
    | none => rw [hh] at h; simp at h
    | some o => rw [hb.block g (Array.getElem?_eq_some_iff.1 hh).1]; exact h
set_option maxRecDepth 100000 in
set_option maxHeartbeats 1000000 in
theorem start_any {w : World} {O : Nat → Prop} {p : Value} {s : SfS} (h : Fs w O p s) (n : Int) (hpn : s.pend.length < 1099511627775) (hT : n < 100 ∨ Tb w) :
    Calls Tryz.prog 7 #[p, .int .i64 n] w (StPost w O p s n) := by
  obtain ⟨g0, rfl⟩ := h.ptr
  have HFs : Hid (Fs w O (.pointer (some ⟨g0, 0, none⟩)) s) := h
  have HT : Hid (n < 100 ∨ Tb w) := hT
  clear h hT
  cases hq : isNo n with
  | false =>
    have HS : Hid (stF s n = (1, s)) := by unfold Hid stF; rw [if_pos hq]
    go_enter Tryz.func7, Tryz.ntmps7
    go_wp2_with fail
    refine (isNumber_any n w).mono ?_
    rintro e w1 ⟨rfl, hw⟩
    subst w1
    rw [hq]
    go_wp2_with fail
    go_ret2
    refine ⟨_, O, by rw [HS.out]; rfl, by rw [HS.out]; exact HFs.out, fun k hk => .inl hk, Onl.refl _ _, .inl ⟨by rw [HS.out]; simp, rfl⟩⟩
  | true =>
    have HN : Hid (isNo n = true) := hq
    clear hq
    obtain ⟨NM, HNM⟩ := hid_ex (nmF seg n)
    have HNl : Hid (NM.length ≤ 17) := by rw [HNM.out]; exact nm_len
    have HS0 : Hid (stF s n = if (sfCreate s NM).1 = 0 then sfSyncDir (sfCreate s NM).2 else sfCreate s NM) := by unfold Hid stF; rw [HN.out, HNM.out]; rfl
    go_enter Tryz.func7, Tryz.ntmps7
    go_wp2_with fail
    refine (isNumber_any n w).mono ?_
    rintro e w1 ⟨rfl, hw⟩
    subst w1
    rw [HN.out]
    go_wp2_with fail
    refine (name_any seg (by decide) n w HT.out).mono ?_
    rintro e w1 ⟨rfl, hb1⟩
    rw [← HNM.out]
    have HF1 : Hid (Fs w1 O (.pointer (some ⟨g0, 0, none⟩)) s) := HFs.out.below hb1
    have HB1 : Hid (Below w.heap.size w w1) := hb1
    clear hb1
    go_wp2_with fail
    refine (HF1.out.create NM (by have := HNl.out; unfold maxLen; omega) (by omega)).mono ?_
    rintro e w2 ⟨rfl, hf2, ho2⟩
    have HF2 : Hid (Fs w2 (Grw O w1 w2) (.pointer (some ⟨g0, 0, none⟩)) (sfCreate s NM).2) := hf2
    have HO2 : Hid (Onl O w w2) := (onl_of_below HB1.out).trans (ho2.mono fun k hk => .inl hk)
    have HG2 : Hid (∀ k, Grw O w1 w2 k → Grw O w w2 k) := fun k hk => by
      rcases hk with hk | hk
      · exact .inl hk
      · exact .inr ⟨Nat.le_trans HB1.out.size hk.1, hk.2⟩
    clear hf2 ho2 HF1
    rcases hc : sfCreate s NM with ⟨c1, c2⟩
    rw [hc] at HS0 HF2
    simp only at HS0 HF2 ⊢
    by_cases hz : c1 = 0
    · subst hz
      rw [if_pos rfl] at HS0
      go_wp2_with fail
      refine HF2.out.syncDir.mono ?_
      rintro e w3 ⟨rfl, hf3, ho3⟩
      have HF3 : Hid (Fs w3 (Grw (Grw O w1 w2) w2 w3) (.pointer (some ⟨g0, 0, none⟩)) (sfSyncDir c2).2) := hf3
      have HO3 : Hid (Onl O w w3) := HO2.out.trans (ho3.mono HG2.out)
      have HG3 : Hid (∀ k, Grw (Grw O w1 w2) w2 w3 k → Grw O w w3 k) := fun k hk => by
        rcases hk with hk | hk
        · exact (Grw.trans HO2.out.size ho3.size) k (.inl (HG2.out k hk))
        · exact .inr ⟨Nat.le_trans HO2.out.size hk.1, hk.2⟩
      clear hf3 ho3 HF2
      rcases hd : sfSyncDir c2 with ⟨d1, d2⟩
      rw [hd] at HS0 HF3
      simp only at HS0 HF3 ⊢
      by_cases hy : d1 = 0
      · subst hy
        go_wp2_with fail
        go_ret2
        refine ⟨_, Grw (Grw O w1 w2) w2 w3, by rw [HS0.out]; rfl, ?_, ?_, ?_, .inr ⟨by rw [HS0.out], w3.heap.size, rfl, ?_, ?_, ?_⟩⟩
        · rw [HS0.out]; exact HF3.out.below ((Below.refl _ _).alloc (Nat.le_refl _) _)
        · intro k hk
          rcases HG3.out k hk with h | h
          · exact .inl h
          · exact .inr ⟨h.1, by have := h.2; simp; omega⟩
        · exact HO3.out.then (Onl.alloc _)
        · rw [← HNM.out]; exact World.alloc_heap_new _ _
        · intro hk; exact absurd (HF3.out.lt _ hk) (Nat.lt_irrefl _)
        · exact HO3.out.size
      · have hy' : (d1 != 0) = true := by simpa using hy
        go_wp2_with fail
        go_ret2
        exact ⟨_, Grw (Grw O w1 w2) w2 w3, by rw [HS0.out]; rfl, by rw [HS0.out]; exact HF3.out, HG3.out, HO3.out, .inl ⟨by rw [HS0.out]; exact hy, rfl⟩⟩
    · rw [if_neg hz] at HS0
      have hz' : (c1 != 0) = true := by simpa using hz
      go_wp2_with fail
      go_ret2
      exact ⟨_, Grw O w1 w2, by rw [HS0.out]; rfl, by rw [HS0.out]; exact HF2.out, HG2.out, HO2.out, .inl ⟨by rw [HS0.out]; exact hz, rfl⟩⟩
end Go.Proofs.YtegcomopcoapjaaGreatDoor

/- wal: Read of nothing; law12's alive. -/
namespace Go.Proofs.YtegcomopcoapjaaGreatDoor
open Go.RowKit Go.Shelf

theorem results_rt {fn : Func} {p u : Tmp} {ty : TypeId} (h : fn.results = #[.cell p ty, .tmp u]) (tmps : Array Value) (w : World) (g : Nat) (cs : Array Value)
    (hp : tmps.getD p undef = .pointer (some ⟨g, 0, none⟩)) (hl : (loadVar ty ⟨g, 0, none⟩).run Tryz.prog w = .ok (.agg cs) w) :
    (results fn tmps).run Tryz.prog w = .ok (.tuple #[.agg cs, tmps.getD u undef]) w := by
  have hp' : tmps[p]?.getD undef = .pointer (some ⟨g, 0, none⟩) := by simpa using hp
  simp [results, h, hp', asAddr, hl]
theorem cell_rw' {w : World} {b : Nat} {cs : Array Value} {T : TypeId} (h : w.heap[b]? = some (.cells cs T)) (i : Nat) (hi : i < cs.size) : w.cell? ⟨b, i, none⟩ = some cs[i] := by
  simp [World.cell?, h, hi]
set_option maxRecDepth 100000 in
theorem guessed_nil (w : World) : Calls Tryz.prog 50 #[.slice none 0 0] w fun e w' => e = .returned (.agg #[.slice none 0 0, .int .i64 (-1)]) ∧ Below w.heap.size w w' := by
  go_enter Tryz.func50, Tryz.ntmps50
  go_wp2_with fail
  go_step3
  go_wp2_with fail
  rw [Exit.noGoto_ret]
  refine bodyPost_ret (v := .agg #[.slice none 0 0, .int .i64 (-1)]) (by simp [results, Tryz.results50, go_sem]) rfl ⟨rfl, ((Below.refl _ _).alloc (Nat.le_refl _) _).alloc (by simp) _⟩
theorem rc_nil (w : World) (m : Int) (h1 : -9223372036854775808 ≤ m) (h2 : m ≤ 9223372036854775807) : RcOk w ⟨.slice none 0 0, [], m⟩ := ⟨⟨none, 0, rfl, by simp, by simp, .inl rfl⟩, h1, h2⟩
theorem wr_nil (m : Int) (w : World) (h1 : -9223372036854775808 ≤ m) (h2 : m ≤ 9223372036854775807) : Calls Tryz.prog 23 #[.agg #[.slice none 0 0, .int .i64 m]] w fun e w' => ∃ v, e = .returned (.tuple #[v, .int .i64 (if isTm m = true then 0 else 90)]) ∧ Own w' w.heap.size v (if isTm m = true then 2 :: nb m else []) ∧ Below w.heap.size w w' := walWrite_any ⟨.slice none 0 0, [], m⟩ w (rc_nil w m h1 h2)
set_option maxRecDepth 100000 in
theorem wread_nil (w : World) : Calls Tryz.prog 32 #[.slice none 0 0] w fun e w' => e = .returned (.tuple #[.agg #[.slice none 0 0, .int .i64 0], .int .i64 90]) ∧ Below w.heap.size w w' := by
  go_enter Tryz.func32, Tryz.ntmps32
  go_wp2_with fail
  refine (guessed_nil _).mono ?_
  rintro e w1 ⟨rfl, hb1⟩
  have c0 := hb1.cell (p := ⟨w.heap.size, 0, none⟩) (by simp)
  have c1 := hb1.cell (p := ⟨w.heap.size, 1, none⟩) (by simp)
  have f0 := hb1.frozen (p := ⟨w.heap.size, 0, none⟩) (by simp)
  have f1 := hb1.frozen (p := ⟨w.heap.size, 1, none⟩) (by simp)
  simp [go_sem] at c0 c1 f0 f1
  have hz1 : w.heap.size + 1 ≤ w1.heap.size := by have := hb1.size; simpa using this
  have HB1 : Hid (Below w.heap.size w w1) := ((Below.refl _ w).alloc (Nat.le_refl _) _).trans (hb1.mono (by simp))
  have HK1 : Hid (w1.heap[w.heap.size]? = some (.cells #[.slice none 0 0, .int .i64 0] 37)) := (hb1.block w.heap.size (by simp)).trans (World.alloc_heap_new _ _)
  clear hb1
  go_wp2_with fail
  refine (wr_nil (-1) _ (by omega) (by omega)).mono ?_
  rintro e w2 ⟨v2, rfl, _, hb2⟩
  have HK2 : Hid (w2.heap[w.heap.size]? = some (.cells #[.slice none 0 0, .int .i64 0] 37)) := (hb2.block w.heap.size (by simp; omega)).trans ((Below.heap_alloc _ _ _ (by omega)).trans HK1.out)
  have HB2 : Hid (Below w.heap.size w w2) := HB1.out.trans (((Below.refl _ w1).alloc (by omega) _).trans (hb2.mono (by simp; omega)))
  clear hb2 c0 c1 f0 f1
  have c0 := cell_rw' HK2.out 0 (by decide)
  have c1 := cell_rw' HK2.out 1 (by decide)
  have f0 : w2.frozen? ⟨w.heap.size, 0, none⟩ = false := by simp [World.frozen?, HK2.out]
  have f1 : w2.frozen? ⟨w.heap.size, 1, none⟩ = false := by simp [World.frozen?, HK2.out]
  simp only [List.getElem_toArray, List.getElem_cons_succ, List.getElem_cons_zero] at c0 c1
  have hi : (if isTm (-1) = true then (0 : Int) else 90) = 90 := rfl
  rw [hi]
  go_wp2_with fail
  have HK3 := cells_set (cells_set HK2.out 0 (.slice none 0 0)) 1 (.int .i64 0)
  exact bodyPost_ret (results_rt rfl _ _ w.heap.size _ rfl (run_loadVar_row _ w.heap.size _ _ _ (0, 0) _ HK3 Tryz.underlying37 rfl (by kernel_rfl))) rfl ⟨rfl, (HB2.out.setCell (by simp) _).setCell (by simp) _⟩
/-- The log's first names. -/
theorem nm12 : nmF seg 12 = [119, 97, 108, 45, 49, 50] := by
  rw [nmF_yes (by omega) (by omega)]
  show seg ++ Lib.decDigits 12 = _
  rw [Lib.decDigits_two (by omega) (by omega)]
  rfl
theorem st12 : ∃ s, stF (sfZ 1000) 12 = (0, s) ∧ s.dir.length = 1 := by
  unfold stF
  rw [nm12]
  exact ⟨_, rfl, rfl⟩
end Go.Proofs.YtegcomopcoapjaaGreatDoor
