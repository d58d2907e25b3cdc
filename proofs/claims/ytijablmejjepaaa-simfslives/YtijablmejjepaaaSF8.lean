/- A file system: its calls in memory. -/
import Derived.Test.YtijablmejjepaaaSF7
import Derived.Test.YtijablmejjepaaaCP0
namespace Go.Proofs.Ytijablmejjepaaa
open Go.RowKit Go.Maps

/-- What a call leaves: it is this file system, and nothing else has turned. -/
def FsTo (w : World) (O : Nat → Prop) (g m1 m2 : Nat) (s : SfS) (w' : World) : Prop := (∃ pv bl vs, FsAt w' (Grw O w w') g m1 m2 pv bl vs s) ∧ Onl O w w'
theorem FsAt.to {w w' : World} {O : Nat → Prop} {g m1 m2 : Nat} {pv : Value} {bl : Nat → Nat} {vs : Nat → Value} {s : SfS} (h : FsAt w' O g m1 m2 pv bl vs s) (h0 : ∀ k, O k → k < w.heap.size) (ho : Onl O w w') : FsTo w O g m1 m2 s w' :=
  ⟨⟨pv, bl, vs, h.wider (fun _ q => .inl q) (Grw.lt h0 ho.size)⟩, ho⟩
theorem FsAt.newF {w : World} {O : Nat → Prop} {g m1 m2 : Nat} {pv : Value} {bl : Nat → Nat} {vs : Nat → Value} {s : SfS} (h : FsAt w O g m1 m2 pv bl vs s) (hw : SfWf s) :
    FsAt (w.alloc (.cells #[.slice none 0 0, .int .i64 0] 69)) (Grw O w (w.alloc (.cells #[.slice none 0 0, .int .i64 0] 69))) g m1 m2 pv (updF bl s.fls.length w.heap.size) (updF vs s.fls.length (.slice none 0 0)) (sfNew s) := by
  have hk : ∀ k, O k → (w.alloc (.cells #[.slice none 0 0, .int .i64 0] 69)).heap[k]? = w.heap[k]? := fun k q => Below.heap_alloc _ _ _ (h.lt k q)
  have hu : ∀ i, i < s.fls.length → updF bl s.fls.length w.heap.size i = bl i := fun i hi => updF_ne _ _ (by omega)
  have hpe : s.pend.flatMap (sfAv bl) = s.pend.flatMap (sfAv (updF bl s.fls.length w.heap.size)) := by
    simp only [List.flatMap_def]
    congr 1
    refine List.map_congr_left fun a ha => ?_
    unfold sfAv
    cases hf : a.file with
    | none => rfl
    | some i => rw [sfPv, sfPv, hu i ((hw.pi a ha).1 i hf)]
  refine ⟨Grw.lt h.lt (by simp), .inl h.og, .inl h.o1, .inl h.o2, h.ne, (hk _ h.og).trans h.hg, (h.h1.keep (hk _ h.o1)).congr fun p hp => (hu _ (hw.di p hp).1).symm, (h.h2.keep (hk _ h.o2)).congr fun p hp => (hu _ (hw.oi p hp).1).symm, ?_, fun k q => .inl (h.op k q), ?_⟩
  · have := h.hp.keep (w' := w.alloc (.cells #[.slice none 0 0, .int .i64 0] 69)) (fun k q => hk k (h.op k q))
    rw [hpe] at this
    exact this
  · have hl : (sfNew s).fls.length = s.fls.length + 1 := by simp [sfNew]
    have hcase : ∀ i, i < (sfNew s).fls.length → i < s.fls.length ∨ i = s.fls.length := fun i hi => by omega
    have hold : ∀ i f, i < s.fls.length → (sfNew s).fls[i]? = some f → s.fls[i]? = some f := fun i f hi hf => by
      rw [sfNew, List.getElem?_append_left hi] at hf; exact hf
    refine ⟨fun i hi => ?_, fun i j hi hj e => ?_, fun i f hf => ?_, fun i f hf => ?_, fun i hi k q => ?_, fun i j hi hj k q1 q2 => ?_⟩
    · rcases hcase i hi with q | rfl
      · rw [hu i q]; exact .inl (h.fl.ob i q)
      · rw [updF_same]; exact .inr ⟨Nat.le_refl _, by simp⟩
    · rcases hcase i hi with q | rfl
      · rcases hcase j hj with r | rfl
        · rw [hu i q, hu j r] at e; exact h.fl.nd i j q r e
        · rw [hu i q, updF_same] at e; have := h.lt _ (h.fl.ob i q); omega
      · rcases hcase j hj with r | rfl
        · rw [hu j r, updF_same] at e; have := h.lt _ (h.fl.ob j r); omega
        · rfl
    · have hi := (List.getElem?_eq_some_iff.1 hf).1
      rcases hcase i hi with q | rfl
      · rw [hu i q, updF_ne _ _ (by omega)]
        exact (hk _ (h.fl.ob i q)).trans (h.fl.hf i f (hold i f q hf))
      · have : f = ([], 0) := by simp [sfNew] at hf; exact hf.symm
        subst this
        rw [updF_same, updF_same]
        exact heap_alloc_new _ _
    · have hi := (List.getElem?_eq_some_iff.1 hf).1
      rcases hcase i hi with q | rfl
      · rw [updF_ne _ _ (by omega)]
        exact (h.fl.hb i f (hold i f q hf)).keep fun k r => hk k (h.fl.ov i q k r)
      · have : f = ([], 0) := by simp [sfNew] at hf; exact hf.symm
        subst this
        rw [updF_same]
        exact GOwn.nil _ _ _
    · rcases hcase i hi with r | rfl
      · rw [updF_ne _ _ (by omega)] at q; exact .inl (h.fl.ov i r k q)
      · rw [updF_same] at q; simp [Value.ownBlock] at q
    · rcases hcase i hi with r | rfl
      · rcases hcase j hj with t | rfl
        · rw [updF_ne _ _ (by omega)] at q1 q2; exact h.fl.nv i j r t k q1 q2
        · rw [updF_same] at q2; simp [Value.ownBlock] at q2
      · rw [updF_same] at q1; simp [Value.ownBlock] at q1
theorem SfWf.new {s : SfS} (h : SfWf s) : SfWf (sfNew s) := by
  refine ⟨h.r1, h.r2, h.l1, h.l2, fun p hp => ⟨?_, (h.di p hp).2⟩, fun p hp => ⟨?_, (h.oi p hp).2⟩, fun a ha => ⟨fun i hi => ?_, (h.pi a ha).2⟩, h.ap, h.ln, fun i f hf => ?_⟩
  · have := (h.di p hp).1; simp [sfNew]; omega
  · have := (h.oi p hp).1; simp [sfNew]; omega
  · have := (h.pi a ha).1 i hi; simp [sfNew]; omega
  · rw [sfNew] at hf
    rcases Nat.lt_or_ge i s.fls.length with q | q
    · rw [List.getElem?_append_left q] at hf; exact h.sy i f hf
    · rw [List.getElem?_append_right q] at hf
      rcases Nat.eq_zero_or_pos (i - s.fls.length) with z | z
      · rw [z] at hf; simp at hf; subst hf; simp
      · rw [List.getElem?_eq_none (by simp; omega)] at hf; cases hf
set_option maxRecDepth 100000 in
theorem create_any {w : World} {O : Nat → Prop} {g m1 m2 : Nat} {pv : Value} {bl : Nat → Nat} {vs : Nat → Value} {s : SfS} (h : FsAt w O g m1 m2 pv bl vs s) (hw : SfWf s) (n : List UInt8) (hn : n.length ≤ maxLen) (hpn : s.pend.length < 1099511627776) :
    Calls Try.prog 11 #[.pointer (some ⟨g, 0, none⟩), .string ⟨n.toArray⟩] w fun e w' => e = .returned (.int .i64 (sfCreate s n).1) ∧ FsTo w O g m1 m2 (sfCreate s n).2 w' := by
  have HF : Hid (FsAt w O g m1 m2 pv bl vs s) := h
  have HW : Hid (SfWf s) := hw
  have HEnd : Hid (FsTo w O g m1 m2 s w) := h.to h.lt (Onl.refl _ _)
  have h1 := hw.r1
  have c0 := h.c0
  have c1 := h.c1
  have hlk := h.h1.look n hn
  have hln : ∀ ty, (Builtin.len_ #[40] ty #[.map (some m1)]).run Try.prog w = .ok (.int .i64 (s.dir.length : Int)) w := h.h1.len
  clear h hw
  unfold sfCreate
  cases hN : sfName n with
  | false =>
    rw [if_pos rfl]
    go_enter Try.func11, Try.ntmps11
    go_wp2_with (first
      | (go_at_call 33; refine (made_cell _ c0 h1).mono ?_; rintro e w' ⟨rfl, hw'⟩; subst w')
      | (go_at_call 34; refine (isName_any n _).mono ?_; rw [hN]; rintro e w' ⟨rfl, hw'⟩; subst w'))
    go_ret
    exact ⟨rfl, HEnd.out⟩
  | true =>
    rw [if_neg (by simp)]
    cases hL : sfLook n s.dir with
    | some i =>
      rw [if_pos (show (some i).isSome = true from rfl)]
      rw [hL] at hlk
      simp only [sfPv] at hlk
      go_enter Try.func11, Try.ntmps11
      go_wp2_with (first
        | (go_at_call 33; refine (made_cell _ c0 h1).mono ?_; rintro e w' ⟨rfl, hw'⟩; subst w')
        | (go_at_call 34; refine (isName_any n _).mono ?_; rw [hN]; rintro e w' ⟨rfl, hw'⟩; subst w'))
      go_ret
      exact ⟨rfl, HEnd.out⟩
    | none =>
      rw [if_neg (by simp)]
      rw [hL] at hlk
      simp only [sfPv] at hlk
      by_cases h256 : 256 ≤ s.dir.length
      · rw [if_pos h256]
        have h256' : (256 : Int) ≤ (s.dir.length : Int) := by omega
        go_enter Try.func11, Try.ntmps11
        go_wp2_with (first
          | (go_at_call 33; refine (made_cell _ c0 h1).mono ?_; rintro e w' ⟨rfl, hw'⟩; subst w')
          | (go_at_call 34; refine (isName_any n _).mono ?_; rw [hN]; rintro e w' ⟨rfl, hw'⟩; subst w'))
        go_ret
        exact ⟨rfl, HEnd.out⟩
      · rw [if_neg h256]
        have h256' : ¬ (256 : Int) ≤ (s.dir.length : Int) := by omega
        have HC : Hid (Calls Try.prog 35 #[.pointer (some ⟨g, 0, none⟩), .agg #[.string ⟨#[]⟩, .string ⟨n.toArray⟩, .pointer (some ⟨w.heap.size, 0, none⟩)]] (w.alloc (.cells #[.slice none 0 0, .int .i64 0] 69)) fun e w' => e = .returned (.int .i64 (sfChange (sfNew s) ⟨[], n, some s.fls.length⟩).1) ∧ FsTo w O g m1 m2 (sfChange (sfNew s) ⟨[], n, some s.fls.length⟩).2 w') := by
          have := change_any (HF.out.newF HW.out) HW.out.new ⟨[], n, some s.fls.length⟩ (by simp) hn hpn
          have e : sfPv (updF bl s.fls.length w.heap.size) (some s.fls.length) = .pointer (some ⟨w.heap.size, 0, none⟩) := by rw [sfPv, updF_same]
          rw [e] at this
          refine this.mono ?_
          rintro e w' ⟨he, ⟨pv', hf⟩, ho⟩
          refine ⟨he, ⟨pv', _, _, hf.wider (Grw.trans (by simp) ho.size) (Grw.lt HF.out.lt ?_)⟩, (Onl.alloc _).trans ho⟩
          have := ho.size; simp at this; omega
        go_enter Try.func11, Try.ntmps11
        go_wp2_with (first
          | (go_at_call 33; refine (made_cell _ c0 h1).mono ?_; rintro e w' ⟨rfl, hw'⟩; subst w')
          | (go_at_call 34; refine (isName_any n _).mono ?_; rw [hN]; rintro e w' ⟨rfl, hw'⟩; subst w')
          | (go_at_call 35; refine HC.out.mono ?_; rintro e w2 ⟨rfl, hto⟩))
        go_ret
        exact ⟨rfl, hto⟩
theorem rename_any {w : World} {O : Nat → Prop} {g m1 m2 : Nat} {pv : Value} {bl : Nat → Nat} {vs : Nat → Value} {s : SfS} (h : FsAt w O g m1 m2 pv bl vs s) (hw : SfWf s) (n m : List UInt8) (hn : n.length ≤ maxLen) (hm : m.length ≤ maxLen) (hpn : s.pend.length < 1099511627776) :
    Calls Try.prog 18 #[.pointer (some ⟨g, 0, none⟩), .string ⟨n.toArray⟩, .string ⟨m.toArray⟩] w fun e w' => e = .returned (.int .i64 (sfRename s n m).1) ∧ FsTo w O g m1 m2 (sfRename s n m).2 w' := by
  have HF : Hid (FsAt w O g m1 m2 pv bl vs s) := h
  have HW : Hid (SfWf s) := hw
  have HEnd : Hid (FsTo w O g m1 m2 s w) := h.to h.lt (Onl.refl _ _)
  have h1 := hw.r1
  have c0 := h.c0
  have hfd := find_any h hw n hn
  clear h hw
  unfold sfRename
  cases hN : sfName m with
  | false =>
    rw [if_pos rfl]
    go_enter Try.func18, Try.ntmps18
    go_wp2_with (first
      | (go_at_call 33; refine (made_cell _ c0 h1).mono ?_; rintro e w' ⟨rfl, hw'⟩; subst w')
      | (go_at_call 34; refine (isName_any m _).mono ?_; rw [hN]; rintro e w' ⟨rfl, hw'⟩; subst w'))
    go_ret
    exact ⟨rfl, HEnd.out⟩
  | true =>
    rw [if_neg (by simp)]
    cases hL : sfLook n s.dir with
    | none =>
      rw [hL] at hfd
      simp only [sfPv, sfFe] at hfd
      go_enter Try.func18, Try.ntmps18
      go_wp2_with (first
        | (go_at_call 33; refine (made_cell _ c0 h1).mono ?_; rintro e w' ⟨rfl, hw'⟩; subst w')
        | (go_at_call 34; refine (isName_any m _).mono ?_; rw [hN]; rintro e w' ⟨rfl, hw'⟩; subst w')
        | (go_at_call 36; refine hfd.mono ?_; rintro e w' ⟨rfl, hw'⟩; subst w'))
      go_ret
      exact ⟨rfl, HEnd.out⟩
    | some i =>
      rw [hL] at hfd
      simp only [sfPv, sfFe] at hfd
      have HC : Hid (Calls Try.prog 35 #[.pointer (some ⟨g, 0, none⟩), .agg #[.string ⟨n.toArray⟩, .string ⟨m.toArray⟩, .pointer (some ⟨bl i, 0, none⟩)]] w fun e w' => e = .returned (.int .i64 (sfChange s ⟨n, m, some i⟩).1) ∧ FsTo w O g m1 m2 (sfChange s ⟨n, m, some i⟩).2 w') := by
        refine (change_any HF.out HW.out ⟨n, m, some i⟩ hn hm hpn).mono ?_
        rintro e w' ⟨he, ⟨pv', hf⟩, ho⟩
        exact ⟨he, ⟨pv', _, _, hf⟩, ho⟩
      go_enter Try.func18, Try.ntmps18
      go_wp2_with (first
        | (go_at_call 33; refine (made_cell _ c0 h1).mono ?_; rintro e w' ⟨rfl, hw'⟩; subst w')
        | (go_at_call 34; refine (isName_any m _).mono ?_; rw [hN]; rintro e w' ⟨rfl, hw'⟩; subst w')
        | (go_at_call 36; refine hfd.mono ?_; rintro e w' ⟨rfl, hw'⟩; subst w')
        | (go_at_call 35; refine HC.out.mono ?_; rintro e w2 ⟨rfl, hto⟩))
      go_ret
      exact ⟨rfl, hto⟩
theorem remove_any {w : World} {O : Nat → Prop} {g m1 m2 : Nat} {pv : Value} {bl : Nat → Nat} {vs : Nat → Value} {s : SfS} (h : FsAt w O g m1 m2 pv bl vs s) (hw : SfWf s) (n : List UInt8) (hn : n.length ≤ maxLen) (hpn : s.pend.length < 1099511627776) :
    Calls Try.prog 19 #[.pointer (some ⟨g, 0, none⟩), .string ⟨n.toArray⟩] w fun e w' => e = .returned (.int .i64 (sfRemove s n).1) ∧ FsTo w O g m1 m2 (sfRemove s n).2 w' := by
  have HF : Hid (FsAt w O g m1 m2 pv bl vs s) := h
  have HW : Hid (SfWf s) := hw
  have HEnd : Hid (FsTo w O g m1 m2 s w) := h.to h.lt (Onl.refl _ _)
  have hfd := find_any h hw n hn
  clear h hw
  unfold sfRemove
  cases hL : sfLook n s.dir with
  | none =>
    rw [hL] at hfd
    simp only [sfPv, sfFe] at hfd
    go_enter Try.func19, Try.ntmps19
    go_wp2_with (go_at_call 36; refine hfd.mono ?_; rintro e w' ⟨rfl, hw'⟩; subst w')
    go_ret
    exact ⟨rfl, HEnd.out⟩
  | some i =>
    rw [hL] at hfd
    simp only [sfPv, sfFe] at hfd
    have HC : Hid (Calls Try.prog 35 #[.pointer (some ⟨g, 0, none⟩), .agg #[.string ⟨n.toArray⟩, .string ⟨#[]⟩, .pointer none]] w fun e w' => e = .returned (.int .i64 (sfChange s ⟨n, [], none⟩).1) ∧ FsTo w O g m1 m2 (sfChange s ⟨n, [], none⟩).2 w') := by
      refine (change_any HF.out HW.out ⟨n, [], none⟩ hn (by simp) hpn).mono ?_
      rintro e w' ⟨he, ⟨pv', hf⟩, ho⟩
      exact ⟨he, ⟨pv', _, _, hf⟩, ho⟩
    go_enter Try.func19, Try.ntmps19
    go_wp2_with (first
      | (go_at_call 36; refine hfd.mono ?_; rintro e w' ⟨rfl, hw'⟩; subst w')
      | (go_at_call 35; refine HC.out.mono ?_; rintro e w2 ⟨rfl, hto⟩))
    go_ret
    exact ⟨rfl, hto⟩
theorem fail_any {w : World} {O : Nat → Prop} {g m1 m2 : Nat} {pv : Value} {bl : Nat → Nat} {vs : Nat → Value} {s : SfS} (h : FsAt w O g m1 m2 pv bl vs s) (hw : SfWf s) (n e : Int) :
    Calls Try.prog 20 #[.pointer (some ⟨g, 0, none⟩), .int .i64 n, .int .i64 e] w fun e' w' => e' = .returned (.int .i64 (sfFail s n e).1) ∧ FsTo w O g m1 m2 (sfFail s n e).2 w' := by
  have HF : Hid (FsAt w O g m1 m2 pv bl vs s) := h
  have HEnd : Hid (FsTo w O g m1 m2 s w) := h.to h.lt (Onl.refl _ _)
  have h1 := hw.r1
  have c0 := h.c0
  have c4 := h.c4
  have c5 := h.c5
  have f4 := h.fz 4
  have f5 := h.fz 5
  clear h hw
  have HP : Hid (∀ w' : World, (∀ k, k ≠ g → w'.heap[k]? = w.heap[k]?) → GOwn w' 71 3 pv s.pend.length (s.pend.flatMap (sfAv bl))) := fun w' hk => HF.out.hp.keep fun k hk' => by
    obtain ⟨cur, hc⟩ := HF.out.pvT hk'
    exact hk k (ty_ne hc HF.out.hg (by decide))
  unfold sfFail
  by_cases he : e ≠ 81 ∧ e ≠ 82
  · rw [if_pos he]
    have e1 : (e != 81) = true := by simpa using he.1
    have e2 : (e != 82) = true := by simpa using he.2
    clear he
    go_enter Try.func20, Try.ntmps20
    go_wp2_with (go_at_call 33; refine (made_cell _ c0 h1).mono ?_; rintro e w' ⟨rfl, hw'⟩; subst w')
    go_ret
    exact ⟨rfl, HEnd.out⟩
  · rw [if_neg he]
    have he' : e = 81 ∨ e = 82 := by omega
    clear he
    by_cases hn : n < 0
    · rw [if_pos hn]
      have HT : Hid (FsTo w O g m1 m2 { s with fault := 0 } (w.setCell ⟨g, 5, none⟩ (.int .i64 0))) := by
        refine FsAt.to (pv := pv) (bl := bl) (vs := vs) ?_ HF.out.lt (Onl.set (a := ⟨g, 5, none⟩) HF.out.og _)
        refine HF.out.setG (fun _ q => q) (fun k q => by have := HF.out.lt k q; simp [World.setCell]; exact this) (fun k _ hk _ => Below.heap_setCell _ _ _ _ hk) ?_ (HP.out _ fun k hk => Below.heap_setCell _ _ _ _ hk) HF.out.op
        have := cells_set HF.out.hg 5 (.int .i64 0); simpa using this
      rcases he' with rfl | rfl
      · go_enter Try.func20, Try.ntmps20
        go_wp2_with (go_at_call 33; refine (made_cell _ c0 h1).mono ?_; rintro e w' ⟨rfl, hw'⟩; subst w')
        go_ret
        exact ⟨rfl, HT.out⟩
      · go_enter Try.func20, Try.ntmps20
        go_wp2_with (go_at_call 33; refine (made_cell _ c0 h1).mono ?_; rintro e w' ⟨rfl, hw'⟩; subst w')
        go_ret
        exact ⟨rfl, HT.out⟩
    · rw [if_neg hn]
      have HT : Hid (FsTo w O g m1 m2 { s with left := n, fault := e } ((w.setCell ⟨g, 4, none⟩ (.int .i64 n)).setCell ⟨g, 5, none⟩ (.int .i64 e))) := by
        refine FsAt.to (pv := pv) (bl := bl) (vs := vs) ?_ HF.out.lt ((Onl.set (a := ⟨g, 4, none⟩) HF.out.og _).then (Onl.set (a := ⟨g, 5, none⟩) HF.out.og _))
        have hk2 : ∀ k, k ≠ g → ((w.setCell ⟨g, 4, none⟩ (.int .i64 n)).setCell ⟨g, 5, none⟩ (.int .i64 e)).heap[k]? = w.heap[k]? := fun k hk => by rw [Below.heap_setCell _ _ _ _ hk, Below.heap_setCell _ _ _ _ hk]
        refine HF.out.setG (fun _ q => q) (fun k q => by have := HF.out.lt k q; simp [World.setCell]; exact this) (fun k _ hk _ => hk2 k hk) ?_ (HP.out _ hk2) HF.out.op
        have g1 := cells_set HF.out.hg 4 (.int .i64 n)
        have := cells_set g1 5 (.int .i64 e); simpa using this
      rcases he' with rfl | rfl
      · go_enter Try.func20, Try.ntmps20
        go_wp2_with (go_at_call 33; refine (made_cell _ c0 h1).mono ?_; rintro e w' ⟨rfl, hw'⟩; subst w')
        go_ret
        exact ⟨rfl, HT.out⟩
      · go_enter Try.func20, Try.ntmps20
        go_wp2_with (go_at_call 33; refine (made_cell _ c0 h1).mono ?_; rintro e w' ⟨rfl, hw'⟩; subst w')
        go_ret
        exact ⟨rfl, HT.out⟩
theorem FsAt.plan_to {w w' : World} {O : Nat → Prop} {g m1 m2 : Nat} {pv : Value} {bl : Nat → Nat} {vs : Nat → Value} {s s' : SfS} (h : FsAt w' O g m1 m2 pv bl vs s') (h0 : FsAt w O g m1 m2 pv bl vs s) (ho : Onl O w w') : FsTo w O g m1 m2 s' w' := h.to h0.lt ho
theorem sync_any {w : World} {O : Nat → Prop} {g m1 m2 : Nat} {pv : Value} {bl : Nat → Nat} {vs : Nat → Value} {s : SfS} (h : FsAt w O g m1 m2 pv bl vs s) (hw : SfWf s) (n : List UInt8) (hn : n.length ≤ maxLen) :
    Calls Try.prog 13 #[.pointer (some ⟨g, 0, none⟩), .string ⟨n.toArray⟩] w fun e w' => e = .returned (.int .i64 (sfSync s n).1) ∧ FsTo w O g m1 m2 (sfSync s n).2 w' := by
  have HF : Hid (FsAt w O g m1 m2 pv bl vs s) := h
  have HEnd : Hid (FsTo w O g m1 m2 s w) := h.to h.lt (Onl.refl _ _)
  have hfd := find_any h hw n hn
  have hpl := planned_any h hw
  have hdi := hw.di
  clear h hw
  unfold sfSync
  cases hL : sfLook n s.dir with
  | none =>
    rw [hL] at hfd
    simp only [sfPv, sfFe] at hfd
    go_enter Try.func13, Try.ntmps13
    go_wp2_with (go_at_call 36; refine hfd.mono ?_; rintro e w' ⟨rfl, hw'⟩; subst w')
    go_ret
    exact ⟨rfl, HEnd.out⟩
  | some i =>
    rw [hL] at hfd
    simp only [sfPv, sfFe] at hfd
    have hi : i < s.fls.length := (hdi _ (look_mem hL)).1
    simp only []
    by_cases hE : (sfPlan s).1 = 0
    · rw [if_pos hE]
      rw [hE] at hpl
      obtain ⟨S, HS⟩ := hid_ex (sfPlan s).2
      rw [← HS.out] at hpl ⊢
      have HFL : Hid (S.fls = s.fls) := by show S.fls = _; rw [HS.out]; exact sfPlan_fls s
      have HFI : Hid (S.fl i = s.fl i) := by show S.fl i = _; unfold SfS.fl; rw [HFL.out]
      rw [← HFI.out]
      have hi' : i < S.fls.length := by rw [HFL.out]; exact hi
      clear hE hL hi hdi
      go_enter Try.func13, Try.ntmps13
      go_wp2_with (go_at_call 36; refine hfd.mono ?_; rintro e w' ⟨rfl, hw'⟩; subst w')
      refine hpl.mono ?_
      rintro e w2 ⟨rfl, hf2, ho2, hs2⟩
      have HF2 : Hid (FsAt w2 O g m1 m2 pv bl vs S) := hf2
      have HO2 : Hid (Onl O w w2) := ho2
      clear hf2 ho2 hs2
      obtain ⟨hf, hb⟩ := HF2.out.file hi'
      obtain ⟨va, vc, hv, -⟩ := hb.form
      rw [hv] at hf
      have x0 := cell_of hf 0 _ rfl
      have x1 := cell_of hf 1 _ rfl
      have z1 : w2.frozen? ⟨bl i, 1, none⟩ = false := by simp [World.frozen?, hf]
      have HFF := (show Hid (w2.heap[bl i]? = some (.cells #[.slice va (S.fl i).1.length vc, .int .i64 ((S.fl i).2 : Int)] 69)) from hf)
      have HBB := (show Hid (BOwn w2 (vs i) (S.fl i).1) from hb)
      have HVV := (show Hid (vs i = .slice va (S.fl i).1.length vc) from hv)
      clear hf hb hv hfd hpl
      go_wp2_with fail
      go_ret
      refine ⟨rfl, FsAt.to (pv := pv) (bl := bl) (vs := updF vs i (vs i)) ?_ HF.out.lt (HO2.out.then (Onl.set (a := ⟨bl i, 1, none⟩) (HF2.out.fl.ob i hi') _))⟩
      refine HF2.out.setI (fun _ q => q) (fun k q => by have := HF2.out.lt k q; simp [World.setCell]; exact this) hi' (fun k _ hk _ => Below.heap_setCell _ _ _ _ hk) (v := vs i) ?_ (HBB.out.keep fun k hk => ?_) (fun k hk => .inl hk)
      · have := cells_set HFF.out 1 (.int .i64 ((S.fl i).1.length : Int))
        rw [HVV.out]
        simpa using this
      · obtain ⟨cur, hc⟩ := HBB.out.block hk
        exact Below.heap_setCell _ _ _ _ (ty_ne hc HFF.out (by decide))
    · rw [if_neg hE]
      have hE' : ((sfPlan s).1 == 0) = false := by simpa using hE
      go_enter Try.func13, Try.ntmps13
      go_wp2_with (first
        | (go_at_call 36; refine hfd.mono ?_; rintro e w' ⟨rfl, hw'⟩; subst w')
        | (go_at_call 37; refine hpl.mono ?_; rintro e w2 ⟨rfl, hf2, ho2, hs2⟩))
      go_ret
      exact ⟨rfl, hf2.to HF.out.lt ho2⟩
theorem syncDir_any {w : World} {O : Nat → Prop} {g m1 m2 : Nat} {pv : Value} {bl : Nat → Nat} {vs : Nat → Value} {s : SfS} (h : FsAt w O g m1 m2 pv bl vs s) (hw : SfWf s) :
    Calls Try.prog 14 #[.pointer (some ⟨g, 0, none⟩)] w fun e w' => e = .returned (.int .i64 (sfSyncDir s).1) ∧ FsTo w O g m1 m2 (sfSyncDir s).2 w' := by
  have HF : Hid (FsAt w O g m1 m2 pv bl vs s) := h
  have hpl := planned_any h hw
  have HW : Hid (SfWf s) := hw
  have h1 := hw.r1
  have c0 := h.c0
  clear h hw
  unfold sfSyncDir
  by_cases hE : (sfPlan s).1 = 0
  · rw [if_pos hE]
    rw [hE] at hpl
    obtain ⟨S, HS⟩ := hid_ex (sfPlan s).2
    rw [← HS.out] at hpl ⊢
    have HPE : Hid (S.pend = s.pend) := by show S.pend = _; rw [HS.out]; exact sfPlan_pend s
    have HWS : Hid (SfWf S) := by
      show SfWf S
      rw [HS.out]
      unfold sfPlan
      have q := HW.out
      split
      · exact q
      · split
        · exact ⟨q.r1, q.r2, by show _ ≤ s.left - 1; omega, by show s.left - 1 < _; have := q.l2; omega, q.di, q.oi, q.pi, q.ap, q.ln, q.sy⟩
        · exact ⟨q.r1, q.r2, q.l1, q.l2, q.di, q.oi, q.pi, q.ap, q.ln, q.sy⟩
    rw [← HPE.out]
    clear hE
    go_enter Try.func14, Try.ntmps14
    go_wp2_with (go_at_call 33; refine (made_cell _ c0 h1).mono ?_; rintro e w' ⟨rfl, hw'⟩; subst w')
    refine hpl.mono ?_
    rintro e w2 ⟨rfl, hf2, ho2, hs2⟩
    have HF2 : Hid (FsAt w2 O g m1 m2 pv bl vs S) := hf2
    have HO2 : Hid (Onl O w w2) := ho2
    clear hf2 ho2 hs2 hpl
    obtain ⟨pa, pc, hpv, -⟩ := HF2.out.hp.form
    have c3 := HF2.out.c3
    rw [hpv] at c3
    have hst := settle_any HF2.out HWS.out S.pend.length (Nat.le_refl _)
    clear hpv
    go_wp2_with (go_at_call 38; refine hst.mono ?_; rintro e w3 ⟨rfl, hf3, ho3⟩)
    go_ret
    exact ⟨rfl, hf3.to HF.out.lt (HO2.out.then ho3)⟩
  · rw [if_neg hE]
    have hE' : ((sfPlan s).1 == 0) = false := by simpa using hE
    go_enter Try.func14, Try.ntmps14
    go_wp2_with (first
      | (go_at_call 33; refine (made_cell _ c0 h1).mono ?_; rintro e w' ⟨rfl, hw'⟩; subst w')
      | (go_at_call 37; refine hpl.mono ?_; rintro e w2 ⟨rfl, hf2, ho2, hs2⟩))
    go_ret
    exact ⟨rfl, hf2.to HF.out.lt ho2⟩
end Go.Proofs.Ytijablmejjepaaa
