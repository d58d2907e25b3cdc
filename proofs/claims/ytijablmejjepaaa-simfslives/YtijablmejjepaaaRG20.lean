/- The document's file system: its calls, wherever it lies. -/
import Derived.Test.YtijablmejjepaaaRG19
import Derived.Test.YtijablmejjepaaaSFR
namespace Go.Proofs.Ytijablmejjepaaa
open Go.RowKit Go.Maps Go.Sort

theorem RfTo.r {w w' : World} {O : Nat → Prop} {g : Nat} {r : Int × SfS} (h : RfTo w w' O g r.2) (hw : SfWf r.2) : RfR w O (.pointer (some ⟨g, 0, none⟩)) r (.returned (.int .i64 r.1)) w' := by
  obtain ⟨⟨vf, vd, vo, vp, af, ee, fb, va, vb, hr⟩, ho⟩ := h
  exact ⟨rfl, ⟨hw, g, vf, vd, vo, vp, af, ee, fb, va, vb, rfl, hr⟩, ho⟩
theorem Rf.ptr {w : World} {O : Nat → Prop} {p : Value} {s : SfS} (h : Rf w O p s) : ∃ g, p = .pointer (some ⟨g, 0, none⟩) := by
  obtain ⟨_, g, _, _, _, _, _, _, _, _, _, h, _⟩ := h
  exact ⟨g, h⟩
theorem RfR.from {w w1 : World} {O : Nat → Prop} {p : Value} {r : Int × SfS} {e : Ending} {w' : World} (h : RfR w1 O p r e w') (h0 : ∀ k, O k → k < w.heap.size) (hb : Below w.heap.size w w1) : RfR w O p r e w' := by
  obtain ⟨h1, h2, h3⟩ := h
  have hs := hb.size
  have hs' := h3.size
  refine ⟨h1, h2.wider (fun k q => ?_) (Grw.lt h0 (by omega)), (onl_of_below hb).then h3⟩
  rcases q with q | q
  · exact .inl q
  · exact .inr ⟨by omega, q.2⟩
theorem Rf.create {w : World} {O : Nat → Prop} {p : Value} {s : SfS} (h : Rf w O p s) (n : List UInt8) (hn : n.length ≤ 100000) (hpn : s.pend.length < 1000000) (hfn : s.fls.length < 900000) : Calls Try.prog 21 #[p, .string ⟨n.toArray⟩] w (RfR w O p (sfCreate s n)) := by
  obtain ⟨hw, g, vf, vd, vo, vp, af, ee, fb, va, vb, rfl, ha⟩ := h
  exact (refCreate_any ha hw n hn hpn hfn).mono fun e w' ⟨he, ht⟩ => by subst he; exact ht.r (hw.create n)
theorem Rf.append {w : World} {O : Nat → Prop} {p : Value} {s : SfS} (h : Rf w O p s) (n : List UInt8) (bv : Value) (b : List UInt8) (hbl : b.length ≤ 1000000) (hR : ∀ w', Onl O w w' → Reads w' bv b) : Calls Try.prog 22 #[p, .string ⟨n.toArray⟩, bv] w (RfR w O p (sfAppend s n b)) := by
  obtain ⟨hw, g, vf, vd, vo, vp, af, ee, fb, va, vb, rfl, ha⟩ := h
  exact (refAppend_any ha hw n bv b hbl hR).mono fun e w' ⟨he, ht⟩ => by subst he; exact ht.r (hw.append n b)
theorem Rf.sync {w : World} {O : Nat → Prop} {p : Value} {s : SfS} (h : Rf w O p s) (n : List UInt8) : Calls Try.prog 23 #[p, .string ⟨n.toArray⟩] w (RfR w O p (sfSync s n)) := by
  obtain ⟨hw, g, vf, vd, vo, vp, af, ee, fb, va, vb, rfl, ha⟩ := h
  exact (refSync_any ha hw n).mono fun e w' ⟨he, ht⟩ => by subst he; exact ht.r (hw.sync n)
theorem Rf.rename {w : World} {O : Nat → Prop} {p : Value} {s : SfS} (h : Rf w O p s) (n m : List UInt8) (hm : m.length ≤ 100000) (hpn : s.pend.length < 1000000) : Calls Try.prog 24 #[p, .string ⟨n.toArray⟩, .string ⟨m.toArray⟩] w (RfR w O p (sfRename s n m)) := by
  obtain ⟨hw, g, vf, vd, vo, vp, af, ee, fb, va, vb, rfl, ha⟩ := h
  exact (refRename_any ha hw n m hm hpn).mono fun e w' ⟨he, ht⟩ => by subst he; exact ht.r (hw.rename n m)
theorem Rf.remove {w : World} {O : Nat → Prop} {p : Value} {s : SfS} (h : Rf w O p s) (n : List UInt8) (hpn : s.pend.length < 1000000) : Calls Try.prog 25 #[p, .string ⟨n.toArray⟩] w (RfR w O p (sfRemove s n)) := by
  obtain ⟨hw, g, vf, vd, vo, vp, af, ee, fb, va, vb, rfl, ha⟩ := h
  exact (refRemove_any ha hw n hpn).mono fun e w' ⟨he, ht⟩ => by subst he; exact ht.r (hw.remove n)
theorem Rf.syncDir {w : World} {O : Nat → Prop} {p : Value} {s : SfS} (h : Rf w O p s) (hpn : s.pend.length < 1000000) : Calls Try.prog 26 #[p] w (RfR w O p (sfSyncDir s)) := by
  obtain ⟨hw, g, vf, vd, vo, vp, af, ee, fb, va, vb, rfl, ha⟩ := h
  exact (refSyncDir_any ha hw hpn).mono fun e w' ⟨he, ht⟩ => by subst he; exact ht.r hw.syncDir
/-- Crash tells nothing. -/
theorem Rf.crash {w : World} {O : Nat → Prop} {p : Value} {s : SfS} (h : Rf w O p s) (n : Int) (kv : Value) (ks : List Int) (hK : ∀ w', Onl O w w' → KReads w' kv ks) (hpn : s.pend.length < 1000000) : Calls Try.prog 27 #[p, .int .i64 n, kv] w fun e w' => (∃ u, e = .returned u) ∧ Rf w' (Grw O w w') p (sfCrash s n ks) ∧ Onl O w w' := by
  obtain ⟨hw, g, vf, vd, vo, vp, af, ee, fb, va, vb, rfl, ha⟩ := h
  refine (refCrash_any ha hw n kv ks hK hpn).mono ?_
  rintro e w' ⟨hu, ⟨vf', vd', vo', vp', af', ee', fb', va', vb', hr⟩, ho⟩
  exact ⟨hu, ⟨hw.crash n ks, g, vf', vd', vo', vp', af', ee', fb', va', vb', rfl, hr⟩, ho⟩
theorem Rf.fail {w : World} {O : Nat → Prop} {p : Value} {s : SfS} (h : Rf w O p s) (n e0 : Int) (h2 : n < 9223372036854775808) : Calls Try.prog 28 #[p, .int .i64 n, .int .i64 e0] w (RfR w O p (sfFail s n e0)) := by
  obtain ⟨hw, g, vf, vd, vo, vp, af, ee, fb, va, vb, rfl, ha⟩ := h
  have hwf := hw.fail n e0 h2
  by_cases he : e0 = 81 ∨ e0 = 82
  · refine (refFail_any ha.c n e0 he).mono ?_
    rintro e w' ⟨rfl, hc, ho, hs⟩
    have hne : ¬ (e0 ≠ 81 ∧ e0 ≠ 82) := by omega
    have hon : Onl O w w' := ho.mono fun k hk => by subst hk; exact ha.og
    have hrow : ∀ {v : Value} {e : TypeId} {n m : Nat} {xs : List Value}, GOwn w e m v n xs → e ≠ 48 → GOwn w' e m v n xs := fun hg h1 => hg.keep fun k hk' => by
      obtain ⟨cur, hb⟩ := hg.block hk'
      exact ho.block k (Array.getElem?_eq_some_iff.1 hb).1 (ty_ne hb ha.c h1)
    unfold sfFail at hwf ⊢
    rw [if_neg hne] at hwf ⊢
    by_cases hn : n < 0
    · rw [if_pos hn] at hwf hc ⊢
      refine RfTo.r (r := (0, { s with fault := 0 })) ⟨⟨vf, vd, vo, vp, -1, e0, fb, va, vb, ?_⟩, hon⟩ hwf
      exact ha.re (D := s.dir) (P := s.old) (A := s.pend) (L := s.left) (F := 0) (fun k q => .inl q) (Grw.lt ha.lt hon.size) (fun k hk hg _ => ho.block k (ha.lt k hk) hg) hc (.inl ⟨rfl, rfl⟩) (hrow ha.hd (by decide)) (hrow ha.ho (by decide)) (hrow ha.hp (by decide)) (fun k hk => .inl (ha.od k hk)) (fun k hk => .inl (ha.oo k hk)) (fun k hk => .inl (ha.op k hk))
    · rw [if_neg hn] at hwf hc ⊢
      refine RfTo.r (r := (0, { s with left := n, fault := e0 })) ⟨⟨vf, vd, vo, vp, n, e0, fb, va, vb, ?_⟩, hon⟩ hwf
      exact ha.re (D := s.dir) (P := s.old) (A := s.pend) (L := n) (F := e0) (fun k q => .inl q) (Grw.lt ha.lt hon.size) (fun k hk hg _ => ho.block k (ha.lt k hk) hg) hc (.inr ⟨by show e0 ≠ 0; omega, rfl, rfl, by show 0 ≤ n; omega⟩) (hrow ha.hd (by decide)) (hrow ha.ho (by decide)) (hrow ha.hp (by decide)) (fun k hk => .inl (ha.od k hk)) (fun k hk => .inl (ha.oo k hk)) (fun k hk => .inl (ha.op k hk))
  · refine (refFail_no n e0 (by omega) (by omega)).mono ?_
    rintro e w' ⟨rfl, rfl⟩
    have hne : e0 ≠ 81 ∧ e0 ≠ 82 := by omega
    unfold sfFail
    rw [if_pos hne]
    exact ha.to.r (r := (1, s)) hw
theorem rf_new (r : Int) (w : World) (h : 1 ≤ r) (h2 : r < 9223372036854775808) : Calls Try.prog 5 #[.int .i64 r] w fun e w' => ∃ p, e = .returned (.tuple #[p, .int .i64 0]) ∧ Rf w' (fun k => w.heap.size ≤ k ∧ k < w'.heap.size) p (sfZ r) ∧ Below w.heap.size w w' := by
  refine (refNew_any r h w).mono ?_
  rintro e w' ⟨rfl, hc, hb, hs⟩
  refine ⟨_, rfl, ?_, hb⟩
  have hwf : SfWf (sfZ r) := ⟨h, h2, by show (-9223372036854775808 : Int) ≤ 0; omega, by show (0 : Int) < 9223372036854775808; omega, fun p hp => by simp [sfZ] at hp, fun p hp => by simp [sfZ] at hp, fun a ha => by simp [sfZ] at ha, rfl, fun k => by simp [sfZ], fun i f hf => by simp [sfZ] at hf⟩
  exact ⟨hwf, w.heap.size, _, _, _, _, _, _, fun _ => 0, fun _ => .slice none 0 0, fun _ => .slice none 0 0, rfl, ⟨fun k hk => hk.2, ⟨Nat.le_refl _, by omega⟩, hc, .inl ⟨rfl, rfl⟩, GOwn.nil _ _ _, GOwn.nil _ _ _, GOwn.nil _ _ _, GOwn.nil _ _ _, fun k hk => by simp [Value.ownBlock] at hk, fun k hk => by simp [Value.ownBlock] at hk, fun k hk => by simp [Value.ownBlock] at hk, fun k hk => by simp [Value.ownBlock] at hk, ⟨fun i hi => by simp [sfZ] at hi, fun i j hi => by simp [sfZ] at hi, fun i f hf => by simp [sfZ] at hf, fun i f hf => by simp [sfZ] at hf, fun i f hf => by simp [sfZ] at hf, fun i hi => by simp [sfZ] at hi, fun i hi => by simp [sfZ] at hi, fun i j hi => by simp [sfZ] at hi⟩⟩⟩
end Go.Proofs.Ytijablmejjepaaa
