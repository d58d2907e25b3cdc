/- MFx MY1x MY2x C1s MY3x, joined. -/
import Derived.Test.YtilbffgpniomcaaGreatDoorQQ1
import Derived.Test.YtilbffgpniomcaaGreatDoorQQ2
import Derived.Test.YtilbffgpniomcaaGreatDoorQQ15
/- ManifestBack: the walk (written by mkmfx.py). -/
namespace Go.Proofs.YtilbffgpniomcaaGreatDoor
open Go.RowKit Go.Shelf

theorem sm_edZ : smI edZ := by unfold smI; decide
theorem edW_Z : edE (edW edZ) = 0 := by
  unfold edW
  rw [if_neg (by simp [edZ]), if_pos (by decide)]
  rfl
theorem edR_sm {b : List UInt8} {x : Ed} (h : edR b = some x) : smI x := by
  unfold edR at h
  cases h1 : nxN 64 b with
  | none => rw [h1] at h; cases h
  | some q =>
    obtain ⟨n, b1⟩ := q
    rw [h1] at h; simp only at h
    cases h2 : nxs n.toNat b1 with
    | none => rw [h2] at h; cases h
    | some q =>
      obtain ⟨ds, b2⟩ := q
      rw [h2] at h; simp only at h
      cases h3 : nxN 64 b2 with
      | none => rw [h3] at h; cases h
      | some q =>
        obtain ⟨m, b3⟩ := q
        rw [h3] at h; simp only at h
        cases h4 : nxs (3 * m.toNat) b3 with
        | none => rw [h4] at h; cases h
        | some q =>
          obtain ⟨rs, b4⟩ := q
          rw [h4] at h; simp only at h
          cases h5 : nxs 3 b4 with
          | none => rw [h5] at h; cases h
          | some q =>
            obtain ⟨t, b5⟩ := q
            rw [h5] at h; simp only at h
            by_cases h6 : b5 = []
            · rw [if_pos h6] at h
              simp only [Option.some.injEq] at h
              subst h6 h
              obtain ⟨a1, a2, a3⟩ := nx_inv h1
              obtain ⟨c1, c2, c3⟩ := nxs_inv _ h2
              obtain ⟨d1, d2, d3⟩ := nx_inv h3
              obtain ⟨e1, e2, e3⟩ := nxs_inv _ h4
              obtain ⟨f1, f2, f3⟩ := nxs_inv _ h5
              obtain ⟨lo, ne, ma, rfl⟩ := three_of f1
              obtain ⟨g1, g2⟩ := flat_ruN m.toNat rs e1
              intro v hv
              unfold nmE at hv
              simp only [g1, g2, c1] at hv
              rw [List.mem_cons, List.mem_append, List.mem_cons, List.mem_append] at hv
              rcases hv with rfl | hv | rfl | hv | hv
              · omega
              · exact (c2 v hv).2
              · omega
              · exact (e2 v hv).2
              · exact (f2 v hv).2
            · rw [if_neg h6] at h; cases h
end Go.Proofs.YtilbffgpniomcaaGreatDoor

/- manifest: the reference's way of reading is the program's, plainly. -/
namespace Go.Proofs.YtilbffgpniomcaaGreatDoor
open Go.RowKit Go.Shelf

/-- All numbers, at most k of them. -/
def rdA : Nat → List UInt8 → Option (List Int × List UInt8)
  | 0, b => some ([], b)
  | k + 1, b => if b = [] then some ([], []) else match nxN big b with
    | none => none
    | some (v, r) => match rdA k r with
      | none => none
      | some (l, r') => some (v :: l, r')
/-- An edit of numbers. -/
def edL (l : List Int) : Option Ed :=
  if l.length = 0 ∨ 64 < l.getD 0 0 ∨ l.length < (l.getD 0 0).toNat + 2 then none
  else if 64 < l.getD (1 + (l.getD 0 0).toNat) 0 ∨ (l.drop (2 + (l.getD 0 0).toNat)).length ≠ 3 * (l.getD (1 + (l.getD 0 0).toNat) 0).toNat + 3 then none
  else some ⟨(l.drop 1).take (l.getD 0 0).toNat, ruN ((l.drop (2 + (l.getD 0 0).toNat)).take (3 * (l.getD (1 + (l.getD 0 0).toNat) 0).toNat)),
    (l.drop (2 + (l.getD 0 0).toNat)).getD (3 * (l.getD (1 + (l.getD 0 0).toNat) 0).toNat) 0, (l.drop (2 + (l.getD 0 0).toNat)).getD (3 * (l.getD (1 + (l.getD 0 0).toNat) 0).toNat + 1) 0, (l.drop (2 + (l.getD 0 0).toNat)).getD (3 * (l.getD (1 + (l.getD 0 0).toNat) 0).toNat + 2) 0⟩
def refR (b : List UInt8) : Option Ed := match rdA 300 b with
  | none => none
  | some (l, r) => if r = [] then edL l else none
def inN (l : List Int) : Prop := ∀ v ∈ l, 0 ≤ v ∧ v ≤ 9223372036854775807
theorem sh_ne (n : Nat) : sh n ≠ [] := by rw [sh]; split <;> simp
theorem rdA_sh : ∀ (l : List Int) (k : Nat), l.length ≤ k → inN l → rdA k (shB l) = some (l, [])
  | [], 0, _, _ => rfl
  | [], k + 1, _, _ => by unfold rdA; rw [if_pos (show shB [] = [] from rfl)]
  | v :: l, 0, h, _ => by simp at h
  | v :: l, k + 1, h, hb => by
    have hv := hb v (List.mem_cons_self ..)
    have hx : nxN big (sh v.toNat ++ shB l) = some (v, shB l) := by
      rw [nx_sh (by unfold big; omega) (by omega), Int.toNat_of_nonneg hv.1]
    have hne : sh v.toNat ++ shB l ≠ [] := fun e => sh_ne _ (List.append_eq_nil_iff.1 e).1
    unfold rdA
    rw [shB_cons, if_neg hne, hx]
    simp only
    rw [rdA_sh l k (by simpa using h) fun x hx => hb x (List.mem_cons_of_mem _ hx)]
theorem rdA_inv : ∀ (k : Nat) {b r : List UInt8} {l : List Int}, rdA k b = some (l, r) → b = shB l ++ r ∧ inN l
  | 0, b, r, l, h => by
    simp only [rdA, Option.some.injEq, Prod.mk.injEq] at h
    obtain ⟨rfl, rfl⟩ := h
    exact ⟨rfl, fun v hv => by cases hv⟩
  | k + 1, b, r, l, h => by
    unfold rdA at h
    split at h
    · rename_i hb
      simp only [Option.some.injEq, Prod.mk.injEq] at h
      obtain ⟨rfl, rfl⟩ := h
      subst hb
      exact ⟨rfl, fun v hv => by cases hv⟩
    · cases hc : nxN big b with
      | none => rw [hc] at h; cases h
      | some q =>
        obtain ⟨v, r1⟩ := q
        rw [hc] at h
        simp only at h
        cases hd : rdA k r1 with
        | none => rw [hd] at h; cases h
        | some q =>
          obtain ⟨l1, r2⟩ := q
          rw [hd] at h
          simp only [Option.some.injEq, Prod.mk.injEq] at h
          obtain ⟨rfl, rfl⟩ := h
          obtain ⟨a1, a2, a3⟩ := nx_inv hc
          obtain ⟨b1, b2⟩ := rdA_inv k hd
          unfold big at a2
          refine ⟨by rw [a3, b1, shB_cons, List.append_assoc], fun x hx => ?_⟩
          rcases List.mem_cons.1 hx with rfl | hx
          · exact ⟨a1, by omega⟩
          · exact b2 x hx
theorem edL_nm {x : Ed} (h1 : x.dr.length ≤ 64) (h2 : x.ad.length ≤ 64) : edL (nmE x) = some x := by
  obtain ⟨dr, ad, lo, ne, ma⟩ := x
  simp only at h1 h2
  have e : nmE ⟨dr, ad, lo, ne, ma⟩ = (dr.length : Int) :: (dr ++ ((ad.length : Int) :: (ad.flatMap Ru.n ++ [lo, ne, ma]))) := rfl
  rw [e]
  have hg0 : ((dr.length : Int) :: (dr ++ ((ad.length : Int) :: (ad.flatMap Ru.n ++ [lo, ne, ma])))).getD 0 0 = (dr.length : Int) := rfl
  have hg1 : ((dr.length : Int) :: (dr ++ ((ad.length : Int) :: (ad.flatMap Ru.n ++ [lo, ne, ma])))).getD (1 + dr.length) 0 = (ad.length : Int) := by
    rw [show 1 + dr.length = dr.length + 1 by omega]
    simp [List.getD]
  have hd : ((dr.length : Int) :: (dr ++ ((ad.length : Int) :: (ad.flatMap Ru.n ++ [lo, ne, ma])))).drop (2 + dr.length) = ad.flatMap Ru.n ++ [lo, ne, ma] := by
    rw [show 2 + dr.length = (dr.length + 1) + 1 by omega, List.drop_succ_cons, List.drop_append, List.drop_eq_nil_of_le (by omega), List.nil_append, show dr.length + 1 - dr.length = 1 by omega]
    rfl
  have hl3 := len3 ad
  unfold edL
  rw [hg0, Int.toNat_natCast, hg1, Int.toNat_natCast, hd]
  rw [if_neg (by simp only [List.length_cons, List.length_append]; omega), if_neg (by rw [List.length_append, hl3]; simp only [List.length_cons, List.length_nil]; omega)]
  have ht : (ad.flatMap Ru.n ++ [lo, ne, ma]).take (3 * ad.length) = ad.flatMap Ru.n := by rw [← hl3, List.take_left]
  have hdr : (((dr.length : Int) :: (dr ++ ((ad.length : Int) :: (ad.flatMap Ru.n ++ [lo, ne, ma])))).drop 1).take dr.length = dr := by simp
  have k0 : (ad.flatMap Ru.n ++ [lo, ne, ma]).getD (3 * ad.length) 0 = lo := by simp only [List.getD]; rw [← hl3, List.getElem?_append_right (Nat.le_refl _)]; simp
  have k1 : (ad.flatMap Ru.n ++ [lo, ne, ma]).getD (3 * ad.length + 1) 0 = ne := by simp only [List.getD]; rw [← hl3, List.getElem?_append_right (by omega)]; simp
  have k2 : (ad.flatMap Ru.n ++ [lo, ne, ma]).getD (3 * ad.length + 2) 0 = ma := by simp only [List.getD]; rw [← hl3, List.getElem?_append_right (by omega)]; simp
  rw [ht, hdr, k0, k1, k2, ruN_flat]
theorem edL_inv {l : List Int} {x : Ed} (h : edL l = some x) (hb : inN l) : nmE x = l ∧ x.dr.length ≤ 64 ∧ x.ad.length ≤ 64 := by
  unfold edL at h
  split at h
  · cases h
  · rename_i c1
    split at h
    · cases h
    · rename_i c2
      simp only [Option.some.injEq] at h
      cases l with
      | nil => simp at c1
      | cons n0 l =>
        have hn0 := hb n0 (List.mem_cons_self ..)
        obtain ⟨n, rfl⟩ : ∃ n : Nat, n0 = (n : Int) := ⟨n0.toNat, by omega⟩
        have hg0 : ((n : Int) :: l).getD 0 0 = (n : Int) := rfl
        rw [hg0, Int.toNat_natCast] at c1 c2 h
        simp only [List.length_cons] at c1
        have hnl : n + 1 ≤ l.length := by omega
        have hn64 : n ≤ 64 := by omega
        obtain ⟨ds, l2, rfl, hds⟩ : ∃ ds l2, l = ds ++ l2 ∧ ds.length = n := ⟨l.take n, l.drop n, (List.take_append_drop _ _).symm, by rw [List.length_take]; omega⟩
        cases l2 with
        | nil => simp at hnl; omega
        | cons m0 rest =>
          have hm0 := hb m0 (by simp)
          obtain ⟨m, rfl⟩ : ∃ m : Nat, m0 = (m : Int) := ⟨m0.toNat, by omega⟩
          have hg1 : ((n : Int) :: (ds ++ ((m : Int) :: rest))).getD (1 + n) 0 = (m : Int) := by
            rw [show 1 + n = n + 1 by omega, ← hds]
            simp [List.getD]
          have hd : ((n : Int) :: (ds ++ ((m : Int) :: rest))).drop (2 + n) = rest := by
            rw [show 2 + n = (n + 1) + 1 by omega, List.drop_succ_cons, ← hds, List.drop_append, List.drop_eq_nil_of_le (by omega), List.nil_append, show ds.length + 1 - ds.length = 1 by omega]
            rfl
          rw [hg1, Int.toNat_natCast, hd] at c2 h
          have hrl : rest.length = 3 * m + 3 := by omega
          have hm64 : m ≤ 64 := by omega
          have hdt : (((n : Int) :: (ds ++ ((m : Int) :: rest))).drop 1).take n = ds := by rw [← hds]; simp
          obtain ⟨rs, t, rfl, hrs⟩ : ∃ rs t, rest = rs ++ t ∧ rs.length = 3 * m := ⟨rest.take (3 * m), rest.drop (3 * m), (List.take_append_drop _ _).symm, by rw [List.length_take]; omega⟩
          have ht3 : t.length = 3 := by rw [List.length_append] at hrl; omega
          obtain ⟨lo, ne, ma, rfl⟩ := three_of ht3
          obtain ⟨g1, g2⟩ := flat_ruN m rs hrs
          have htk : (rs ++ [lo, ne, ma]).take (3 * m) = rs := by rw [← hrs, List.take_left]
          have k0 : (rs ++ [lo, ne, ma]).getD (3 * m) 0 = lo := by simp only [List.getD]; rw [← hrs, List.getElem?_append_right (Nat.le_refl _)]; simp
          have k1 : (rs ++ [lo, ne, ma]).getD (3 * m + 1) 0 = ne := by simp only [List.getD]; rw [← hrs, List.getElem?_append_right (by omega)]; simp
          have k2 : (rs ++ [lo, ne, ma]).getD (3 * m + 2) 0 = ma := by simp only [List.getD]; rw [← hrs, List.getElem?_append_right (by omega)]; simp
          rw [hdt, htk, k0, k1, k2] at h
          subst h
          refine ⟨?_, by simp only; omega, by simp only; omega⟩
          unfold nmE
          simp only [g1, g2, hds]
theorem refR_edR (b : List UInt8) : refR b = edR b := by
  have hA : ∀ x, edR b = some x → refR b = some x := fun x h => by
    have hw := edW_rd h
    have hs := edR_sm h
    unfold edW at hw
    split at hw
    · cases hw
    · rename_i c
      split at hw
      · rename_i ho
        simp only [Option.some.injEq] at hw
        have hin : inN (nmE x) := fun v hv => ⟨by have := List.all_eq_true.1 ho v hv; simpa using this, hs v hv⟩
        unfold refR
        rw [← hw, rdA_sh _ 300 (by rw [nmE_len]; omega) hin]
        simp only
        rw [if_pos trivial, edL_nm (by omega) (by omega)]
      · cases hw
  have hB : ∀ x, refR b = some x → edR b = some x := fun x h => by
    unfold refR at h
    cases hr : rdA 300 b with
    | none => rw [hr] at h; cases h
    | some q =>
      obtain ⟨l, r⟩ := q
      rw [hr] at h
      simp only at h
      split at h
      · rename_i h0
        subst h0
        obtain ⟨e1, e2⟩ := rdA_inv 300 hr
        obtain ⟨f1, f2, f3⟩ := edL_inv h e2
        rw [List.append_nil] at e1
        refine edR_wr ?_ fun v hv => (e2 v (by rw [← f1]; exact hv)).2
        unfold edW
        rw [if_neg (by omega), f1, if_pos (show okN l = true from List.all_eq_true.2 fun v hv => by have := (e2 v hv).1; simpa using this), ← e1]
      · cases h
  cases hr : refR b with
  | some x => exact (hB x hr).symm
  | none =>
    cases he : edR b with
    | none => rfl
    | some x => rw [hA x he] at hr; cases hr
end Go.Proofs.YtilbffgpniomcaaGreatDoor

/- The reference of layer 13: numbers. -/
namespace Go.Proofs.YtilbffgpniomcaaGreatDoor
open Go.RowKit Go.Shelf

/-- A row of int that grows. -/
structure IG (base : Nat) (w W : World) (v : Value) (l : List Int) : Prop where
  o : GOwn W 3 1 v l.length (l.map ji)
  k : ∀ k, v.ownBlock = some k → base ≤ k ∧ k < W.heap.size
  b : Below base w W
theorem IG.below {base : Nat} {w W W' : World} {v : Value} {l : List Int} (h : IG base w W v l) (hb : Below W.heap.size W W') (hs : base ≤ W.heap.size) : IG base w W' v l :=
  ⟨GOwn.keep h.o fun k q => hb.block k (h.k k q).2, fun k q => ⟨(h.k k q).1, Nat.lt_of_lt_of_le (h.k k q).2 hb.size⟩, h.b.trans (hb.mono hs)⟩
theorem IG.src {base : Nat} {w W : World} {v : Value} {l : List Int} (h : IG base w W v l) (hs : base ≤ W.heap.size) {W1 : World} (hb1 : Below W.heap.size W W1) {vx : Value} {ns : List Int} (hx : GSrc W1 1 vx ns.length (ns.map ji)) (hl : l.length + ns.length < 1000000) :
    ∃ v' w', (Builtin.append_ #[50, 50] 50 #[v, vx]).run Tryz.prog W1 = .ok v' w' ∧ IG base w w' v' (l ++ ns) ∧ base ≤ w'.heap.size := by
  obtain ⟨i0, hi, hz0, hz1, hz2⟩ := info_parts infoI13
  have h1 := h.below hb1 hs
  have hs1 := hb1.size
  obtain ⟨v', w', g1, g2, g3, g4⟩ := run_gapp (P := Tryz.prog) 50 50 3 i0 _ 1 8 Tryz.underlying50 hi hz0 hz1 hz2 rfl v l.length _ h1.o vx ns.length _ hx (by
    intro u hu
    obtain ⟨x, _, rfl⟩ := List.mem_map.1 hu
    rfl) (by simp only [maxLen]; omega) (by omega)
  have hsz := g3.size
  refine ⟨v', w', g1, ⟨?_, fun k q => ?_, h1.b.grown g3 (by omega) fun k e => (h1.k k e).1⟩, by omega⟩
  · rw [List.length_append, List.map_append]; exact g2
  · rcases g4 k q with z | z
    · have := h1.k k z; omega
    · omega
theorem src_new (W : World) (ns : List Int) : GSrc (W.alloc (.cells (ns.map ji).toArray 3)) 1 (.slice (some ⟨W.heap.size, 0, none⟩) ns.length ns.length) ns.length (ns.map ji) := by
  have hb4 := heap_alloc_new W (.cells (ns.map ji).toArray 3)
  refine ⟨by simp, .inr ⟨_, _, rfl, fun k u hq => ?_⟩⟩
  have ea : (⟨W.heap.size, 0, none⟩ : Addr).add k = ⟨W.heap.size, k, none⟩ := by simp [Addr.add]; omega
  rw [ea]
  simp only [World.cell?, hb4]
  simpa using hq
theorem src_jr {W : World} {v : Value} {ns : List Int} (h : JR W v ns) (hz : ∀ n c, v = .slice none n c → c = 0) : GSrc W 1 v ns.length (ns.map ji) := by
  obtain ⟨a, cap, rfl, hm⟩ := h.form
  refine ⟨by simp, ?_⟩
  cases a with
  | none =>
    left
    have hc := hz _ _ rfl
    have hl : ns.length = 0 := by
      rcases Nat.eq_zero_or_pos ns.length with h0 | h0
      · exact h0
      · obtain ⟨b, off, e, _⟩ := h.at h0 rfl
        cases e
    rw [hc, hl]; exact ⟨rfl, rfl⟩
  | some ad =>
    right
    refine ⟨ad, cap, rfl, fun j u hj => ?_⟩
    have hjl : j < ns.length := by simpa using (List.getElem?_eq_some_iff.1 hj).1
    obtain ⟨b, off, e, hb, hc⟩ := h.at hjl rfl
    simp only [Option.some.injEq] at e
    subst e
    have ea : (⟨b, off, none⟩ : Addr).add j = ⟨b, off + j, none⟩ := by simp [Addr.add]
    rw [ea, hc]
    rw [List.getElem?_map, List.getElem?_eq_getElem hjl] at hj
    simpa [ji] using hj
theorem IG.appN {base : Nat} {w W : World} {v : Value} {l : List Int} (h : IG base w W v l) (hs : base ≤ W.heap.size) (ns : List Int) (hl : l.length + ns.length < 1000000) :
    ∃ v' w', (Builtin.append_ #[50, 50] 50 #[v, .slice (some ⟨W.heap.size, 0, none⟩) ns.length ns.length]).run Tryz.prog (W.alloc (.cells (ns.map ji).toArray 3)) = .ok v' w' ∧ IG base w w' v' (l ++ ns) ∧ base ≤ w'.heap.size :=
  h.src hs ((Below.refl _ _).alloc (Nat.le_refl _) _) (src_new W ns) hl
end Go.Proofs.YtilbffgpniomcaaGreatDoor

/- The contracts of the reference's Short and ReadShort (in a seat of layer 13). -/
namespace Go.Proofs.YtilbffgpniomcaaGreatDoor
open Go.RowKit

theorem own_below {w w' : World} {base : Nat} {e : TypeId} {v : Value} {n : Nat} {xs : List Value} (h : w.ownsRow base e 1 v n xs) (hb : Below w.heap.size w w') : w'.ownsRow base e 1 v n xs := by
  refine ⟨h.1, ?_⟩
  rcases h.2 with h2 | ⟨g, cap, cur, hv, hg, hw, r⟩
  · exact .inl h2
  · refine .inr ⟨g, cap, cur, hv, hg, ?_, r⟩
    rw [hb.block g (Array.getElem?_eq_some_iff.1 hw).1]; exact hw
set_option maxRecDepth 100000 in
set_option maxHeartbeats 1000000 in
theorem refReadShort_some (b off cap : Nat) (l : List UInt8) (h0 : 0 < l.length) (w : World) (hc : ∀ j (h : j < l.length), w.cell? ⟨b, off + j, none⟩ = some (bc l[j])) :
    Calls Tryz.prog 42 #[.slice (some ⟨b, off, none⟩) l.length cap] w fun e w' => e = .returned (.tuple #[.int .u64 (rsF l 0 0).1, .int .i64 (rsF l 0 0).2.1, .int .i64 (rsF l 0 0).2.2]) ∧ Below w.heap.size w w' := by
  go_enter Tryz.func42, Tryz.ntmps42
  go_wp2_with fail
  go_loop [5, 6, 7] (fun x wo i => ∃ k v : Nat, k ≤ l.length ∧ wo = .int .u64 ((128 ^ k : Nat) : Int) ∧ k ≤ 9 ∧ v < 128 ^ k ∧ i = .int .i64 (k : Int) ∧ x = .int .u64 (v : Int) ∧ rsF (l.drop k) k v = rsF l 0 0) (fun _ _ i => l.length - (intOf i).toNat)
  case atStart => exact ⟨0, 0, by omega, rfl, by omega, by decide, rfl, rfl, rfl⟩
  case round =>
    obtain ⟨k, v, hk, rfl, hk9, hv, rfl, rfl, hF⟩ := hrel
    by_cases hlt : k < l.length
    · have hcell := hc k hlt
      have hki : (k : Int) < (l.length : Int) := by omega
      rw [List.drop_eq_getElem_cons hlt, rsF_cons] at hF
      generalize l[k] = x at *
      have hx : x.toNat < 256 := UInt8.toNat_lt x
      unfold bc at hcell
      generalize x.toNat = y at *
      clear hc
      by_cases h9 : k = 9 ∧ 1 < y
      · rw [if_pos h9] at hF
        have HF : Hid _ := hF.symm
        have i1 : ((k : Int) == 9) = true := by simp; omega
        have i2 : ((y : Int) != 0) = true := by simp; omega
        have i3 : ((y : Int) != 1) = true := by simp; omega
        generalize 128 ^ k = q at *
        clear hF h9
        go_wp2_with fail
        go_ret3
        exact ⟨by rw [HF.out]; rfl, Below.refl _ _⟩
      · rw [if_neg h9] at hF
        have hfit := short_fit (y % 128) k hk9 (by omega) (fun h => by omega)
        have hp := pow128 k hk9
        have hw0 : ((y % 128 : Nat) : Int) = (y : Int) % 128 := by omega
        obtain ⟨Z, hZ⟩ : ∃ Z, Z = y % 128 * 128 ^ k := ⟨_, rfl⟩
        have hw1 : IntKind.u64.wrap ((y : Int) % 128 * ((128 ^ k : Nat) : Int)) = (Z : Int) := by
          rw [← hw0, ← Int.natCast_mul, IntKind.wrap_u64, hZ]; omega
        have hw2 : IntKind.u64.wrap ((v : Int) + (Z : Int)) = ((v + Z : Nat) : Int) := by
          rw [IntKind.wrap_u64]; omega
        rw [← hZ] at hF hfit
        by_cases h128 : 128 ≤ y
        · rw [if_pos h128] at hF
          have HF : Hid _ := hF
          have hk8 : k ≤ 8 := by omega
          have i1 : ¬ (y : Int) < 128 := by omega
          have i3 : ((k : Int) == 9) = false := by simp; omega
          have hp1 := pow128 (k + 1) (by omega)
          have hpe : 128 ^ (k + 1) = 128 ^ k * 128 := Nat.pow_succ ..
          have HV2 : Hid (v + Z < 128 ^ (k + 1)) := by
            have h2 : y % 128 * 128 ^ k ≤ 127 * 128 ^ k := Nat.mul_le_mul_right _ (by omega)
            unfold Hid; rw [hZ, hpe]; generalize 128 ^ k = q at *; omega
          have hw3 : IntKind.u64.wrap (((128 ^ k : Nat) : Int) * 128) = ((128 ^ (k + 1) : Nat) : Int) := by
            rw [IntKind.wrap_u64, hpe]; generalize 128 ^ k = q at *; omega
          generalize hq : 128 ^ k = q at *
          generalize hq1 : 128 ^ (k + 1) = q1 at *
          clear hF h9 h128 hpe hp hp1 hZ hfit hw0
          go_wp2_with fail
          go_round
          case rel => exact ⟨k + 1, v + Z, by omega, by rw [hq1], by omega, by rw [hq1]; exact HV2.out, by go_num, by go_num, HF.out⟩
          case measure => simp [intOf]; omega
        · rw [if_neg h128] at hF
          have i1 : (y : Int) < 128 := by omega
          generalize 128 ^ k = q at *
          clear hp hfit hw0 hZ
          by_cases h00 : y = 0 ∧ 0 < k
          · rw [if_pos h00] at hF
            have HF : Hid _ := hF.symm
            have i2 : ((y : Int) == 0) = true := by simp; omega
            have i4 : (0 : Int) < (k : Int) := by omega
            have i7 : ((y : Int) != 0) = false := by simp; omega
            by_cases i5 : k = 9
            · have i3 : ((k : Int) == 9) = true := by simp; omega
              clear hF h9 h128 h00 i5
              go_wp2_with fail
              go_ret3
              exact ⟨by rw [HF.out]; rfl, Below.refl _ _⟩
            · have i3 : ((k : Int) == 9) = false := by simp; omega
              clear hF h9 h128 h00 i5
              go_wp2_with fail
              go_ret3
              exact ⟨by rw [HF.out]; rfl, Below.refl _ _⟩
          · rw [if_neg h00] at hF
            have HF : Hid _ := hF.symm
            by_cases h9b : k = 9
            · have i3 : ((k : Int) == 9) = true := by simp; omega
              have i7 : ((y : Int) != 0) = true := by simp; omega
              have i8 : ((y : Int) != 1) = false := by simp; omega
              have i9 : ((y : Int) == 0) = false := by simp; omega
              clear hF h9 h128 h00 h9b
              go_wp2_with fail
              go_ret3
              exact ⟨by rw [HF.out]; rfl, Below.refl _ _⟩
            · have i3 : ((k : Int) == 9) = false := by simp; omega
              by_cases hy0 : y = 0
              · have i9 : ((y : Int) == 0) = true := by simp; omega
                have i4 : ¬ (0 : Int) < (k : Int) := by omega
                clear hF h9 h128 h00 h9b hy0
                go_wp2_with fail
                go_ret3
                exact ⟨by rw [HF.out]; rfl, Below.refl _ _⟩
              · have i9 : ((y : Int) == 0) = false := by simp; omega
                clear hF h9 h128 h00 h9b hy0
                go_wp2_with fail
                go_ret3
                exact ⟨by rw [HF.out]; rfl, Below.refl _ _⟩
    · have hke : k = l.length := by omega
      subst hke
      rw [List.drop_length] at hF
      have HF : Hid _ := hF.symm
      clear hc hF
      generalize 128 ^ l.length = q at *
      go_wp2_with fail
      go_ret3
      exact ⟨by rw [HF.out]; rfl, Below.refl _ _⟩
set_option maxRecDepth 100000 in
set_option maxHeartbeats 1000000 in
theorem refReadShort_none (a : Option Addr) (cap : Nat) (w : World) :
    Calls Tryz.prog 42 #[.slice a 0 cap] w fun e w' => e = .returned (.tuple #[.int .u64 0, .int .i64 0, .int .i64 10]) ∧ Below w.heap.size w w' := by
  go_enter Tryz.func42, Tryz.ntmps42
  go_wp2_with fail
  go_loop [7] (fun i => i = .int .i64 0) (fun _ => 0)
  case atStart => rfl
  case round =>
    obtain rfl := hrel
    go_wp2_with fail
    go_ret3
    exact ⟨rfl, Below.refl _ _⟩
theorem refReadShort_any (v : Value) (l : List UInt8) (w : World) (h : Reads w v l) :
    Calls Tryz.prog 42 #[v] w fun e w' => e = .returned (.tuple #[.int .u64 (rsF l 0 0).1, .int .i64 (rsF l 0 0).2.1, .int .i64 (rsF l 0 0).2.2]) ∧ Below w.heap.size w w' := by
  rcases h with ⟨rfl, a, cap, rfl, _⟩ | ⟨b, off, cap, rfl, h2, h3, h4, h5, h6⟩
  · exact refReadShort_none a cap w
  · exact refReadShort_some b off cap l h2 w h6
end Go.Proofs.YtilbffgpniomcaaGreatDoor

/- The reference of layer 13: Write. -/
namespace Go.Proofs.YtilbffgpniomcaaGreatDoor
open Go.RowKit Go.Shelf

theorem okN_bad {l : List Int} {j : Nat} (hj : j < l.length) {x : Int} (hx : x = l[j]) (h : x < 0) : okN l = false := by
  unfold okN
  rw [List.all_eq_false]
  exact ⟨l[j], List.getElem_mem hj, by rw [← hx]; simp; omega⟩
theorem okN_end {l : List Int} (h : ∀ j (hj : j < l.length), 0 ≤ l[j]) : okN l = true := by
  unfold okN
  rw [List.all_eq_true]
  intro v hv
  obtain ⟨j, hj, rfl⟩ := List.getElem_of_mem hv
  simpa using h j hj
end Go.Proofs.YtilbffgpniomcaaGreatDoor
