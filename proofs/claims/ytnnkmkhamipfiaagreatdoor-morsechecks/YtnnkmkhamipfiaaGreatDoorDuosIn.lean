/- MorseChecks answers true of whatever sets, pairs and dimension. A slice of pairs of numbers that comes in. -/
import Derived.Test.YtnnkmkhamipfiaaGreatDoorMorseCkB
import Derived.Test.YtnnkmkhamipfiaaGreatDoorMorseCkD
import Derived.Test.YtnnkmkhamipfiaaGreatDoorMorseSeq
import Derived.Test.YtnnkmkhamipfiaaGreatDoorSameMat
import Derived.Test.YtnnkmkhamipfiaaGreatDoorMorsePartners
import Derived.Test.YtnnkmkhamipfiaaGreatDoorClosed
import Derived.Test.YtnnkmkhamipfiaaGreatDoorMorseRef3
import Derived.Test.YtnnkmkhamipfiaaGreatDoorSign
import Derived.Test.YtnnkmkhamipfiaaGreatDoorRegionGrow
import Derived.Test.YtnnkmkhamipfiaaGreatDoorLaid
import Derived.OpenShut
namespace Go.Proofs.YtnnkmkhamipfiaaGreatDoor
open Go.RowKit Go.Sort

theorem ck_bad_or_good (l : List (List Int)) : (∃ j, BadAt l j) ∨ ∃ all, Good l all := by
  by_cases h1 : ∀ x ∈ l, SetOk x
  · by_cases h2 : Over (l.map srt)
    · exact .inl ⟨1, .inr (.inl ⟨rfl, h1, h2⟩)⟩
    · by_cases h3 : ∃ all, Good l all
      · exact .inr h3
      · exact .inl ⟨2, .inr (.inr ⟨rfl, h1, h2, fun all ha hf => h3 ⟨all, h1, h2, ha, hf⟩⟩)⟩
  · exact .inl ⟨3, .inl ⟨rfl, h1⟩⟩

/-- Calls of the program with a field that is told in one way. -/
abbrev FieldBy (a : Nat → Addr) (s : Nat → ByteArray) (l : List (List Int)) (ps : List Duo) (Q : World → Ending → World → Prop) : Prop :=
  ∀ (V : World) (v u : Value), Errs a s V → Rows V v l → DuoIn anyBlock V u ps → Calls Tryz.prog 37 #[.agg #[v], u] V fun e w' => Q V e w'

section
variable {a : Nat → Addr} {s : Nat → ByteArray} {l : List (List Int)} {ps : List Duo} {EX : World → Value → Prop}
theorem prog_check_err (hX : ErrX EX) (hf : FieldBy a s l ps fun V e w' => ∃ ve, e = .returned (noField ve) ∧ EX w' ve ∧ Below V.heap.size V w') (V : World) (v u : Value) (hE : Errs a s V) (hr : Rows V v l) (hp : DuoIn anyBlock V u ps) :
    Calls Tryz.prog 11 #[.agg #[v], u] V fun e w' => (∃ ve, e = .returned ve ∧ EX w' ve) ∧ Below V.heap.size V w' := by
  obtain ⟨a1, c1, rfl, -, -⟩ := hr.open_
  obtain ⟨a2, c2, rfl, -⟩ := hp.open_
  exact (check_err hX _ _ _ _ _ _ V fun V' hB => hf V' _ _ (hE.below hB) (hr.below hB) (hp.below hB)).mono fun e w' ⟨ve, h1, h2, h3⟩ => ⟨⟨ve, h1, h2⟩, h3⟩
theorem prog_critical_err (hX : ErrX EX) (hf : FieldBy a s l ps fun V e w' => ∃ ve, e = .returned (noField ve) ∧ EX w' ve ∧ Below V.heap.size V w') (V : World) (v u : Value) (hE : Errs a s V) (hr : Rows V v l) (hp : DuoIn anyBlock V u ps) :
    Calls Tryz.prog 14 #[.agg #[v], u] V fun e w' => (∃ ve, e = .returned (.tuple #[.slice none 0 0, ve]) ∧ EX w' ve) ∧ Below V.heap.size V w' := by
  obtain ⟨a1, c1, rfl, -, -⟩ := hr.open_
  obtain ⟨a2, c2, rfl, -⟩ := hp.open_
  exact (critical_err hX _ _ _ _ _ _ V fun V' hB => hf V' _ _ (hE.below hB) (hr.below hB) (hp.below hB)).mono fun e w' ⟨ve, h1, h2, h3⟩ => ⟨⟨ve, h1, h2⟩, h3⟩
theorem prog_bound_err (hX : ErrX EX) (hf : FieldBy a s l ps fun V e w' => ∃ ve, e = .returned (noField ve) ∧ EX w' ve ∧ Below V.heap.size V w') (d : Int) (V : World) (v u : Value) (hE : Errs a s V) (hr : Rows V v l) (hp : DuoIn anyBlock V u ps) :
    Calls Tryz.prog 15 #[.agg #[v], u, .int .i64 d] V fun e w' => (∃ ve, e = .returned (.tuple #[.agg #[.int .i64 0, .int .i64 0, .slice none 0 0], ve]) ∧ EX w' ve) ∧ Below V.heap.size V w' := by
  obtain ⟨a1, c1, rfl, -, -⟩ := hr.open_
  obtain ⟨a2, c2, rfl, -⟩ := hp.open_
  exact (bound_err hX _ _ _ _ _ _ d V fun V' hB => hf V' _ _ (hE.below hB) (hr.below hB) (hp.below hB)).mono fun e w' ⟨ve, h1, h2, h3⟩ => ⟨⟨ve, h1, h2⟩, h3⟩
variable {L : List (List Int)} {mt : Nat → Int}
theorem prog_check_good (hf : FieldBy a s l ps (GoodF L mt)) (V : World) (v u : Value) (hE : Errs a s V) (hr : Rows V v l) (hp : DuoIn anyBlock V u ps) :
    Calls Tryz.prog 11 #[.agg #[v], u] V fun e w' => e = .returned .nilIface ∧ Below V.heap.size V w' := by
  obtain ⟨a1, c1, rfl, -, -⟩ := hr.open_
  obtain ⟨a2, c2, rfl, -⟩ := hp.open_
  exact check_good _ _ _ _ _ _ V fun V' hB => hf V' _ _ (hE.below hB) (hr.below hB) (hp.below hB)
theorem prog_critical_good (hL6 : L.length ≤ 600) (hf : FieldBy a s l ps (GoodF L mt)) (V : World) (v u : Value) (hE : Errs a s V) (hr : Rows V v l) (hp : DuoIn anyBlock V u ps) :
    Calls Tryz.prog 14 #[.agg #[v], u] V fun e w' => (∃ x, e = .returned (.tuple #[x, .nilIface]) ∧ Ints w' x (critA mt L.length)) ∧ Below V.heap.size V w' := by
  obtain ⟨a1, c1, rfl, -, -⟩ := hr.open_
  obtain ⟨a2, c2, rfl, -⟩ := hp.open_
  exact (critical_good hL6 _ _ _ _ _ _ V fun V' hB => hf V' _ _ (hE.below hB) (hr.below hB) (hp.below hB)).mono fun e w' ⟨x, h1, h2, h3⟩ => ⟨⟨x, h1, slice_of_owns h2 (fun _ _ _ => trivial)⟩, h3⟩
theorem prog_bound_dim (hf : FieldBy a s l ps (GoodF L mt)) {d : Int} (hd : d < 0 ∨ 7 < d) (V : World) (v u : Value) (hE : Errs a s V) (hr : Rows V v l) (hp : DuoIn anyBlock V u ps) :
    Calls Tryz.prog 15 #[.agg #[v], u, .int .i64 d] V fun e w' => e = .returned (.tuple #[.agg #[.int .i64 0, .int .i64 0, .slice none 0 0], .iface 250 (.pointer (some (a 1)))]) ∧ Below V.heap.size V w' := by
  obtain ⟨a1, c1, rfl, -, -⟩ := hr.open_
  obtain ⟨a2, c2, rfl, -⟩ := hp.open_
  exact bound_dim _ _ _ _ _ _ d hd V hE fun V' hB => hf V' _ _ (hE.below hB) (hr.below hB) (hp.below hB)
theorem prog_bound_good {Pf : Nat → Nat → Nat × Nat} {ρ : Nat → Nat} {N M : Nat} (hL6 : L.length ≤ 600) (hP : GradP L mt Pf ρ N M) (hf : FieldBy a s l ps (GoodF L mt)) (n : Nat) (hn : n ≤ 7) (V : World) (v u : Value) (hE : Errs a s V) (hr : Rows V v l) (hp : DuoIn anyBlock V u ps) :
    Calls Tryz.prog 15 #[.agg #[v], u, .int .i64 (n : Int)] V fun e w' => Below V.heap.size V w' ∧
      ((∃ x, e = .returned (.tuple #[.agg #[.int .i64 ((critN L mt ((n : Int) - 1)).length : Int), .int .i64 ((critN L mt n).length : Int), x], .nilIface]) ∧ Ints w' x (entsTo L Pf (critN L mt ((n : Int) - 1)) (critN L mt n) (critN L mt ((n : Int) - 1)).length 0)) ∨
       ((∃ r ∈ critN L mt ((n : Int) - 1), ∃ c ∈ critN L mt n, ¬ (entL L Pf r c).natAbs ≤ 1048576) ∧ e = .returned (.tuple #[.agg #[.int .i64 0, .int .i64 0, .slice none 0 0], .iface 250 (.pointer (some (a 1)))]))) := by
  obtain ⟨a1, c1, rfl, -, -⟩ := hr.open_
  obtain ⟨a2, c2, rfl, -⟩ := hp.open_
  exact bound_good hL6 hP.small hP.top hP.eq hP.rank hP.down hP.up _ _ _ _ _ _ n hn V hE fun V' hB => hf V' _ _ (hE.below hB) (hr.below hB) (hp.below hB)
end

set_option maxHeartbeats 4000000 in
theorem checks_law {a : Nat → Addr} {s : Nat → ByteArray} (vl vp : Value) (l : List (List Int)) (ps : List Duo) (d : Int) (w : World) (hE : Errs a s w) (hl : Rows w vl l) (hp : DuoIn anyBlock w vp ps) (hnil : ∀ cap, vp = .slice none 0 cap → cap = 0) :
    Calls Tryz.prog 3 #[vl, vp, .int .i64 d] w fun e w' => e = .returned (.bool true) ∧ Below w.heap.size w w' := by
  have har := arrow_ w hE
  have hli : ∀ V, Below w.heap.size w V → Calls Tryz.prog 6 #[vl, .int .i64 60] V fun e w' => ∃ q : Bool, e = .returned (.bool q) ∧ Below V.heap.size V w' ∧ (q = true → l.length ≤ 40 ∧ ∀ x ∈ l, x.length ≤ 12) := fun V hV => little_ closed_ vl l 60 V (hl.below hV)
  have hl0 := hl
  have hp0 := hp
  obtain ⟨al, cl, rfl, -, -⟩ := hl.open_
  obtain ⟨ap, cp, rfl, -⟩ := hp.open_
  by_cases hsm : (l.length ≤ 40 ∧ ∀ x ∈ l, x.length ≤ 12) ∧ (ps.length : Int) ≤ 60
  case neg =>
    refine ck_early al ap l.length cl ps.length cp d w har fun V hV => (hli V hV).mono fun e w' ⟨q, h1, h2, h3⟩ => ⟨q, h1, fun hq => ?_, h2⟩
    have h4 := h3 hq
    by_cases h5 : (ps.length : Int) ≤ 60
    · exact absurd ⟨h4, h5⟩ hsm
    · omega
  obtain ⟨⟨hs1, hs2⟩, h60⟩ := hsm
  have hll : l.length ≤ 100000 := by omega
  have hle : ∀ x ∈ l, x.length ≤ 1000 := fun x hx => by have := hs2 x hx; omega
  have hps : ps.length ≤ 60 := by omega
  have hli2 : ∀ V, Below w.heap.size w V → Calls Tryz.prog 6 #[.slice al l.length cl, .int .i64 60] V fun e w' => (∃ q : Bool, e = .returned (.bool q)) ∧ Below V.heap.size V w' := fun V hV => (hli V hV).mono fun e w' ⟨q, h1, h2, _⟩ => ⟨⟨q, h1⟩, h2⟩
  have hcx : ∀ V, Below w.heap.size w V → Calls Tryz.prog 12 #[.slice al l.length cl] V fun e w' => (∃ v, e = .returned (.agg #[v]) ∧ Rows w' v l) ∧ Below V.heap.size V w' := fun V hV => (cx_ _ l V (hl0.below hV) hll hle).mono fun e w' ⟨v, h1, h2, h3⟩ => ⟨⟨v, h1, h2⟩, h3⟩
  have hpa : ∀ V, Below w.heap.size w V → Calls Tryz.prog 13 #[.slice ap ps.length cp] V fun e w' => (∃ u, e = .returned u ∧ DuoIn anyBlock w' u ps) ∧ Below V.heap.size V w' := fun V hV => (pairs_ _ ps V (hp0.below hV) hnil (by omega)).mono fun e w' ⟨u, h1, h2, h3⟩ => ⟨⟨u, h1, h2.reads (fun _ _ _ => trivial)⟩, h3⟩
  have hfo : ∀ (V : World) (v u : Value), Errs a s V → Rows V v l → DuoIn anyBlock V u ps → Calls Tryz.prog 37 #[.agg #[v], u] V fun e w' => FieldSays a l ps V e w' := fun V v u hE hr hu => field_of v u l ps V hE hr hll hle hu (by omega)
  have hec : ∀ V, Below w.heap.size w V → Calls Tryz.prog 7 #[.slice al l.length cl] V fun e w' => ErrorG l V e w' := fun V hV => error_g closed_ _ l V (hl0.below hV) hll hle
  rcases ck_bad_or_good l with ⟨i, hb⟩ | ⟨all, hg⟩
  · have hX := errX_str (a i)
    have hf : FieldBy a s l ps fun V e w' => ∃ ve, e = .returned (noField ve) ∧ ve = .iface 250 (.pointer (some (a i))) ∧ Below V.heap.size V w' := fun V v u hE hr hu => (hfo V v u hE hr hu).mono fun e w' h => by
      rcases h.2 with ⟨j, hj, he⟩ | ⟨all, hg, _⟩
      · obtain rfl := bad_one hb hj
        exact ⟨_, he, rfl, h.1⟩
      · exact (bad_good hb hg).elim
    exact ck_bad (l := l) (ps := ps) al ap l.length cl ps.length cp d w h60 har hli2 hX.stays (c := (i : Int) + 1) (p := -1) (by omega) (beq_false_of_ne (by omega)) rfl
      (fun V hV => (hec V hV).mono fun e w' h => by
        rcases h.2 with ⟨j, hj, he⟩ | ⟨all, hg, _⟩
        · obtain rfl := bad_one hb hj
          exact ⟨he, h.1⟩
        · exact (bad_good hb hg).elim)
      hcx hpa (fun V v u hV hr hu => prog_check_err hX hf V v u (hE.below hV) hr hu) (fun V v u hV hr hu => prog_critical_err hX hf V v u (hE.below hV) hr hu) (fun V v u hV hr hu => prog_bound_err hX hf d V v u (hE.below hV) hr hu)
      (fun V ve hV he => by subst he; exact faulted_es V (hE.below hV) hb.lt rfl)
  · obtain ⟨L, hLe⟩ : ∃ L, numL all = L := ⟨_, rfl⟩
    have hF : FaceList L := hLe ▸ good_faces hg
    have hL6 : L.length ≤ 600 := hLe ▸ Nat.le_trans (num_len (order_nodup hg.isAll.order) _) hg.length
    have hLx : ∀ x ∈ L, x.length ≤ 1000 := fun x hx => by
      rw [← hLe] at hx
      have := hg.short x (numTo_mem.1 hx).1
      omega
    have herr : ∀ V, Below w.heap.size w V → Calls Tryz.prog 7 #[.slice al l.length cl] V fun e w' => e = .returned (.int .i64 0) ∧ Below V.heap.size V w' := fun V hV => (hec V hV).mono fun e w' h => by
      rcases h.2 with ⟨j, hj, he⟩ | ⟨_, _, he⟩
      · exact (bad_good hj hg).elim
      · exact ⟨he, h.1⟩
    have hcl : ∀ V, Below w.heap.size w V → Calls Tryz.prog 8 #[.slice al l.length cl] V fun e w' => (∃ u, e = .returned (.tuple #[u, .int .i64 0]) ∧ Rows w' u all) ∧ Below V.heap.size V w' := fun V hV => (closed_g closed_ _ l all V (hl0.below hV) hll hle hg).mono fun e w' ⟨u, h1, h2, h3⟩ => ⟨⟨u, h1, h2⟩, h3⟩
    have hnb : ∀ V u, Below w.heap.size w V → Rows V u all → Calls Tryz.prog 9 #[u] V fun e w' => (∃ v, e = .returned v ∧ Rows w' v L) ∧ Below V.heap.size V w' := fun V u _ hu => (numbered_ u all V hu hg.length hg.short (order_nodup hg.isAll.order)).mono fun e w' ⟨v, h1, h2, h3⟩ => ⟨⟨v, h1, hLe ▸ h2⟩, h3⟩
    have hpt : ∀ V v, Below w.heap.size w V → Rows V v L → Calls Tryz.prog 10 #[v, .slice ap ps.length cp] V fun e w' => PartSays L ps V e w' := fun V v hV hr => partners_ hF v _ ps V hr (hp0.below hV) hL6 (by omega) hLx
    have hfg : ∀ (V : World) (v u : Value), Errs a s V → Rows V v l → DuoIn anyBlock V u ps → Calls Tryz.prog 37 #[.agg #[v], u] V fun e w' => Below V.heap.size V w' ∧
      ((∃ k, ∃ h : k < ps.length, joinsL L (ps.take k) ∧ ¬ canJ L (matesL (ps.take k)) ps[k].1 ps[k].2 ∧ ∃ ve, FaultAt a w' ve 3 (k : Int) ∧ e = .returned (noField ve)) ∨
       (joinsL L ps ∧ (∃ c, Relation.TransGen (leadL L (matesL ps)) c c) ∧ ∃ ve, FaultAt a w' ve 6 0 ∧ e = .returned (noField ve)) ∨
       (joinsL L ps ∧ (∃ N, RankedN (leadL L (matesL ps)) N) ∧ GoodF L (matesL ps) V e w')) := fun V v u hE hr hu => (hfo V v u hE hr hu).mono fun e w' h => by
      refine ⟨h.1, ?_⟩
      rcases h.2 with ⟨j, hj, _⟩ | ⟨all', hg', h2⟩
      · exact (bad_good hj hg).elim
      · obtain rfl := good_one hg hg'
        rw [hLe] at h2
        rcases h2 with h2 | h2 | ⟨h3, h4, ad, aS, ao, cd, cs, co, gm, h5, h6, h7⟩
        · exact .inl h2
        · exact .inr (.inl h2)
        · exact .inr (.inr ⟨h3, h4, ad, aS, ao, cd, cs, co, gm, h7, h5, h6, h.1⟩)
    have hwrong : ∀ (j : Nat) (c p : Int), j < 8 → (j : Int) + 1 = c → (∀ V v, Below w.heap.size w V → Rows V v L → Calls Tryz.prog 10 #[v, .slice ap ps.length cp] V fun e w' => e = .returned (.tuple #[.slice none 0 0, .agg #[.int .i64 c, .int .i64 p]]) ∧ Below V.heap.size V w') →
        (FieldBy a s l ps fun V e w' => ∃ ve, e = .returned (noField ve) ∧ FaultAt a w' ve j p ∧ Below V.heap.size V w') → Calls Tryz.prog 3 #[.slice al l.length cl, .slice ap ps.length cp, .int .i64 d] w fun e w' => e = .returned (.bool true) ∧ Below w.heap.size w w' := by
      intro j c p hj hc hpt hf
      have hX := errX_fault a j p
      exact ck_wrong (l := l) (ps := ps) (all := all) (L := L) al ap l.length cl ps.length cp d w h60 har hli2 hX.stays (c := c) (p := p) (by omega) (beq_false_of_ne (by omega)) herr hcl hnb hpt hcx hpa
        (fun V v u hV hr hu => prog_check_err hX hf V v u (hE.below hV) hr hu) (fun V v u hV hr hu => prog_critical_err hX hf V v u (hE.below hV) hr hu) (fun V v u hV hr hu => prog_bound_err hX hf d V v u (hE.below hV) hr hu)
        (fun V ve hV he => by rw [← hc]; exact faulted_at V (hE.below hV) he hj)
    by_cases hj : joinsL L ps
    case neg =>
      rcases joins_or L.length (undL L) ps noMate with h | ⟨k, hk, hk1, hk2⟩
      · exact absurd h hj
      refine hwrong 3 4 (k : Int) (by decide) rfl (fun V v hV hr => (hpt V v hV hr).mono fun e w' h => ?_) (fun V v u hE hr hu => (hfg V v u hE hr hu).mono fun e w' h => ?_)
      · rcases h.2 with ⟨k2, hk3, h1, h2, he⟩ | ⟨h1, _⟩ | ⟨h1, _⟩
        · obtain rfl := joins_one hk hk3 hk1 h1 hk2 h2
          exact ⟨he, h.1⟩
        · exact absurd h1 hj
        · exact absurd h1 hj
      · rcases h.2 with ⟨k2, hk3, h1, h2, ve, h3, he⟩ | ⟨h1, _⟩ | ⟨h1, _⟩
        · obtain rfl := joins_one hk hk3 hk1 h1 hk2 h2
          exact ⟨ve, he, h3, h.1⟩
        · exact absurd h1 hj
        · exact absurd h1 hj
    have hI : MateInv L.length (undL L) ps (matesL ps) := inv_of (und_less hF) hj
    by_cases hr : ∃ N, RankedN (OnP (undL L) ps) N
    case neg =>
      refine hwrong 6 7 0 (by decide) rfl (fun V v hV hr' => (hpt V v hV hr').mono fun e w' h => ?_) (fun V v u hE hr' hu => (hfg V v u hE hr' hu).mono fun e w' h => ?_)
      · rcases h.2 with ⟨k2, hk3, h1, h2, he⟩ | ⟨_, _, he⟩ | ⟨_, h1, _⟩
        · exact absurd (joins_all hk3 hj) h2
        · exact ⟨he, h.1⟩
        · exact absurd ⟨_, h1⟩ hr
      · rcases h.2 with ⟨k2, hk3, h1, h2, _⟩ | ⟨_, _, ve, h3, he⟩ | ⟨_, ⟨N, h1⟩, _⟩
        · exact absurd (joins_all hk3 hj) h2
        · exact ⟨ve, he, h3, h.1⟩
        · exact absurd ⟨N, rank_down (und_less hF) hI h1⟩ hr
    obtain ⟨N0, hr0⟩ := hr
    have hrk : RankedN (OnP (undL L) ps) (ps.length + 1) ∧ ∀ V v, Below w.heap.size w V → Rows V v L → Calls Tryz.prog 10 #[v, .slice ap ps.length cp] V fun e w' => (∃ u, e = .returned (.tuple #[u, .agg #[.int .i64 0, .int .i64 (-1)]]) ∧ Ints w' u ((List.range L.length).map (matesL ps))) ∧ Below V.heap.size V w' := by
      refine ⟨rank_len hr0, fun V v hV hr' => (hpt V v hV hr').mono fun e w' h => ?_⟩
      rcases h.2 with ⟨k2, hk3, h1, h2, he⟩ | ⟨_, h1, he⟩ | ⟨_, h1, u, he, h2⟩
      · exact absurd (joins_all hk3 hj) h2
      · exact absurd hr0 (h1 N0)
      · exact ⟨⟨u, he, h2.ints.any⟩, h.1⟩
    have hf : FieldBy a s l ps (GoodF L (matesL ps)) := fun V v u hE hr' hu => (hfg V v u hE hr' hu).mono fun e w' h => by
      rcases h.2 with ⟨k2, hk3, h1, h2, _⟩ | ⟨_, ⟨c, h1⟩, _⟩ | ⟨_, _, h1⟩
      · exact absurd (joins_all hk3 hj) h2
      · exact absurd h1 (no_circle (rank_up (und_less hF) hI hr0) c)
      · exact h1
    obtain ⟨Pf, ρ, N, M, hP⟩ := grad_ex hF hL6 hps hj hrk.1
    have hM := mate_ok hF hI
    have hcr : ∀ V v u, Below w.heap.size w V → Rows V v l → DuoIn anyBlock V u ps → _ := fun V v u hV hr hu => prog_critical_good hL6 hf V v u (hE.below hV) hr hu
    have hck : ∀ V v u, Below w.heap.size w V → Rows V v l → DuoIn anyBlock V u ps → _ := fun V v u hV hr hu => prog_check_good hf V v u (hE.below hV) hr hu
    have hfn : ∀ V : World, Calls Tryz.prog 16 #[.nilIface, .agg #[.int .i64 0, .int .i64 (-1)]] V fun e w' => e = .returned (.bool true) ∧ Below V.heap.size V w' := fun V => faulted_nil (-1) V
    by_cases hd : 0 ≤ d ∧ d ≤ 7
    case neg =>
      exact ck_dim (l := l) (ps := ps) (all := all) (L := L) al ap l.length cl ps.length cp d w h60 har hli2 (mates := (List.range L.length).map (matesL ps)) (CR := critA (matesL ps) L.length) herr hcl hnb hrk.2 hcx hpa hck hcr (fun V => hfn V) (by omega)
        (fun V v u hV hr hu => prog_bound_dim hf (by omega) V v u (hE.below hV) hr hu) (fun V hV => faulted_es V (hE.below hV) (i := 1) (by decide) rfl)
    obtain ⟨n, rfl⟩ : ∃ n : Nat, d = (n : Int) := ⟨d.toNat, by omega⟩
    have hn7 : n ≤ 7 := by omega
    have hbg : ∀ V v u, Below w.heap.size w V → Rows V v l → DuoIn anyBlock V u ps → _ := fun V v u hV hr hu => prog_bound_good hL6 hP hf n hn7 V v u (hE.below hV) hr hu
    have hR6 : ∀ e : Int, (critN L (matesL ps) e).length ≤ 600 := fun e => Nat.le_trans (List.length_filter_le _ _) (by rw [List.length_range]; exact hL6)
    have hEl : (entsTo L Pf (critN L (matesL ps) ((n : Int) - 1)) (critN L (matesL ps) n) (critN L (matesL ps) ((n : Int) - 1)).length 0).length ≤ 1000000 := Nat.le_trans (ents_len (hR6 _) (hR6 _) _ _) (by decide)
    have hCl : (critA (matesL ps) L.length).length ≤ 1000000 := by have := critA_len (matesL ps) L.length; omega
    have hco : ∀ V x, Ints V x ((List.range L.length).map (matesL ps)) → Calls Tryz.prog 18 #[x] V fun e w' => (∃ u, e = .returned u ∧ Ints w' u (critA (matesL ps) L.length)) ∧ Below V.heap.size V w' := fun V x hx => (critical_of (S := anyBlock) L.length x V hx (by omega)).mono fun e w' ⟨u, h1, h2, h3⟩ => ⟨⟨u, h1, by rw [crit_same hI]; exact slice_of_owns h2 (fun _ _ _ => trivial)⟩, h3⟩
    have hsi : ∀ V x y, Ints V x (critA (matesL ps) L.length) → Ints V y (critA (matesL ps) L.length) → Calls Tryz.prog 17 #[x, y] V fun e w' => e = .returned (.bool true) ∧ Below V.heap.size V w' := fun V x y hx hy => (same_ints x y _ _ V hx hy hCl).mono fun e w' ⟨h1, q, h2⟩ => ⟨by rw [h1, decide_eq_true rfl], by rw [h2]; exact ⟨rfl, rfl, rfl, Nat.le_refl _, fun _ _ => rfl⟩⟩
    have hsb := fun V v x (hr : Rows V v L) (hx : Ints V x ((List.range L.length).map (matesL ps))) => small_border hF hL6 hLx hP.vals hM hP.ents v x n hn7 V hr hx
    by_cases hs : ∀ r ∈ critN L (matesL ps) ((n : Int) - 1), ∀ c ∈ critN L (matesL ps) n, (entL L Pf r c).natAbs ≤ 20000
    · exact ck_few (l := l) (ps := ps) (all := all) (L := L) al ap l.length cl ps.length cp (n : Int) w h60 har hli2 herr hcl hnb hrk.2 hcx hpa hck hcr (fun V => hfn V) hd
        (R := ((critN L (matesL ps) ((n : Int) - 1)).length : Int)) (C := ((critN L (matesL ps) n).length : Int)) (E := entsTo L Pf (critN L (matesL ps) ((n : Int) - 1)) (critN L (matesL ps) n) (critN L (matesL ps) ((n : Int) - 1)).length 0)
        (fun V v u hV hr hu => (hbg V v u hV hr hu).mono fun e w' h => by
          rcases h.2 with ⟨x, h1, h2⟩ | ⟨⟨r, hr, c, hc, h1⟩, _⟩
          · exact ⟨⟨x, h1, h2⟩, h.1⟩
          · exact absurd (Nat.le_trans (hs r hr c hc) (by decide)) h1)
        hco hsi
        (fun V v x hr hx => (hsb V v x hr hx).mono fun e w' h => by
          obtain ⟨hB, few, z, h1, h2, h3⟩ := h
          cases few with
          | false => rw [h3 rfl] at h1; exact ⟨.inl h1, hB⟩
          | true => exact ⟨.inr ⟨z, h1, (h2 rfl).1⟩, hB⟩)
        (fun V x hx => ref2_ x _ _ _ V hx) (fun V x y hx hy => same_matrix x y _ _ _ V hx hy hEl)
    · exact ck_many (l := l) (ps := ps) (all := all) (L := L) al ap l.length cl ps.length cp (n : Int) w h60 har hli2 herr hcl hnb hrk.2 hcx hpa hck hcr (fun V => hfn V) hd
        (R := ((critN L (matesL ps) ((n : Int) - 1)).length : Int)) (C := ((critN L (matesL ps) n).length : Int)) (E := entsTo L Pf (critN L (matesL ps) ((n : Int) - 1)) (critN L (matesL ps) n) (critN L (matesL ps) ((n : Int) - 1)).length 0) (ev := .iface 250 (.pointer (some (a 1))))
        (fun V v u hV hr hu => (hbg V v u hV hr hu).mono fun e w' h => by
          rcases h.2 with ⟨x, h1, h2⟩ | ⟨_, h1⟩
          · exact ⟨.inl ⟨x, h1, h2⟩, h.1⟩
          · exact ⟨.inr h1, h.1⟩)
        hco hsi
        (fun V v x hr hx => (hsb V v x hr hx).mono fun e w' h => by
          obtain ⟨hB, few, z, h1, h2, h3⟩ := h
          cases few with
          | false => rw [h3 rfl] at h1; exact ⟨h1, hB⟩
          | true => exact absurd (h2 rfl).2 hs)

end Go.Proofs.YtnnkmkhamipfiaaGreatDoor

namespace Go.Proofs.YtnnkmkhamipfiaaGreatDoor
open Go.ChangeShapes Go.WideShapes Go.RowKit Go.Deep

theorem len_two {α : Type} {l : List α} (h : l.length = 2) : ∃ x y, l = [x, y] := by
  cases l with
  | nil => cases h
  | cons x l =>
    cases l with
    | nil => cases h
    | cons y l =>
      cases l with
      | nil => exact ⟨x, y, rfl⟩
      | cons z l => simp at h

theorem Tryz.cellsOfDuo : Tryz.prog.cellsOf 69 = 2 := by kernel_rfl
theorem Tryz.underlyingDuo : Tryz.prog.underlying 69 = some (.array 2 3) := by kernel_rfl

set_option maxRecDepth 100000 in
/-- A slice of pairs that comes in reads as pairs. -/
theorem duos_of_trod {H : Type} {enc : TypeId × Value → H} {W : World} {base : Nat} {held : Bool} {fuel : Nat} {cs : List Value} {x : DataW H × List MemPlace}
    (h : DataW.trod enc Tryz.prog W base (fun _ => true) held fuel 23 cs = some x) : ∃ v l, cs = [v] ∧ DuoIn anyBlock W v l ∧ ∀ cap, v = .slice none 0 cap → cap = 0 := by
  rcases open_slice Tryz.underlying23 h with ⟨rfl, _⟩ | ⟨a, len, cap, m, n, D, Pl, rfl, hb, hl, hm, hmm, _, hx⟩
  · exact ⟨_, [], rfl, DuoIn.nil _ _, fun cap e => by cases e; rfl⟩
  · simp only [if_true] at hmm
    subst hmm
    have each : ∀ i, i < m → ∃ q : Duo, W.cell? (a.add (i * 2)) = some (.int .i64 q.1) ∧ W.cell? (a.add (i * 2 + 1)) = some (.int .i64 q.2) := by
      intro i hi
      obtain ⟨cs', h1, h2⟩ := hx i hi
      rw [Tryz.cellsOfDuo] at h1
      obtain ⟨_, hlen, hcell⟩ := World.cells?_some h1
      obtain ⟨xs, k, hk, hxy, _, hxl, hf⟩ := DataW.trod_array Tryz.underlyingDuo h2
      obtain ⟨y0, y1, rfl⟩ := len_two hxl
      obtain ⟨v0, v1, rfl⟩ := len_two hlen
      have g0 := hf 0 (by decide)
      have g1 := hf 1 (by decide)
      rw [Tryz.cellsOfInt] at g0 g1
      obtain ⟨n0, e0, _⟩ := DataW.trod_int Tryz.underlying3 g0
      obtain ⟨n1, e1, _⟩ := DataW.trod_int Tryz.underlying3 g1
      have c0 := hcell 0 (by omega)
      have c1 := hcell 1 (by omega)
      rw [add_add] at c0 c1
      simp at e0 e1
      subst e0 e1
      exact ⟨(n0, n1), by simpa using c0, by simpa using c1⟩
    obtain ⟨q, hq⟩ := choose_lt each
    refine ⟨_, (List.range len).map q, rfl, ⟨some a, m, by simp, fun h0 => ?_⟩, fun cap e => by cases e⟩
    simp at h0
    have hs := World.cell?_spot (hq 0 (by omega)).1
    obtain ⟨b, o, sp⟩ := a
    have hs' : sp = none := by simpa [Addr.add] using hs
    subst hs'
    have h0' := (hq 0 (by omega)).1
    rw [Addr.add_lit] at h0'
    refine ⟨b, o, rfl, trivial, cell_lt h0', fun k hk => ?_⟩
    simp at hk
    have e1 := (hq k (by omega)).1
    have e2 := (hq k (by omega)).2
    rw [Addr.add_lit] at e1 e2
    simp only [List.getElem_map, List.getElem_range]
    exact ⟨e1, e2⟩

end Go.Proofs.YtnnkmkhamipfiaaGreatDoor
