/- The work at a coset; all cosets are gone through. The opened cosets at first. -/
import Derived.Test.YtmaopnbnbiediaaDoorGrpAll
namespace Go.Proofs.YtmaopnbnbiediaaDoor
open Go.RowKit Go.Sort

/-- What the work reads beside the cosets: the pointer's box, the group's. -/
structure WorkAt (B : Nat) (X : Nat → Prop) (P n : Nat) (w : World) (ob gb : Nat) (v : Value) (rels : List (List Int)) : Prop where
  box : w.cell? ⟨ob, 0, none⟩ = some (.pointer (some ⟨P, 0, none⟩))
  inX : X ob
  rel : w.cell? ⟨gb, 1, none⟩ = some v
  low : gb < B
  words : WordsAt B n w v rels
theorem WorkAt.kp {B : Nat} {X : Nat → Prop} {P n : Nat} {w W : World} {ob gb : Nat} {v : Value} {rels : List (List Int)} (h : WorkAt B X P n w ob gb v rels) (hk : Kp B X w W) : WorkAt B X P n W ob gb v rels :=
  ⟨hk.cell h.box (.inr h.inX), h.inX, hk.cell h.rel (.inl h.low), h.low, h.words.kp hk⟩

set_option maxRecDepth 100000 in
set_option maxHeartbeats 4000000 in
theorem work_ {B : Nat} {X : Nat → Prop} {P n : Nat} {s : Cos} (k ob gb : Nat) (v : Value) (rels : List (List Int)) (w : World) (h : OpAt B X P n w s) (hX : ∀ b, X b → b < w.heap.size) (hI : CInv n s) (hk : k < s.R.length) (hw : WorkAt B X P n w ob gb v rels) (hn : n ≤ 12) :
    Calls Tryd.prog 36 #[.int .i64 (k : Int), .pointer (some ⟨ob, 0, none⟩), .pointer (some ⟨gb, 0, none⟩)] w fun e w' => BoolSays B X P n w (workP n rels s k) e w' := by
  have htr := traceAll_ k v rels w h hX hI hk hw.words hn
  have c0 := hw.box
  have c1 := hw.rel
  obtain ⟨r, hr⟩ : ∃ r, workP n rels s k = r := ⟨_, rfl⟩
  have hr2 := hr
  unfold workP at hr2
  rw [hr]
  cases e1 : traceAllP n s k rels with
  | none =>
    rw [e1] at hr2
    have HO : Hid (r = none) := hr2.symm
    have hst := bool_no htr e1
    clear htr hr hr2 e1
    go_enter Tryd.func36, Tryd.ntmps36
    go_wp2_with (first
      | (go_at_call 34; refine hst.mono ?_; rintro e V ⟨rfl, hk2⟩; have H2 := Hid.mk' hk2; clear hk2 hst)
      | fail)
    go_ret
    exact BoolSays.no HO.out H2.out
  | some s1 =>
    rw [e1] at hr2
    have hst := bool_ok htr e1
    obtain ⟨i1, i2⟩ := hI.traceAll hk hw.words.lets e1
    have HOP : Hid (∀ V, OpAt B X P n V s1 → Kp B X w V → Calls Tryd.prog 37 #[.pointer (some ⟨P, 0, none⟩), .int .i64 (k : Int)] V fun e w' => BoolSays B X P n V (openAllP n s1 k) e w') := fun V h1 h2 => openAll_ k V h1 (fun b hb => Nat.lt_of_lt_of_le (hX b hb) h2.size) i1 (by omega) hn
    have HWX : Hid (X ob) := hw.inX
    cases e2 : openAllP n s1 k with
    | none =>
      have HO : Hid (r = none) := by rw [← hr2]; exact e2
      rw [e2] at HOP
      clear htr hr hr2 e1 e2
      go_enter Tryd.func36, Tryd.ntmps36
      go_wp2_with (first
        | (go_at_call 34; refine hst.mono ?_; rintro e V ⟨rfl, ho2, hk2⟩; have d0 := hk2.cell c0 (.inr HWX.out); have hop := bool_no (HOP.out V ho2 hk2) rfl; have H2 := Hid.mk' hk2; clear ho2 hk2 hst)
        | (go_at_call 37; refine hop.mono ?_; rintro e V2 ⟨rfl, hk3⟩; have H3 := Hid.mk' hk3; clear hk3 hop)
        | fail)
      go_ret
      exact BoolSays.no HO.out (H2.out.trans H3.out)
    | some s2 =>
      have HO : Hid (r = some s2) := by rw [← hr2]; exact e2
      rw [e2] at HOP
      clear htr hr hr2 e1 e2
      go_enter Tryd.func36, Tryd.ntmps36
      go_wp2_with (first
        | (go_at_call 34; refine hst.mono ?_; rintro e V ⟨rfl, ho2, hk2⟩; have d0 := hk2.cell c0 (.inr HWX.out); have hop := bool_ok (HOP.out V ho2 hk2) rfl; have H2 := Hid.mk' hk2; clear ho2 hk2 hst)
        | (go_at_call 37; refine hop.mono ?_; rintro e V2 ⟨rfl, ho3, hk3⟩; have H3 := Hid.mk' (And.intro ho3 hk3); clear ho3 hk3 hop)
        | fail)
      go_ret
      exact BoolSays.ok HO.out H3.out.1 (H2.out.trans H3.out.2)

theorem fillF_end {n m k : Nat} {rels : List (List Int)} {s : Cos} (h : s.R.length ≤ k) : fillF n rels m k s = some s := by
  cases m with
  | zero => rfl
  | succ m => unfold fillF; rw [if_neg (by omega)]

set_option maxRecDepth 100000 in
set_option maxHeartbeats 4000000 in
theorem fill_ {B : Nat} {X : Nat → Prop} {P n : Nat} {s : Cos} (ob gb : Nat) (v : Value) (rels : List (List Int)) (w : World) (h : OpAt B X P n w s) (hX : ∀ b, X b → b < w.heap.size) (hI : CInv n s) (hw : WorkAt B X P n w ob gb v rels) (hn : n ≤ 12) :
    Calls Tryd.prog 35 #[.pointer (some ⟨P, 0, none⟩), .func (.func 36) #[] #[.pointer (some ⟨ob, 0, none⟩), .pointer (some ⟨gb, 0, none⟩)]] w fun e w' => BoolSays B X P n w (fillF n rels 5001 0 s) e w' := by
  have HS : Hid (OnAt B X P n w 0 w s ∧ fillF n rels 5001 0 s = fillF n rels 5001 0 s) := ⟨⟨h, hI, Nat.zero_le _, Kp.refl _ _ _⟩, rfl⟩
  have HX := Hid.mk' hX
  have HWK := Hid.mk' hw
  obtain ⟨OUT, hO⟩ : ∃ OUT, fillF n rels 5001 0 s = OUT := ⟨_, rfl⟩
  rw [hO] at HS ⊢
  have HS0 : Hid (OnAt B X P n w 0 w s ∧ fillF n rels 5001 0 s = OUT) := ⟨HS.out.1, hO⟩
  clear h hX hI hw hO HS
  go_enter Tryd.func35, Tryd.ntmps35
  go_wp2_with fail
  go_loopw [5] (fun k W => ∃ (kn m : Nat) (s1 : Cos), kn + m = 5001 ∧ kn ≤ 5000 ∧ k = .int .i64 (kn : Int) ∧ Hid (OnAt B X P n w 0 W s1 ∧ fillF n rels m kn s1 = OUT)) (fun k _ => 5001 - (intOf k).toNat)
  case atStart => exact ⟨0, 5001, s, by omega, by omega, rfl, HS0.out⟩
  case round =>
    obtain ⟨k, m, s1, hkm, hk5, rfl, HK⟩ := hrel
    obtain ⟨G, cG, H, cH, rb, c, h1⟩ := HK.out.1.op
    have p0 := h1.p0
    have hN5 := h1.few
    obtain ⟨N, hN⟩ : ∃ N, s1.R.length = N := ⟨_, rfl⟩
    have HN : Hid (s1.R.length = N) := hN
    rw [hN] at p0 hN5
    clear h1 hN
    have HXr : Hid (∀ b, X b → b < wr.heap.size) := fun b hb => Nat.lt_of_lt_of_le (HX.out b hb) HK.out.1.kp.size
    by_cases hkn : k < N
    · have hkl : k < s1.R.length := by rw [HN.out]; exact hkn
      obtain ⟨m', rfl⟩ : ∃ m', m = m' + 1 := ⟨m - 1, by omega⟩
      have hwk := HK.out.2
      unfold fillF at hwk
      rw [if_pos hkl] at hwk
      have hst := stands_ k wr HK.out.1.op hkl
      by_cases e0 : s1.cls k = k
      · rw [if_pos e0] at hwk
        rw [e0] at hst
        have HWO : Hid (∀ V, OpAt B X P n V s1 → Kp B X wr V → Calls Tryd.prog 36 #[.int .i64 (k : Int), .pointer (some ⟨ob, 0, none⟩), .pointer (some ⟨gb, 0, none⟩)] V fun e w' => BoolSays B X P n V (workP n rels s1 k) e w') := fun V h1 h2 => work_ k ob gb v rels V h1 (fun b hb => Nat.lt_of_lt_of_le (HXr.out b hb) h2.size) HK.out.1.inv hkl ((HWK.out.kp HK.out.1.kp).kp h2) hn
        cases e1 : workP n rels s1 k with
        | none =>
          rw [e1] at hwk HWO
          have HO : Hid (OUT = none) := hwk.symm
          clear hwk e1 e0
          go_wp2_with (first
            | (go_at_call 52; refine hst.mono ?_; rintro e V ⟨rfl, ho2, hk2⟩; have hop := bool_no (HWO.out V ho2 hk2) rfl; have H2 := Hid.mk' hk2; clear ho2 hk2 hst)
            | (go_at_call 36; refine hop.mono ?_; rintro e V2 ⟨rfl, hk3⟩; have H3 := Hid.mk' hk3; clear hk3 hop)
            | fail)
          go_ret
          exact BoolSays.no HO.out ((HK.out.1.kp.trans H2.out).trans H3.out)
        | some s2 =>
          obtain ⟨i1, i2⟩ := HK.out.1.inv.work hkl HWK.out.words.lets e1
          rw [e1] at hwk HWO
          have HNX : Hid (∀ V, OpAt B X P n V s2 → Kp B X w V → OnAt B X P n w 0 V s2 ∧ fillF n rels m' (k + 1) s2 = OUT) := fun V h1 h2 => ⟨⟨h1, i1, Nat.zero_le _, h2⟩, hwk⟩
          clear hwk e1 e0 i1 i2
          go_wp2_with (first
            | (go_at_call 52; refine hst.mono ?_; rintro e V ⟨rfl, ho2, hk2⟩; have hop := bool_ok (HWO.out V ho2 hk2) rfl; have H2 := Hid.mk' hk2; clear ho2 hk2 hst)
            | (go_at_call 36; refine hop.mono ?_; rintro e V2 ⟨rfl, ho3, hk3⟩; have H3 := Hid.mk' (And.intro ho3 hk3); clear ho3 hk3 hop)
            | fail)
          go_roundw
          case rel => exact ⟨k + 1, m', s2, by omega, by omega, by go_num, HNX.out _ H3.out.1 ((HK.out.1.kp.trans H2.out).trans H3.out.2)⟩
          case measure => simp [intOf]; omega
      · rw [if_neg e0] at hwk
        have hlt := HK.out.1.inv.cls_lt hkl
        rw [HN.out] at hlt
        have HNX : Hid (∀ V, OpAt B X P n V s1 → Kp B X w V → OnAt B X P n w 0 V s1 ∧ fillF n rels m' (k + 1) s1 = OUT) := fun V h1 h2 => ⟨⟨h1, HK.out.1.inv, Nat.zero_le _, h2⟩, hwk⟩
        obtain ⟨x, hx⟩ : ∃ x, s1.cls k = x := ⟨_, rfl⟩
        rw [hx] at hst hlt e0
        have hb0 : ((x : Int) == (k : Int)) = false := beq_false_of_ne (by omega)
        clear hwk hx
        go_wp2_with (first
          | (go_at_call 52; refine hst.mono ?_; rintro e V ⟨rfl, ho2, hk2⟩; have H2 := Hid.mk' (HNX.out V ho2 (HK.out.1.kp.trans hk2)); clear ho2 hk2 hst)
          | fail)
        go_roundw
        case rel => exact ⟨k + 1, m', s1, by omega, by omega, by go_num, H2.out⟩
        case measure => simp [intOf]; omega
    · have HO : Hid (OUT = some s1) := by rw [← HK.out.2]; exact fillF_end (by rw [HN.out]; omega)
      go_wp2_with fail
      go_ret
      exact BoolSays.ok HO.out HK.out.1.op HK.out.1.kp

end Go.Proofs.YtmaopnbnbiediaaDoor

namespace Go.Proofs.YtmaopnbnbiediaaDoor
open Go.RowKit Go.Sort

/-- A table of one row that leads nowhere. -/
structure BlankAt (B n : Nat) (w w' : World) (G cG g : Nat) : Prop where
  own : w'.ownsRow B 42 1 (.slice (some ⟨G, 0, none⟩) 1 cG) 1 [.slice (some ⟨g, 0, none⟩) (2 * n) (2 * n)]
  row : w'.rowIs g 3 (2 * n) (fun _ => .int .i64 (-1))
  ne : G ≠ g
  low : B ≤ g
  below : Below B w w'

theorem froz_new (w : World) (cs : Array Value) (t : TypeId) (i : Nat) : (w.alloc (.cells cs t)).frozen? ⟨w.heap.size, i, none⟩ = false := by
  have h : (w.alloc (.cells cs t)).heap[w.heap.size]? = some (.cells cs t) := Array.getElem?_push_size
  simp only [World.frozen?, h]
  simp
theorem froz_old (w : World) (o : Obj) {p : Addr} (hp : p.block < w.heap.size) : (w.alloc o).frozen? p = w.frozen? p := World.frozen?_of_block (Below.heap_alloc w o p.block hp)

set_option maxRecDepth 100000 in
set_option maxHeartbeats 2000000 in
theorem blank_one (n : Nat) (w : World) (hn : n ≤ 12) :
    Calls Tryd.prog 20 #[.int .i64 1, .int .i64 (n : Int)] w fun e w' => ∃ G cG g, e = .returned (.agg #[.slice (some ⟨G, 0, none⟩) 1 cG]) ∧ BlankAt w.heap.size n w w' G cG g := by
  obtain ⟨W1, hW1⟩ : ∃ W1, (w.alloc (.cells #[.slice none 0 0] 49)).alloc (.cells #[.slice none 0 0] 49) = W1 := ⟨_, rfl⟩
  have hB1 : Below w.heap.size w W1 := by rw [← hW1]; exact ((Below.refl _ w).alloc (Nat.le_refl _) _).alloc (by simp) _
  have hs1 : W1.heap.size = w.heap.size + 2 := by rw [← hW1]; simp
  have q0 : W1.cell? ⟨w.heap.size, 0, none⟩ = some (.slice none 0 0) := by
    rw [← hW1, World.cell?_alloc_lt _ _ ⟨w.heap.size, 0, none⟩ (by simp)]
    have := cells_new w [.slice none 0 0] 49 0 _ rfl
    rwa [Addr.add_lit, Nat.zero_add] at this
  have q1 : W1.cell? ⟨w.heap.size + 1, 0, none⟩ = some (.slice none 0 0) := by
    have := cells_new (w.alloc (.cells #[.slice none 0 0] 49)) [.slice none 0 0] 49 0 _ rfl
    rw [Addr.add_lit, Nat.zero_add, World.size_alloc] at this
    rw [← hW1]
    exact this
  have f0 : W1.frozen? ⟨w.heap.size, 0, none⟩ = false := by rw [← hW1, froz_old _ _ (by simp)]; exact froz_new w _ _ 0
  have f1 : W1.frozen? ⟨w.heap.size + 1, 0, none⟩ = false := by
    have := froz_new (w.alloc (.cells #[.slice none 0 0] 49)) #[.slice none 0 0] 49 0
    rw [World.size_alloc] at this
    rw [← hW1]; exact this
  have had := addRow_ w.heap.size (w.heap.size + 1) n 0 (.slice none 0 0) [] W1 q1 f1 (World.ownsRow_nil _ _ _ _) (by intro h; cases h) (by omega) (by omega) hn
  have HW1 : Hid ((w.alloc (.cells #[.slice none 0 0] 49)).alloc (.cells #[.slice none 0 0] 49) = W1) := hW1
  have HB1 := Hid.mk' hB1
  have HS1 := Hid.mk' hs1
  obtain ⟨p, hp⟩ : ∃ p, w.heap.size = p := ⟨_, rfl⟩
  have HP : Hid (w.heap.size = p) := hp
  have HPS : Hid (∀ V v1 g, RowMore w.heap.size (w.heap.size + 1) n 0 (.slice none 0 0) [] W1 V v1 g → ∃ G cG, v1 = .slice (some ⟨G, 0, none⟩) 1 cG ∧ V.cell? ⟨w.heap.size + 1, 0, none⟩ = some v1 ∧ (V.cell? ⟨w.heap.size, 0, none⟩ = some (.slice none 0 0) ∧ V.frozen? ⟨w.heap.size, 0, none⟩ = false) ∧ BlankAt w.heap.size n w (V.setCell ⟨w.heap.size, 0, none⟩ (.slice (some ⟨G, 0, none⟩) 1 cG)) G cG g) := fun V v1 g hm => by
    obtain ⟨G, cG, e1, hG1, hG2⟩ := hm.own.form (by omega)
    have hnew := hm.new
    have hGb : W1.heap.size ≤ G ∧ G ≠ g := by
      rcases hm.blk with e | ⟨b, e, k1, k2⟩
      · rw [e1] at e; cases e
      · rw [e1] at e; have := Option.some.inj e; subst this; exact ⟨k1, k2⟩
    have eb := hm.keep w.heap.size (by omega) (by omega) (by intro h; cases h)
    refine ⟨G, cG, e1, hm.cell, ⟨(World.cell?_of_block (a := ⟨w.heap.size, 0, none⟩) eb).trans q0, (World.frozen?_of_block (a := ⟨w.heap.size, 0, none⟩) eb).trans f0⟩, ⟨?_, ?_, hGb.2, by omega, ?_⟩⟩
    · have := hm.own
      rw [e1] at this
      exact this.kept (grown_at V ⟨w.heap.size, 0, none⟩ _) (.inr fun e => by have h9 : G = w.heap.size := Option.some.inj e; omega)
    · exact hm.row.of_block (Below.heap_setCell V ⟨w.heap.size, 0, none⟩ _ g (Nat.ne_of_gt (show w.heap.size < g by omega)))
    · refine ⟨hm.os.trans hB1.os, hm.tape.trans hB1.tape, hm.output.trans hB1.output, Nat.le_trans (show w.heap.size ≤ W1.heap.size by omega) (Nat.le_trans hm.size (by simp)), fun b hb => ?_⟩
      have hb' : b < w.heap.size := hb
      have k1 := Below.heap_setCell V ⟨w.heap.size, 0, none⟩ (.slice (some ⟨G, 0, none⟩) 1 cG) b (Nat.ne_of_lt hb')
      have k2 := hm.keep b (by omega) (by omega) (by intro h; cases h)
      exact (k1.trans k2).trans (hB1.block b hb')
  rw [hp] at HPS had
  clear hW1 hp q0 q1 f0 f1 hs1 hB1
  go_enter Tryd.func20, Tryd.ntmps20
  go_wp2_with fail
  rw [HW1.out, HP.out]
  go_loopw [7] (fun k W => (k = .int .i64 0 ∧ W = W1) ∨ (k = .int .i64 1 ∧ Hid (∃ v1 g, RowMore p (p + 1) n 0 (.slice none 0 0) [] W1 W v1 g))) (fun k _ => 1 - (intOf k).toNat)
  case atStart => exact .inl ⟨rfl, rfl⟩
  case round =>
    rcases hrel with ⟨rfl, rfl⟩ | ⟨rfl, HK⟩
    · go_wp2_with (first
        | (go_at_call 40; refine had.mono ?_; rintro e V ⟨rfl, hm⟩; have H2 := Hid.mk' hm; clear hm had)
        | fail)
      go_roundw
      case rel => exact .inr ⟨by go_num, H2.out⟩
      case measure => simp [intOf]
    · obtain ⟨v1, g, hm⟩ := HK.out
      obtain ⟨G, cG, rfl, c1, ⟨c0, f0⟩, hb⟩ := HPS.out wr v1 g hm
      have HB := Hid.mk' hb
      clear hm hb
      go_wp2_with fail
      have c9 : (wr.setCell ⟨p, 0, none⟩ (.slice (some ⟨G, 0, none⟩) 1 cG)).cell? ⟨p, 0, none⟩ = some (.slice (some ⟨G, 0, none⟩) 1 cG) := World.cell?_setCell_same' wr _ _ (by rw [c0]; rfl)
      refine bodyPost_ret (v := .agg #[.slice (some ⟨G, 0, none⟩) 1 cG]) ?_ rfl ⟨G, cG, g, rfl, by rw [HP.out]; exact HB.out⟩
      simp [results, Tryd.f20, go_sem, c9]

theorem begin_op {B n G cG g : Nat} {w w1 : World} (h : BlankAt B n w w1 G cG g) (hB : B ≤ w1.heap.size) : OpAt B (fun _ => False) (w1.heap.size + 1) n ((w1.alloc (.cells #[.int .i64 0] 3)).alloc (.cells #[.slice (some ⟨G, 0, none⟩) 1 cG, .int .i64 (n : Int), .slice (some ⟨w1.heap.size, 0, none⟩) 1 1] 83)) (beginP n) := by
  obtain ⟨W2, hW2⟩ : ∃ W2, w1.alloc (.cells #[.int .i64 0] 3) = W2 := ⟨_, rfl⟩
  have hs2 : W2.heap.size = w1.heap.size + 1 := by rw [← hW2]; simp
  have hGs := h.own.lt G rfl
  have hgs := h.row.lt
  have hnew := cells_new W2 [.slice (some ⟨G, 0, none⟩) 1 cG, .int .i64 (n : Int), .slice (some ⟨w1.heap.size, 0, none⟩) 1 1] 83
  have hfz := fun i => froz_new W2 #[.slice (some ⟨G, 0, none⟩) 1 cG, .int .i64 (n : Int), .slice (some ⟨w1.heap.size, 0, none⟩) 1 1] 83 i
  rw [hW2]
  rw [hs2] at hnew hfz
  have c : ∀ j u, [Value.slice (some ⟨G, 0, none⟩) 1 cG, .int .i64 (n : Int), .slice (some ⟨w1.heap.size, 0, none⟩) 1 1][j]? = some u → (W2.alloc (.cells #[.slice (some ⟨G, 0, none⟩) 1 cG, .int .i64 (n : Int), .slice (some ⟨w1.heap.size, 0, none⟩) 1 1] 83)).cell? ⟨w1.heap.size + 1, j, none⟩ = some u := fun j u hu => by
    have := hnew j u hu
    rwa [Addr.add_lit, Nat.zero_add] at this
  refine ⟨G, cG, w1.heap.size, 1, fun _ => g, fun _ => 0, ⟨c 0 _ rfl, c 1 _ rfl, c 2 _ rfl, hfz 0, hfz 2, ?_, fun k hk => ?_, ?_, fun j k hj hk _ => ?_, ⟨by omega, by omega, by omega⟩, fun k hk => ⟨fun e => h.ne e.symm, by omega, by omega⟩, ⟨by omega, fun k hk => h.low⟩, ⟨id, id, id, fun _ _ => id⟩, (beginP_inv n).wide, by show 1 ≤ 5000; omega, by show 0 < 1; omega, ?_, fun i _ => rfl⟩⟩
  · have h1 := h.own.alloc (.cells #[.int .i64 0] 3)
    rw [hW2] at h1
    exact h1.alloc _
  · have hk0 : k = 0 := by have : k < 1 := hk; omega
    subst hk0
    have h1 := h.row.of_block (Below.heap_alloc w1 (.cells #[.int .i64 0] 3) g hgs)
    rw [hW2] at h1
    refine (h1.of_block (Below.heap_alloc W2 (.cells #[.slice (some ⟨G, 0, none⟩) 1 cG, .int .i64 (n : Int), .slice (some ⟨w1.heap.size, 0, none⟩) 1 1] 83) g (by omega))).congr fun x _ => ?_
    show Value.int .i64 (-1) = .int .i64 (ent ([] ++ [newRow n]) 0 x)
    rw [ent_app, if_neg (by simp), if_pos (show 0 = ([] : List (List Int)).length from rfl), ent_new]
  · have h1 := World.ownsRow_lit (base := B) (e := 3) (size := 1) w1 #[.int .i64 0] 1 hB (by decide) rfl
    rw [hW2] at h1
    exact h1.alloc _
  · have h1 : j < 1 := hj
    have h2 : k < 1 := hk
    omega
  · refine ⟨Cls.id, fun i hi => Nat.zero_le _, fun i hi => ?_, fun i hi e => rfl, fun i hi e => ?_⟩
    · have : i < 1 := hi
      show 0 = i
      omega
    · have : i < 1 := hi
      show 0 = i
      omega

set_option maxRecDepth 100000 in
set_option maxHeartbeats 2000000 in
theorem begin_ (n : Nat) (w : World) (hn : n ≤ 12) :
    Calls Tryd.prog 33 #[.int .i64 (n : Int)] w fun e w' => ∃ P, e = .returned (.pointer (some ⟨P, 0, none⟩)) ∧ OpAt w.heap.size (fun _ => False) P n w' (beginP n) ∧ Below w.heap.size w w' := by
  have hbl := blank_one n w hn
  go_enter Tryd.func33, Tryd.ntmps33
  go_wp2_with (first
    | (go_at_call 20; refine hbl.mono ?_; rintro e V ⟨G, cG, g, rfl, hb⟩; have HB := Hid.mk' hb; clear hb hbl)
    | fail)
  go_ret
  have hs := HB.out.below.size
  have h1 := begin_op HB.out hs
  refine ⟨_, rfl, h1, (HB.out.below.alloc hs _).alloc (by simp; omega) _⟩

end Go.Proofs.YtmaopnbnbiediaaDoor
