/- The delta of a row; whether it is a cocycle. The sorter: a map from first numbers to rows, and what it does to a row. A region that draws its order, whose operations read and whose callees lay memory of their own: walked once, in the order of the text, in the class of the worlds that keep what was there. -/
import Derived.Test.YtldknhganoiajaaGreatDoorCupDelta2
import Derived.Test.YtldknhganoiajaaGreatDoorCupRowOf
import Derived.Test.YtldknhganoiajaaGreatDoorCupRow
import Derived.Test.YtldknhganoiajaaGreatDoorBase
import Derived.BigQuiet
import Derived.Deep.QuietTactic
namespace Go.Proofs.YtldknhganoiajaaGreatDoor
open Go.RowKit Go.Sort Go.Maps Go.Deep

/-- The sum of the deltas of these faces. -/
def dSum (all : List (List Int)) (d : Nat) (is : List Nat) : Nat := is.foldl (fun x i => x ^^^ dM all d i) 0
/-- The delta of a word. -/
def deltaW (all : List (List Int)) (d x : Nat) : Nat := dSum all d (bitsN x)
theorem dM_lt (all : List (List Int)) (d i : Nat) : dM all d i < 2 ^ (ofDim all ((d + 1 : Nat) : Int)).length := maskF_lt _ _
theorem natsI_get (is : List Nat) (k : Nat) (hk : k < is.length) : (natsI is)[k]?.getD 0 = ((is[k]?.getD 0 : Nat) : Int) := by
  unfold natsI
  rw [List.getElem?_map, List.getElem?_eq_getElem hk]; rfl
theorem dSum_take (all : List (List Int)) (d : Nat) (is : List Nat) (k : Nat) (hk : k < is.length) : dSum all d (is.take (k + 1)) = dSum all d (is.take k) ^^^ dM all d (is[k]?.getD 0) := by
  unfold dSum
  rw [List.take_add_one, List.getElem?_eq_getElem hk, List.foldl_append]; rfl

set_option maxRecDepth 100000 in
set_option maxHeartbeats 2000000 in
theorem delta_ {S : Nat → Prop} {l all : List (List Int)} (hg : Good l all) (h60 : all.length ≤ 60) (v u : Value) (d x : Nat) (hd : d ≤ 100) (w : World) (h : ShapeAt w v all) (hu : WordIn S w u (ofDim all (d : Int)).length x) (hT : TabOk w) :
    Calls Tryz.prog 29 #[v, .int .i64 (d : Int), u] w fun e w' => ∃ r, e = .returned r ∧ WordIn (fun b => w.heap.size ≤ b) w' r (ofDim all ((d + 1 : Nat) : Int)).length (deltaW all d x) ∧ Below w.heap.size w w' := by
  have h7 : topN all ≤ 7 := topN_upto hg.short
  have hn6 : (ofDim all ((d + 1 : Nat) : Int)).length ≤ 60 := Nat.le_trans (ofDim_length _ _) h60
  have hm6 : (ofDim all (d : Int)).length ≤ 60 := Nat.le_trans (ofDim_length _ _) h60
  have hh := h
  obtain ⟨vF, g, L, rfl, hF, hL, hN⟩ := h
  obtain ⟨aF, cF, rfl, hx⟩ := hF.open_
  rw [facesT_len] at hh ⊢
  have hB1 : Below w.heap.size w (w.alloc (.cells #[.slice aF (topN all) cF, .map (some g)] 46)) := (Below.refl _ w).alloc (Nat.le_refl _) _
  have q1 := cells_two w (.slice aF (topN all) cF) (.map (some g)) 46
  obtain ⟨W1, hW1⟩ : ∃ W1, w.alloc (.cells #[.slice aF (topN all) cF, .map (some g)] 46) = W1 := ⟨_, rfl⟩
  have hz1 : W1.heap.size = w.heap.size + 1 := by rw [← hW1]; simp
  have hbx : w.heap.size < W1.heap.size := by omega
  have c0 := q1.1.1
  have c1 := q1.1.2
  rw [hW1] at hB1 c0 c1
  have HW1 := Hid.mk' hW1
  have HS : Hid (∀ V, Below W1.heap.size W1 V → ShapeAt V (.agg #[.slice aF (topN all) cF, .map (some g)]) all ∧ V.cell? ⟨w.heap.size, 0, none⟩ = some (.slice aF (topN all) cF) ∧ V.cell? ⟨w.heap.size, 1, none⟩ = some (.map (some g)) ∧ WordIn S V u (ofDim all (d : Int)).length x ∧ TabOk V) := fun V hV => by
    have hw : Below w.heap.size w V := hB1.trans (hV.mono hB1.size)
    exact ⟨hh.below hw, (hV.cell (p := ⟨w.heap.size, 0, none⟩) hbx).trans c0, (hV.cell (p := ⟨w.heap.size, 1, none⟩) hbx).trans c1, hu.below hw, hT.below hw⟩
  have HCT : Hid (∀ (V : World), Below W1.heap.size W1 V → Calls Tryz.prog 50 #[.agg #[.slice aF (topN all) cF, .map (some g)], .int .i64 ((d : Int) + 1)] V (fun e w' => e = .returned (.int .i64 ((ofDim all ((d + 1 : Nat) : Int)).length : Int)) ∧ Below V.heap.size V w')) := fun V hV =>
    count_ _ all (d + 1) (by omega) (by omega) V (HS.out V hV).1
  have HDL : Hid (∀ (V : World), Below W1.heap.size W1 V → Calls Tryz.prog 52 #[.agg #[.slice aF (topN all) cF, .map (some g)], .int .i64 (d : Int)] V fun e w' => DlSays (ofDim all ((d + 1 : Nat) : Int)).length (ofDim all (d : Int)).length (fun i => dM all d i) V e w') := fun V hV => deltas_ hg h60 _ d hd V (HS.out V hV).1
  have HTO : Hid (∀ (V : World), Below W1.heap.size W1 V → Calls Tryz.prog 30 #[u] V fun e w' => ∃ r, e = .returned r ∧ IntsIn (fun b => V.heap.size ≤ b) w' r (bitsI x) ∧ Below V.heap.size V w') := fun V hV => told_row u _ x V (HS.out V hV).2.2.2.1 (HS.out V hV).2.2.2.2
  have hbits : ∀ i ∈ bitsN x, i < (ofDim all (d : Int)).length := fun i hi => by
    have hb := (bitsN_mem hu.lt).1 hi
    rcases Nat.lt_or_ge i (ofDim all (d : Int)).length with h1 | h1
    · exact h1
    · rw [Nat.testBit_lt_two_pow (Nat.lt_of_lt_of_le hu.1 (Nat.pow_le_pow_right (by decide) h1))] at hb; cases hb
  obtain ⟨au, mu, cu, rfl⟩ := hu.form
  obtain ⟨T, hTT⟩ : ∃ T, topN all = T := ⟨_, rfl⟩
  obtain ⟨M, hM⟩ : ∃ M, (ofDim all (d : Int)).length = M := ⟨_, rfl⟩
  obtain ⟨n, hn⟩ : ∃ n, (ofDim all ((d + 1 : Nat) : Int)).length = n := ⟨_, rfl⟩
  have HM := Hid.mk' hM
  have HN := Hid.mk' hn
  rw [hM] at hm6 HDL hbits HS
  rw [hn] at hn6 HCT HDL ⊢
  rw [hTT] at HCT HDL HS HW1 c0 ⊢
  have hct := HCT.out W1 (Below.refl _ _)
  have HB1 := Hid.mk' hB1
  have HBI := Hid.mk' hbits
  clear hx hh hF hN hL q1 hW1 hTT hB1 hM hn c0 c1 hu hT hbits hg
  go_enter Tryz.func29, Tryz.ntmps29
  go_upto_region 1 with fail
  rw [HW1.out]
  have b0 := (HS.out W1 (Below.refl _ _)).2.1
  have b1 := (HS.out W1 (Below.refl _ _)).2.2.1
  go_wp2_with fail
  refine hct.mono ?_
  clear hct
  rintro e V1 ⟨rfl, hV1⟩
  have hnr := newRow_ n hn6 V1
  go_wp2_with fail
  refine hnr.mono ?_
  clear hnr b0 b1
  rintro e V2 ⟨r, rfl, hr, hV2⟩
  have HV2 : Hid (Below W1.heap.size W1 V2) := hV1.trans (hV2.mono hV1.size)
  have HR2 : Hid (WordIn (fun b => W1.heap.size ≤ b) V2 r n 0) := hr.mono (fun b _ hb => by have := hV1.size; omega)
  obtain ⟨ar, mr, cr, rfl⟩ := hr.form
  have hdl := HDL.out V2 HV2.out
  have b0 := (HS.out V2 HV2.out).2.1
  have b1 := (HS.out V2 HV2.out).2.2.1
  clear hr hV1 hV2
  go_wp2_with fail
  refine hdl.mono ?_
  clear hdl b0 b1
  rintro e V3 ⟨G, us, rfl, hD, hV3⟩
  have HD3 : Hid (DlAt W1.heap.size n M V3 G us M (fun i => dM all d i) ∧ Below W1.heap.size W1 V3 ∧ V2.heap.size ≤ G ∧ ∀ i, i < M → 0 < n → ∀ b, (us i).ownBlock = some b → V2.heap.size ≤ b) := by
    have hs2 := HV2.out.size
    exact ⟨⟨hD.outer, fun i hi => (hD.word i hi).mono (fun b _ hb => ⟨by omega, hb.2⟩), hD.apart, by have := hD.base; omega⟩, HV2.out.trans (hV3.mono HV2.out.size), hD.base, fun i hi h0 b hb => (own_block_of (hD.word i hi) hb h0).1⟩
  have HR3 : Hid (WordIn (fun b => W1.heap.size ≤ b ∧ b < V2.heap.size) V3 (.slice ar mr cr) n 0) := (HR2.out.mono (fun b h1 h2 => ⟨h2, h1⟩)).below hV3
  have hto := HTO.out V3 HD3.out.2.1
  clear hD hV3 HR2
  go_wp2_with fail
  refine hto.mono ?_
  clear hto
  rintro e V4 ⟨t, rfl, ht, hV4⟩
  have HD4 : Hid (DlAt W1.heap.size n M V4 G us M (fun i => dM all d i) ∧ Below W1.heap.size W1 V4) := ⟨HD3.out.1.below hV4, HD3.out.2.1.trans (hV4.mono HD3.out.2.1.size)⟩
  have HR4 : Hid (WordIn (fun b => W1.heap.size ≤ b ∧ b < V2.heap.size) V4 (.slice ar mr cr) n 0) := HR3.out.below hV4
  have HGG : Hid (V2.heap.size ≤ V3.heap.size ∧ G < V4.heap.size) := ⟨by have := HD3.out.1.outer.lt; have := HD3.out.2.2.1; omega, by have := HD3.out.1.outer.lt; have := hV4.size; omega⟩
  obtain ⟨at', ct, rfl, -, hxt⟩ := ht.open_
  have HXT := Hid.mk' hxt
  obtain ⟨is, his⟩ : ∃ is, bitsN x = is := ⟨_, rfl⟩
  have HIS := Hid.mk' his
  have hbl : (bitsI x).length = is.length := by unfold bitsI; rw [natsI_len, his]
  rw [hbl] at HXT ⊢
  obtain ⟨m, hm⟩ : ∃ m, is.length = m := ⟨_, rfl⟩
  have HMM := Hid.mk' hm
  have hm64 : m ≤ 64 := by rw [← hm, ← his]; exact bitsN_len x
  rw [hm] at HXT ⊢
  clear ht hxt hV4 his hbl hm
  go_wp2_with fail
  go_loopw [22] (fun p W => ∃ (k : Nat), k ≤ m ∧ p = .int .i64 (k : Int) ∧ Hid (WordIn (fun b => W1.heap.size ≤ b ∧ b < V2.heap.size) W (.slice ar mr cr) n (dSum all d (is.take k)) ∧ DlAt W1.heap.size n M W G us M (fun i => dM all d i) ∧ Below W1.heap.size W1 W ∧ ∀ b, V3.heap.size ≤ b → b < V4.heap.size → W.heap[b]? = V4.heap[b]?)) (fun p _ => m - (intOf p).toNat)
  case atStart => exact ⟨0, by omega, rfl, by simpa [dSum] using HR4.out, HD4.out.1, HD4.out.2, fun _ _ _ => rfl⟩
  case round =>
    obtain ⟨k, hk, rfl, HK⟩ := hrel
    by_cases hlt : k < m
    · have hki : k < is.length := by rw [HMM.out]; exact hlt
      obtain ⟨bt, ot, rfl, hbt, hbl, hcs⟩ := HXT.out (by omega)
      have hc4 := hcs k hlt
      have e9 : (bitsI x)[k]?.getD 0 = ((is[k]?.getD 0 : Nat) : Int) := by unfold bitsI; rw [HIS.out]; exact natsI_get is k hki
      rw [e9] at hc4
      have g1 : wr.cell? ⟨bt, ot + k, none⟩ = some (.int .i64 ((is[k]?.getD 0 : Nat) : Int)) := (World.cell?_of_block (HK.out.2.2.2 bt hbt hbl)).trans hc4
      have hiM : is[k]?.getD 0 < M := HBI.out _ (by rw [HIS.out, List.getElem?_eq_getElem hki]; exact List.getElem_mem hki)
      have HDT := Hid.mk' (dSum_take all d is k hki)
      obtain ⟨i, hi⟩ : ∃ i, is[k]?.getD 0 = i := ⟨_, rfl⟩
      rw [hi] at g1 hiM HDT
      have hwi := HK.out.2.1.word i hiM
      obtain ⟨ai, mi, ci, hui⟩ := hwi.form
      have hcl := HK.out.2.1.outer.cell hiM
      rw [if_pos hiM, hui] at hcl
      have had := add_ (.slice ar mr cr) (us i) n _ _ wr HK.out.1 hwi
      rw [hui] at had
      have z0 : (0 : Int) ≤ (i : Int) := by omega
      have z1 : (i : Int) < (M : Int) := by omega
      clear hcs hbt hbl hc4 e9 hi hwi hui hki
      go_wp2_with fail
      refine had.mono ?_
      clear had
      rintro e V5 ⟨rfl, hA1, hA2, hA3, hA4⟩
      have HE : Hid (WordIn (fun b => W1.heap.size ≤ b ∧ b < V2.heap.size) V5 (.slice ar mr cr) n (dSum all d (is.take (k + 1))) ∧ DlAt W1.heap.size n M V5 G us M (fun i => dM all d i) ∧ Below W1.heap.size W1 V5 ∧ ∀ b, V3.heap.size ≤ b → b < V4.heap.size → V5.heap[b]? = V4.heap[b]?) := by
        refine ⟨by rw [HDT.out]; exact hA1, ?_⟩
        rcases Nat.eq_zero_or_pos n with h0 | h0
        · rw [hA4 h0]; exact HK.out.2
        · obtain ⟨b, hbb⟩ : ∃ b, (Value.slice ar mr cr).ownBlock = some b := by
            obtain ⟨-, -, ⟨h3, -⟩ | ⟨-, b, c, e, -⟩⟩ := HK.out.1
            · omega
            · exact ⟨b, by rw [e]; rfl⟩
          have hob := own_block_of HK.out.1 hbb h0
          rw [hbb] at hA2
          have h34 := HGG.out.1
          refine ⟨HK.out.2.1.kept hA2 (by have := HD3.out.2.2.1; omega) (fun i hi e => by have := HD3.out.2.2.2 i hi h0 b e; omega), HK.out.2.2.1.grown hA2 HK.out.2.2.1.size (fun j hj => by cases hj; omega), fun b' h1 h2 => ?_⟩
          rw [hA2.block b' (by have := HK.out.2.2.1.size; have := HK.out.2.2.2 b' h1 h2; rcases Nat.lt_or_ge b' wr.heap.size with h9 | h9; exact h9; rw [Array.getElem?_eq_none h9, Array.getElem?_eq_getElem h2] at this; cases this) (fun e => by cases e; omega)]
          exact HK.out.2.2.2 b' h1 h2
      clear hA1 hA2 hA3 hA4
      go_wp2_with fail
      go_roundw
      case rel => exact ⟨k + 1, by omega, by go_num, HE.out⟩
      case measure => simp [intOf]; omega
    · have hkm : k = m := by omega
      subst hkm
      have HE : Hid (WordIn (fun b => w.heap.size ≤ b) wr (.slice ar mr cr) n (deltaW all d x)) := by
        have h1 := HK.out.1
        rw [← HMM.out, List.take_length, ← HIS.out] at h1
        exact h1.mono (fun b _ hb => by omega)
      go_wp2_with fail
      go_ret
      exact ⟨_, rfl, HE.out, HB1.out.trans (HK.out.2.2.1.mono HB1.out.size)⟩

end Go.Proofs.YtldknhganoiajaaGreatDoor

namespace Go.Proofs.YtldknhganoiajaaGreatDoor
open Go.RowKit Go.Sort Go.Maps

/-- A word that lies in a row of the call's own. -/
theorem WordIn.own {W : World} {base n x c : Nat} {a : Option Addr} (h : W.ownsRow base 99 1 (.slice a 1 c) 1 [.int .u64 (x : Int)]) (hx : x < 2 ^ n) (h0 : 0 < n) (hn : n ≤ 64) : WordIn (fun b => base ≤ b) W (.slice a 1 c) n x := by
  obtain ⟨g, c', e, -, -⟩ := h.form (by omega)
  cases e
  have hc := h.cellAt 0 (by omega)
  have hs := slice_of_owns (S := anyBlock) h (fun _ _ _ => trivial)
  obtain ⟨a', c'', e', ⟨hcap, -⟩, -⟩ := hs
  cases e'
  exact ⟨hx, hn, .inr ⟨h0, g, c, rfl, by simpa using hcap, (h.lt g rfl).1, (h.lt g rfl).2, by simpa using hc, h.frozenAt 0⟩⟩

set_option maxRecDepth 100000 in
set_option maxHeartbeats 1000000 in
theorem clone_row {S : Nat → Prop} (v : Value) (n x : Nat) (w : World) (h : WordIn S w v n x) :
    Calls Tryz.prog 78 #[v] w fun e w' => ∃ u, e = .returned u ∧ WordIn (fun b => w.heap.size ≤ b) w' u n x ∧ Below w.heap.size w w' := by
  obtain ⟨i0, hi, hz0, hz1, hz2⟩ := info_parts Tryz.infow
  have hcmp : ∀ V p m c, (binOp BinOp.eql 68 (.slice (some p) m c) (.slice none 0 0)).run Tryz.prog V = .ok (.bool false) V := fun V p m c => by kernel_rfl
  have hcn : ∀ V m c, (binOp BinOp.eql 68 (.slice none m c) (.slice none 0 0)).run Tryz.prog V = .ok (.bool true) V := fun V m c => by kernel_rfl
  have hE : (w.alloc (.cells #[] 99)).ownsRow w.heap.size 99 1 (.slice (some ⟨w.heap.size, 0, none⟩) 0 0) 0 [] := own_empty w 99 w.heap.size (Nat.le_refl _)
  obtain ⟨h1, h2, ⟨h3, a, c, rfl⟩ | ⟨h3, b, c, rfl, hc, hb, hl, h4, h5⟩⟩ := h
  · have HX : Hid (x < 2 ^ n ∧ n = 0 ∧ n ≤ 64) := ⟨h1, h3, h2⟩
    clear h1 h2 h3
    cases a with
    | none =>
      go_enter Tryz.func78, Tryz.ntmps78
      go_wp2_with fail
      go_ret
      exact ⟨_, rfl, ⟨HX.out.1, HX.out.2.2, .inl ⟨HX.out.2.1, _, _, rfl⟩⟩, Below.refl _ _⟩
    | some p =>
      have hs : SliceIn anyBlock (w.alloc (.cells #[] 99)) (.slice (some p) 0 c) [] := ⟨some p, c, rfl, ⟨Nat.zero_le _, fun h => by cases h⟩, fun h => by simp at h⟩
      go_enter Tryz.func78, Tryz.ntmps78
      go_wp2_with (first
        | (at_builtin; refine wpList_append_slice rfl (.tmp 5) (.tmp 6) 68 rfl w.heap.size 99 i0 (.int .u64 0) 8 Tryz.underlying68 hi hz0 hz1 hz2 rfl _ _ _ rfl hE _ [] rfl hs (by simp) (by simp) (by unfold maxLen; simp) (by simp) ?_; intro v4 w4 hown4 hg4 hl4; obtain ⟨a4, c4, rfl⟩ := own_form hown4)
        | fail)
      go_ret
      exact ⟨_, rfl, ⟨HX.out.1, HX.out.2.2, .inl ⟨HX.out.2.1, _, _, rfl⟩⟩, ((Below.refl _ w).alloc (Nat.le_refl _) _).grown hg4 (by simp) (fun j hj => (hE.lt j hj).1)⟩
  · have HX : Hid (x < 2 ^ n ∧ 0 < n ∧ n ≤ 64) := ⟨h1, h3, h2⟩
    have hs : SliceIn anyBlock (w.alloc (.cells #[] 99)) (.slice (some ⟨b, 0, none⟩) 1 c) [.int .u64 (x : Int)] := ⟨_, c, rfl, ⟨hc, fun h => by cases h⟩, fun _ => ⟨b, 0, rfl, trivial, fun k u hu => by
      cases k with
      | zero => simp at hu; subst hu; exact (World.cell?_alloc_lt _ _ ⟨b, 0, none⟩ hl).trans h4
      | succ k => simp at hu⟩⟩
    clear h1 h2 h3
    go_enter Tryz.func78, Tryz.ntmps78
    go_wp2_with (first
      | (at_builtin; refine wpList_append_slice rfl (.tmp 5) (.tmp 6) 68 rfl w.heap.size 99 i0 (.int .u64 0) 8 Tryz.underlying68 hi hz0 hz1 hz2 rfl _ _ _ rfl hE _ [.int .u64 (x : Int)] rfl hs (by simp [Value.oneCell']) (by simp) (by unfold maxLen; simp) (by simp) ?_; intro v4 w4 hown4 hg4 hl4; obtain ⟨a4, c4, rfl⟩ := own_form hown4)
      | fail)
    go_ret
    exact ⟨_, rfl, WordIn.own hown4 HX.out.1 HX.out.2.1 HX.out.2.2, ((Below.refl _ w).alloc (Nat.le_refl _) _).grown hg4 (by simp) (fun j hj => (hE.lt j hj).1)⟩

/-- How a row is kept in a map: as it is. -/
def keptR (v : Value) : Option (DataW Value × List MemPlace) := some (.held v, [])
/-- Block g is a sorter's table: of each number the row that begins there. -/
def TbAt (W : World) (base g n N : Nat) (B : Tb) : Prop :=
  ∃ D : DataW Value, W.ownsMap Tryz.prog 3 keptR g N D ∧ (∀ k : Nat, k < 64 → B k = none → Maps.has D (.int .i64 (k : Int)) = false) ∧
    ∀ (k y : Nat), B k = some y → Maps.has D (.int .i64 (k : Int)) = true ∧ ∃ v, D.atKey (.int .i64 (k : Int)) (.held (.slice none 0 0)) = .held v ∧ WordIn (fun b => base ≤ b) W v n y
theorem TbAt.later {W W' : World} {base g n N : Nat} {B : Tb} (h : TbAt W base g n N B) (hB : Below W.heap.size W W') : TbAt W' base g n N B := by
  obtain ⟨D, h1, h2, h3⟩ := h
  refine ⟨D, h1.kept (Below.grownBy hB) (by simp), h2, fun k y hk => ?_⟩
  obtain ⟨q1, v, q2, q3⟩ := h3 k y hk
  exact ⟨q1, v, q2, q3.below hB⟩

end Go.Proofs.YtldknhganoiajaaGreatDoor

namespace Go.Proofs.YtldknhganoiajaaGreatDoor
open Go.RowKit

/-- A world that keeps what was there. -/
structure WIn (W : World) where
  w : World
  ok : Below W.heap.size W w

instance (W : World) : Nonempty (WIn W) := ⟨⟨W, Below.refl _ W⟩⟩

theorem region_in {P : Program} {id : Nat} {Q : Exit → Act → World → Prop} {a : Act} {w : World} {l : List Oper} (hm : P.follows .mixedOrders = true) (hB : Region.lexB .any l.toArray = true)
    (h : wpQuiet P l.toArray (fun w' => ∃ n : WIn w, w' = n.w) (fun a' => ∀ w', (∃ n : WIn w, w' = n.w) → Q .normal a' w') l a) : (Code.region id l.toArray true).wp P Q a w :=
  wp_region_quiet (C := fun w' => ∃ n : WIn w, w' = n.w) hm hB ⟨⟨w.drew, (Below.refl _ w).drew⟩, rfl⟩ (by simpa using h)

/-- A callee's contract as such a region asks for it. -/
theorem call_in {P : Program} {f : FuncId} {args : Array Value} {W : World} {v : Value} (n : WIn W) (h : Calls P f args n.w fun e w' => e = .returned v ∧ Below n.w.heap.size n.w w') : Calls P f args n.w fun e w'' => e = .returned v ∧ ∃ k : WIn W, w'' = k.w :=
  h.mono fun _ V k => ⟨k.1, ⟨V, n.ok.trans (k.2.mono n.ok.size)⟩, rfl⟩

end Go.Proofs.YtldknhganoiajaaGreatDoor
