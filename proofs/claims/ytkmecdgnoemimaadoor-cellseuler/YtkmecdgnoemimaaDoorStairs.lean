/- What counted answers: the facets of a pile, each vertex told by how many vertices are less. What stairs hands on: all stairs over one face of each. -/
import Derived.Test.YtkmecdgnoemimaaDoorKeptOwn
import Derived.Test.YtkmecdgnoemimaaDoorClimb
import Derived.Test.YtkmecdgnoemimaaDoorRaised
import Derived.Test.YtkmecdgnoemimaaDoorGather
namespace Go.Proofs.YtkmecdgnoemimaaDoor
open Go.RowKit Go.Sort Go.Maps Go.Deep

theorem Tryd.zeroes : Tryd.zeroCells87 = Array.replicate 100 (.int .u8 0) := by kernel_rfl

/-- Where a vertex stands among the first k. -/
def placeK (vs : List (List UInt8)) (k : Nat) (c : UInt8) : UInt8 := if [c] ∈ vs.take k then UInt8.ofNat (vs.idxOf [c]) else 0
/-- A face with each vertex told by its place. -/
def placeU (vs : List (List UInt8)) (x : List UInt8) : List UInt8 := x.map (placeK vs vs.length)
theorem place_zero (vs : List (List UInt8)) (c : UInt8) : placeK vs 0 c = 0 := by simp [placeK]
theorem take_has {vs : List (List UInt8)} {k : Nat} (hk : k < vs.length) (y : List UInt8) : y ∈ vs.take (k + 1) ↔ y ∈ vs.take k ∨ y = vs[k] := by
  rw [List.take_add_one, List.getElem?_eq_getElem hk, List.mem_append, Option.toList_some, List.mem_singleton]
theorem place_here {vs : List (List UInt8)} {k : Nat} {c : UInt8} (hn : vs.Nodup) (hk : k < vs.length) (hc : vs[k]? = some [c]) : placeK vs (k + 1) c = UInt8.ofNat k := by
  have h1 : vs[k] = [c] := by rw [List.getElem?_eq_getElem hk] at hc; exact Option.some.inj hc
  unfold placeK
  rw [if_pos ((take_has hk _).2 (.inr h1.symm)), ← h1, hn.idxOf_getElem]
theorem place_there {vs : List (List UInt8)} {k : Nat} {c d : UInt8} (hk : k < vs.length) (hc : vs[k]? = some [c]) (hd : d ≠ c) : placeK vs (k + 1) d = placeK vs k d := by
  have h1 : vs[k] = [c] := by rw [List.getElem?_eq_getElem hk] at hc; exact Option.some.inj hc
  unfold placeK
  have : ([d] ∈ vs.take (k + 1)) ↔ ([d] ∈ vs.take k) := by
    rw [take_has hk, h1]
    exact ⟨fun h => h.elim id (fun h => absurd (by simpa using h) hd), .inl⟩
  simp only [this]

/-- The first m done. -/
def mapTo {α : Type} (f : α → α) (m : Nat) (x : List α) : List α := (x.take m).map f ++ x.drop m
theorem mapTo_zero {α : Type} (f : α → α) (x : List α) : mapTo f 0 x = x := by simp [mapTo]
theorem mapTo_all {α : Type} (f : α → α) (x : List α) : mapTo f x.length x = x.map f := by simp [mapTo]
theorem mapTo_length {α : Type} (f : α → α) (m : Nat) (x : List α) : (mapTo f m x).length = x.length := by simp [mapTo]; omega
theorem mapTo_get {α : Type} {f : α → α} {m : Nat} {x : List α} (hm : m < x.length) : (mapTo f m x)[m]? = some x[m] := by
  unfold mapTo
  rw [List.getElem?_append_right (by simp; omega)]
  simp [Nat.min_eq_left (Nat.le_of_lt hm), hm]
theorem mapTo_succ {α : Type} {f : α → α} {m : Nat} {x : List α} (hm : m < x.length) : mapTo f (m + 1) x = (mapTo f m x).set m (f x[m]) := by
  unfold mapTo
  rw [List.take_add_one, List.getElem?_eq_getElem hm, List.drop_eq_getElem_cons hm, List.map_append, List.set_append_right (s := (x.take m).map f) m _ (by simp; omega)]
  simp [Nat.min_eq_left (Nat.le_of_lt hm)]
  rw [List.drop_eq_getElem_cons hm]; rfl

/-- Block g holds the texts xs, to be written. -/
def TextsAt (W : World) (g : Nat) (xs : List (List UInt8)) : Prop := ∀ (j : Nat) (x : List UInt8), xs[j]? = some x → W.cell? ⟨g, j, none⟩ = some (encStr x) ∧ W.frozen? ⟨g, j, none⟩ = false
theorem TextsAt.under {W W' : World} {B g : Nat} {xs : List (List UInt8)} (h : TextsAt W g xs) (hg : g < B) (hB : Below B W W') : TextsAt W' g xs := fun j c hj =>
  ⟨(hB.cell (p := ⟨g, j, none⟩) hg).trans (h j c hj).1, (hB.frozen (p := ⟨g, j, none⟩) hg).trans (h j c hj).2⟩
theorem TextsAt.set {W : World} {g : Nat} {xs : List (List UInt8)} (h : TextsAt W g xs) {k : Nat} (hk : k < xs.length) (x : List UInt8) : TextsAt (W.setCell ⟨g, k, none⟩ (encStr x)) g (xs.set k x) := fun j d hj => by
  rw [World.frozen?_setCell]
  by_cases e : j = k
  · subst e
    rw [List.getElem?_set_self hk] at hj
    obtain rfl : x = d := by simpa using hj
    refine ⟨World.cell?_setCell_same' _ _ _ ?_, (h j xs[j] (List.getElem?_eq_getElem hk)).2⟩
    rw [(h j xs[j] (List.getElem?_eq_getElem hk)).1]; rfl
  · rw [List.getElem?_set_ne (fun e' => e e'.symm)] at hj
    rw [World.cell?_setCell_other _ _ _ _ (fun e' => e (by cases e'; rfl))]
    exact h j d hj
theorem OwnStrs.form {base : Nat} {W : World} {v : Value} {xs : List (List UInt8)} (h : OwnStrs base W v xs) : (v = .slice none 0 0 ∧ xs = []) ∨ ∃ g cap, v = .slice (some ⟨g, 0, none⟩) xs.length cap ∧ xs.length ≤ cap ∧ base ≤ g ∧ g < W.heap.size ∧ TextsAt W g xs := by
  rcases h.2 with ⟨rfl, hn⟩ | ⟨g, cap, cur, rfl, hb, hg, hc, -, -, htake⟩
  · exact .inl ⟨rfl, List.length_eq_zero_iff.1 hn⟩
  · refine .inr ⟨g, cap, rfl, hc, hb, (Array.getElem?_eq_some_iff.1 hg).1, fun j x hj => ?_⟩
    have h2 : (xs.map encStr)[j]? = some (encStr x) := by rw [List.getElem?_map, hj]; rfl
    rw [← htake, List.getElem?_take] at h2
    split at h2
    · exact ⟨by simp [World.cell?, hg]; simpa using h2, by simp [World.frozen?, hg]⟩
    · cases h2
theorem strs_of_texts {S : Nat → Prop} {W : World} {g cap : Nat} {xs : List (List UInt8)} (h : TextsAt W g xs) (hS : S g) (hc : xs.length ≤ cap) : StrsIn S W (.slice (some ⟨g, 0, none⟩) xs.length cap) xs := by
  refine ⟨some ⟨g, 0, none⟩, cap, by simp, ⟨by simpa using hc, fun h => by cases h⟩, fun _ => ⟨g, 0, rfl, hS, fun j u hu => ?_⟩⟩
  rw [List.getElem?_map] at hu
  cases hx : xs[j]? with
  | none => rw [hx] at hu; cases hu
  | some x =>
    rw [hx] at hu
    rw [Nat.zero_add, (h j x hx).1]
    exact hu

/-- What counted answers. -/
def CountedSays (F : List (List UInt8)) (G : List UInt8 → Prop) (w : World) (e : Ending) (w' : World) : Prop :=
  ∃ v us ss, e = .returned v ∧ StrsIn (fun b => w.heap.size ≤ b) w' v ((srtS ss).map (placeU (srtS us))) ∧ (us.Nodup ∧ ∀ x, x ∈ us ↔ x ∈ F ∧ x.length = 1) ∧ (ss.Nodup ∧ ∀ x, x ∈ ss ↔ x ∈ F ∧ ¬ G x) ∧ Below w.heap.size w w'

end Go.Proofs.YtkmecdgnoemimaaDoor

namespace Go.Proofs.YtkmecdgnoemimaaDoor
open Go.RowKit Go.Shelf Go.Sort Go.Maps Go.Deep

attribute [local go_sem] Oper.semAt_some

/-- All stairs over one face of each. -/
def stairsU (wide : Nat) (first second : List (List UInt8)) : List (List UInt8) := first.flatMap (fun f => second.flatMap (climbU wide 20 f))
theorem stairs_cons {wide : Nat} {first second : List (List UInt8)} {i : Nat} {f : List UInt8} (hi : i < first.length) (hf : first[i]?.getD [] = f) : stairsU wide (first.drop i) second = (second.drop 0).flatMap (climbU wide 20 f) ++ stairsU wide (first.drop (i + 1)) second := by
  unfold stairsU
  rw [List.drop_eq_getElem_cons hi, List.flatMap_cons, List.drop_zero]
  rw [List.getElem?_eq_getElem hi, Option.getD_some] at hf
  rw [hf]
theorem high_cons {wide : Nat} {f : List UInt8} {second L : List (List UInt8)} {j : Nat} {g : List UInt8} (hj : j < second.length) (hg : second[j]?.getD [] = g) : (second.drop j).flatMap (climbU wide 20 f) ++ L = climbU wide 20 f g ++ ((second.drop (j + 1)).flatMap (climbU wide 20 f) ++ L) := by
  rw [List.drop_eq_getElem_cons hj, List.flatMap_cons, List.append_assoc]
  rw [List.getElem?_eq_getElem hj, Option.getD_some] at hg
  rw [hg]

/-- What has come, and what is left to come. -/
def LeftOver (zs : List Fc) (J : List Fc → World → Prop) (W : World) (L : List (List UInt8)) (wr : World) : Prop :=
  ∃ dn rest, zs = dn ++ rest ∧ rest.map Subtype.val = L ∧ J dn wr ∧ KeepsCells W wr ∧ W.heap.size ≤ wr.heap.size
theorem LeftOver.cell {zs : List Fc} {J : List Fc → World → Prop} {W : World} {L : List (List UInt8)} {wr : World} (h : LeftOver zs J W L wr) {p : Addr} {v : Value} (hc : W.cell? p = some v) : wr.cell? p = some v := by
  obtain ⟨_, _, _, _, _, hk, _⟩ := h
  exact hk.cell hc

set_option maxRecDepth 100000 in
set_option maxHeartbeats 4000000 in
theorem stairs_rounds (l B n₀ : Nat) (af ag : Option Addr) (cf cg wide : Nat) (first second : List (List UInt8)) (zs : List Fc) (hz : zs.map Subtype.val = stairsU wide first second) (hfl : first.length ≤ 600) (hgl : second.length ≤ 600)
    (hff : ∀ f ∈ first, f ≠ [] ∧ f.length ≤ 10) (hgg : ∀ g ∈ second, g ≠ [] ∧ g.length ≤ 10) (J Jx : List Fc → World → Prop) (W : World) (hJ : Heedless W.heap.size J)
    (hY : ∀ pre x W1, J pre W1 → pre.length < zs.length → YieldAt Fence.wide 8 Tryd.prog l #[encStr x.1] W1 fun e W' =>
      (e = .returned (.bool true) ∧ J (pre ++ [x]) W' ∧ BelowC n₀ W1 W') ∨ (e = .returned (.bool false) ∧ Jx (pre ++ [x]) W'))
    (hb1 : W.cell? ⟨B, 0, none⟩ = some (.slice af first.length cf)) (hb2 : W.cell? ⟨B + 1, 0, none⟩ = some (.slice ag second.length cg)) (hb3 : W.cell? ⟨B + 1 + 1, 0, none⟩ = some (.int .i64 wide))
    (hs1 : Strs W (.slice af first.length cf) first) (hs2 : Strs W (.slice ag second.length cg) second) (h0 : J [] W) :
    CallsIn Fence.wide 9 Tryd.prog 53 #[.func (.yield l) #[] #[], .pointer (some ⟨B, 0, none⟩), .pointer (some ⟨B + 1, 0, none⟩), .pointer (some ⟨B + 1 + 1, 0, none⟩)] W fun e W' => (∃ v, e = .returned v) ∧ (J zs W' ∨ ∃ pre, pre <+: zs ∧ Jx pre W') := by
  have hcl := climb_in l n₀ zs.length wide W.heap.size J Jx hJ hY 20
  have HCL : Hid (∀ (f g : List UInt8) (pre zs' : List Fc) (W' : World), f ≠ [] → g ≠ [] → f.length + g.length ≤ 21 → W.heap.size ≤ W'.heap.size → J pre W' → pre.length + zs'.length ≤ zs.length → zs'.map Subtype.val = climbU wide 20 f g →
      CallsIn Fence.wide (9 - 1) Tryd.prog 54 #[encStr f, encStr g, .int .i64 wide, .slice none 0 0, .func (.yield l) #[] #[]] W' (ClimbSays W.heap.size J Jx pre zs' (.slice none 0 0) [] W')) := fun f g pre zs' W' a1 a2 a3 a4 a5 a6 a7 =>
    hcl f g [] (.slice none 0 0) pre zs' W' a1 a2 a3 (by simp) (PathAt.nil _ _) a4 a5 a6 (by rw [a7]; simp) _
  have HFG : Hid ((∀ f ∈ first, f ≠ [] ∧ f.length ≤ 10) ∧ ∀ g ∈ second, g ≠ [] ∧ g.length ≤ 10) := ⟨hff, hgg⟩
  have HL0 : Hid (LeftOver zs J W (stairsU wide (first.drop 0) second) W) := ⟨[], zs, rfl, hz, h0, KeepsCells.refl _, Nat.le_refl _⟩
  obtain ⟨af', cf', ef, -, hxf⟩ := hs1.open_
  obtain ⟨rfl, rfl⟩ : af = af' ∧ cf = cf' := by simpa using ef
  obtain ⟨ag', cg', eg, -, hxg⟩ := hs2.open_
  obtain ⟨rfl, rfl⟩ : ag = ag' ∧ cg = cg' := by simpa using eg
  have HXF : Hid (0 < first.length → ∃ b off, af = some ⟨b, off, none⟩ ∧ True ∧ b < W.heap.size ∧ ∀ k, k < first.length → W.cell? ⟨b, off + k, none⟩ = some (encStr (first[k]?.getD []))) := hxf
  have HXG : Hid (0 < second.length → ∃ b off, ag = some ⟨b, off, none⟩ ∧ True ∧ b < W.heap.size ∧ ∀ k, k < second.length → W.cell? ⟨b, off + k, none⟩ = some (encStr (second[k]?.getD []))) := hxg
  obtain ⟨N, hN⟩ : ∃ N, first.length = N := ⟨_, rfl⟩
  obtain ⟨M, hM⟩ : ∃ M, second.length = M := ⟨_, rfl⟩
  have HN : Hid (first.length = N) := hN
  have HM : Hid (second.length = M) := hM
  rw [hN] at hb1 hfl
  rw [hM] at hb2 hgl
  clear hcl hff hgg hz hJ hY hs1 hs2 h0 hxf hxg ef eg hN hM
  refine callsIn_of_wp Tryd.func53 rfl trivial ?_ rfl
  simp only [Tryd.ntmps53, List.size_toArray, List.length_cons, List.length_nil, Nat.reduceAdd, Nat.reduceSub, Array.replicate_succ, Array.replicate_zero, List.push_toArray, List.append_toArray, List.nil_append, List.cons_append]
  gi_wp2
  gi_loopw [11] (fun p wr => ∃ i : Nat, i ≤ N ∧ p = .int .i64 i ∧ LeftOver zs J W (stairsU wide (first.drop i) second) wr) (fun p _ => N - (intOf p).toNat)
  case atStart => exact ⟨0, Nat.zero_le _, rfl, HL0.out⟩
  case round =>
    obtain ⟨i, hi, rfl, hLi⟩ := hrel
    obtain ⟨wi, hwi⟩ : ∃ wi : World, wi = wr := ⟨_, rfl⟩
    subst hwi
    have HLI : Hid (LeftOver zs J W (stairsU wide (first.drop i) second) wi) := hLi
    clear hLi HL0
    by_cases hlti : i < N
    · have hif : i < first.length := by rw [HN.out]; exact hlti
      obtain ⟨bf, of, rfl, -, -, hcf⟩ := HXF.out (by omega)
      have hci := HLI.out.cell (hcf i hif)
      have hb2i := HLI.out.cell hb2
      obtain ⟨f, hf⟩ : ∃ f, first[i]?.getD [] = f := ⟨_, rfl⟩
      have hfm : f ∈ first := by rw [← hf, List.getElem?_eq_getElem hif]; simp
      have hfx := HFG.out.1 f hfm
      rw [hf] at hci
      have HLJ : Hid (LeftOver zs J W ((second.drop 0).flatMap (climbU wide 20 f) ++ stairsU wide (first.drop (i + 1)) second) wi) := by
        show LeftOver _ _ _ _ _
        rw [← stairs_cons hif hf]; exact HLI.out
      obtain ⟨sf, hsf⟩ : ∃ s : ByteArray, encStr f = .string s := ⟨_, rfl⟩
      rw [hsf] at hci
      have HSF : Hid (encStr f = .string sf) := hsf
      have HFX : Hid (f ≠ [] ∧ f.length ≤ 10) := hfx
      clear hcf hf hfm hsf HLI hfx
      gi_wp2
      gi_loopw [17] (fun p wr => ∃ j : Nat, j ≤ M ∧ p = .int .i64 j ∧ LeftOver zs J W ((second.drop j).flatMap (climbU wide 20 f) ++ stairsU wide (first.drop (i + 1)) second) wr) (fun p _ => M - (intOf p).toNat)
      case atStart => exact ⟨0, Nat.zero_le _, rfl, HLJ.out⟩
      case round =>
        obtain ⟨j, hj, rfl, hLj⟩ := hrel
        obtain ⟨wj, hwj⟩ : ∃ wj : World, wj = wr := ⟨_, rfl⟩
        subst hwj
        have HLK : Hid (LeftOver zs J W ((second.drop j).flatMap (climbU wide 20 f) ++ stairsU wide (first.drop (i + 1)) second) wj) := hLj
        clear hLj HLJ hb2i hci
        by_cases hltj : j < M
        · have hjg : j < second.length := by rw [HM.out]; exact hltj
          obtain ⟨bg, og, rfl, -, -, hcg⟩ := HXG.out (by omega)
          have hcj := HLK.out.cell (hcg j hjg)
          have hb3j := HLK.out.cell hb3
          obtain ⟨g, hg⟩ : ∃ g, second[j]?.getD [] = g := ⟨_, rfl⟩
          have hgm : g ∈ second := by rw [← hg, List.getElem?_eq_getElem hjg]; simp
          have hgx := HFG.out.2 g hgm
          rw [hg] at hcj
          obtain ⟨dn, rest, hzs, hrest, hJd, hkd, hsd⟩ := HLK.out
          rw [high_cons hjg hg] at hrest
          obtain ⟨z1, z2, hze, h11, h12⟩ := List.map_eq_append_iff.1 hrest
          have hrec := HCL.out f g dn z1 wj HFX.out.1 hgx.1 (by have := HFX.out.2; omega) hsd hJd (by rw [hzs, hze]; simp) h11
          obtain ⟨sg, hsg⟩ : ∃ s : ByteArray, encStr g = .string s := ⟨_, rfl⟩
          rw [hsg] at hcj hrec
          rw [HSF.out] at hrec
          have HZS : Hid (zs = dn ++ (z1 ++ z2) ∧ z2.map Subtype.val = (second.drop (j + 1)).flatMap (climbU wide 20 f) ++ stairsU wide (first.drop (i + 1)) second ∧ KeepsCells W wj ∧ W.heap.size ≤ wj.heap.size) := ⟨by rw [hzs, hze], h12, hkd, hsd⟩
          clear hcg hg hgm hsg hzs hze hrest h11 h12 hJd hkd hsd hgx
          gi_wp2
          refine ⟨trivial, ?_⟩
          refine hrec.mono ?_
          clear hrec
          rintro e W2 (⟨rfl, hJ2, -, ho2⟩ | ⟨rfl, q, hq, hx⟩)
          · have HL2 : Hid (LeftOver zs J W ((second.drop (j + 1)).flatMap (climbU wide 20 f) ++ stairsU wide (first.drop (i + 1)) second) W2) :=
              ⟨dn ++ z1, z2, by rw [HZS.out.1, List.append_assoc], HZS.out.2.1, hJ2, HZS.out.2.2.1.trans (fun k o hk ho => ho2.2 k o (by simp [Value.ownBlock]) hk ho), Nat.le_trans HZS.out.2.2.2 ho2.1⟩
            clear hJ2 ho2
            gi_wp2
            go_roundw
            case rel => exact ⟨j + 1, by omega, by simp, HL2.out⟩
            case measure => simp [intOf]; omega
          · gi_wp2
            refine bodyPost_ret (results_none rfl _ _ _) rfl ?_
            exact ⟨⟨_, rfl⟩, .inr ⟨_, by rw [HZS.out.1]; exact (List.prefix_append_right_inj dn).2 (hq.trans (List.prefix_append _ _)), hx⟩⟩
        · obtain rfl : j = M := by omega
          have HLN : Hid (LeftOver zs J W (stairsU wide (first.drop (i + 1)) second) wj) := by
            have h1 := HLK.out
            rw [List.drop_of_length_le (by rw [HM.out]; exact Nat.le_refl _)] at h1
            exact h1
          gi_wp2
          go_roundw
          case rel => exact ⟨i + 1, by omega, by simp, HLN.out⟩
          case measure => simp [intOf]; omega
    · obtain rfl : i = N := by omega
      have hJe : J zs wi := by
        obtain ⟨dn, rest, hzs, hrest, hJd, -, -⟩ := HLI.out
        rw [List.drop_of_length_le (by rw [HN.out]; exact Nat.le_refl _)] at hrest
        have : rest = [] := List.map_eq_nil_iff.1 hrest
        rw [hzs, this, List.append_nil]; exact hJd
      gi_wp2
      go_end0
      exact ⟨⟨_, rfl⟩, .inl hJe⟩

/-- What stairs has by heart. -/
def stairArgs (B : Nat) : Array Value := #[.pointer (some ⟨B, 0, none⟩), .pointer (some ⟨B + 1, 0, none⟩), .pointer (some ⟨B + 1 + 1, 0, none⟩)]
/-- Three boxes laid one behind the other. -/
def stairWorld (w : World) (x y : Value) (wide : Nat) : World := ((w.alloc (.cells #[x] 52)).alloc (.cells #[y] 52)).alloc (.cells #[.int .i64 wide] 3)

theorem stairs_made (aa ab : Option Addr) (na nb ca cb wide : Nat) (w : World) :
    Calls Tryd.prog 28 #[.slice aa na ca, .slice ab nb cb, .int .i64 wide] w fun e w' => e = .returned (.func (.func 53) #[] (stairArgs w.heap.size)) ∧ w' = stairWorld w (.slice aa na ca) (.slice ab nb cb) wide := by
  go_enter Tryd.func28, Tryd.ntmps28
  go_wp2
  go_ret
  exact ⟨by simp [stairArgs], rfl⟩

theorem stairs_size (w : World) (x y : Value) (wide : Nat) : (stairWorld w x y wide).heap.size = w.heap.size + 3 := by simp [stairWorld]
theorem stairs_below (w : World) (x y : Value) (wide : Nat) : Below w.heap.size w (stairWorld w x y wide) := (((Below.refl _ w).alloc (Nat.le_refl _) _).alloc (by simp) _).alloc (by simp; omega) _
theorem stairs_boxes (w : World) (x y : Value) (wide : Nat) : (stairWorld w x y wide).cell? ⟨w.heap.size, 0, none⟩ = some x ∧ (stairWorld w x y wide).cell? ⟨w.heap.size + 1, 0, none⟩ = some y ∧ (stairWorld w x y wide).cell? ⟨w.heap.size + 1 + 1, 0, none⟩ = some (.int .i64 wide) := by
  refine ⟨(box_alloc _ (box_alloc _ (box_new w x 52))).1, ?_, ?_⟩
  · have := (box_alloc (.cells #[.int .i64 wide] 3) (box_new (w.alloc (.cells #[x] 52)) y 52)).1
    rwa [World.size_alloc] at this
  · have := (box_new ((w.alloc (.cells #[x] 52)).alloc (.cells #[y] 52)) (.int .i64 wide) 3).1
    rwa [World.size_alloc, World.size_alloc] at this

theorem stairs_seq (w : World) (af ag : Option Addr) (cf cg wide : Nat) (first second : List (List UInt8)) (zs : List Fc) (hz : zs.map Subtype.val = stairsU wide first second) (hfl : first.length ≤ 600) (hgl : second.length ≤ 600)
    (hff : ∀ f ∈ first, f ≠ [] ∧ f.length ≤ 10) (hgg : ∀ g ∈ second, g ≠ [] ∧ g.length ≤ 10) (hs1 : Strs w (.slice af first.length cf) first) (hs2 : Strs w (.slice ag second.length cg) second) :
    SeqB Tryd.prog 53 (stairArgs w.heap.size) zs (stairWorld w (.slice af first.length cf) (.slice ag second.length cg) wide) := by
  intro l J Jx W2 hW hJ _ hY h0
  have hbx := stairs_boxes w (.slice af first.length cf) (.slice ag second.length cg) wide
  have hsz := stairs_size w (.slice af first.length cf) (.slice ag second.length cg) wide
  have hB := (stairs_below w (.slice af first.length cf) (.slice ag second.length cg) wide).trans (hW.mono (by omega))
  exact stairs_rounds l w.heap.size _ af ag cf cg wide first second zs hz hfl hgl hff hgg J Jx W2 hJ hY
    ((hW.cell (p := ⟨w.heap.size, 0, none⟩) (by rw [hsz]; show w.heap.size < w.heap.size + 3; omega)).trans hbx.1)
    ((hW.cell (p := ⟨w.heap.size + 1, 0, none⟩) (by rw [hsz]; show w.heap.size + 1 < w.heap.size + 3; omega)).trans hbx.2.1)
    ((hW.cell (p := ⟨w.heap.size + 1 + 1, 0, none⟩) (by rw [hsz]; show w.heap.size + 1 + 1 < w.heap.size + 3; omega)).trans hbx.2.2)
    (hs1.below hB) (hs2.below hB) h0

end Go.Proofs.YtkmecdgnoemimaaDoor
