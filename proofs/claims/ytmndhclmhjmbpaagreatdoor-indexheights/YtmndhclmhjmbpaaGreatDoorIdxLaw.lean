/- The statement on indices answers true of whatever sets and heights, and leaves them alone. -/
import Derived.Test.YtmndhclmhjmbpaaGreatDoorIdxLawW
import Derived.Test.YtmndhclmhjmbpaaGreatDoorIndexOf
import Derived.Test.YtmndhclmhjmbpaaGreatDoorIdxRefOf
import Derived.Test.YtmndhclmhjmbpaaGreatDoorIdxLine
import Derived.Test.YtmndhclmhjmbpaaGreatDoorEulerCall
import Derived.Test.YtmndhclmhjmbpaaGreatDoorClosed
import Derived.Test.YtmndhclmhjmbpaaGreatDoorRefJoin
import Derived.Test.YtmndhclmhjmbpaaGreatDoorMade
import Derived.Test.YtmndhclmhjmbpaaGreatDoorRefC
namespace Go.Proofs.YtmndhclmhjmbpaaGreatDoor
open Go.RowKit Go.Sort Go.Lib

theorem ix_bad_or_good (l : List (List Int)) : (∃ j, BadAt l j) ∨ ∃ all, Good l all := by
  by_cases h1 : ∀ x ∈ l, SetOk x
  · by_cases h2 : Over (l.map srt)
    · exact .inl ⟨1, .inr (.inl ⟨rfl, h1, h2⟩)⟩
    · by_cases h3 : ∃ all, Good l all
      · exact .inr h3
      · exact .inl ⟨2, .inr (.inr ⟨rfl, h1, h2, fun all ha hf => h3 ⟨all, h1, h2, ha, hf⟩⟩)⟩
  · exact .inl ⟨3, .inl ⟨rfl, h1⟩⟩

theorem hgt_hiF {V h : List Int} {u : Int} (hu : 0 ≤ u) : hgt V h u = hiF V h u := by
  unfold hgt
  rw [show ((u.toNat : Nat) : Int) = u by omega]

/-- The program's indices are the reference's. -/
theorem idx_same {l all : List (List Int)} {h : List Int} (g : Good l all) (hok : HOk (vertI all) h) :
    ((vertI all).map fun v => idxN (allD all) (hgt (vertI all) h) v) = (vertI all).map fun v => 1 - eulerOf (lowL all (hiF (vertI all) h) v) := by
  have hpos : ∀ v ∈ vertI all, 0 ≤ v := fun v hv => by
    have := (face_ok_of g (vertI_mem.1 hv)).1.2.2 v (by simp)
    omega
  have hL : (allD all).Perm all := allD_perm fun x hx => ⟨List.length_pos_iff.2 (face_ok_of g hx).1.1, g.short x hx⟩
  refine List.map_congr_left fun v hv => ?_
  have hinj : ∀ u ∈ vertI all, ∀ v ∈ vertI all, hgt (vertI all) h u = hgt (vertI all) h v → u = v := fun u hu v hv e => by
    rw [hgt_hiF (hpos u hu), hgt_hiF (hpos v hv)] at e
    exact hiF_inj hok.1 hok.2.2 u hu v hv e
  rw [idxN_perm hL, idx_low g hinj hv]
  congr 2
  unfold lowL
  refine List.filter_congr fun s hs => ?_
  have hsa : s ∈ all := (List.mem_filter.1 hs).1
  rw [Bool.eq_iff_iff, List.all_eq_true, List.all_eq_true]
  have hpu : ∀ u ∈ s, 0 ≤ u := fun u hu => hpos u (vertI_mem.2 (g.sub hsa (List.singleton_sublist.2 hu) (by simp)))
  constructor
  · intro h1 u hu
    have := h1 u hu
    rwa [hgt_hiF (hpu u hu), hgt_hiF (hpos v hv)] at this
  · intro h1 u hu
    rw [hgt_hiF (hpu u hu), hgt_hiF (hpos v hv)]
    exact h1 u hu

theorem idx_total {l all : List (List Int)} {h : List Int} (g : Good l all) :
    ((vertI all).map fun v => idxN (allD all) (hgt (vertI all) h) v).sum = eulerOf all := by
  have hL : (allD all).Perm all := allD_perm fun x hx => ⟨List.length_pos_iff.2 (face_ok_of g hx).1.1, g.short x hx⟩
  have h1 := idx_sum (V := vertI all) (rising_nodup (vertI_rising g.isAll.order)) (ht := hgt (vertI all) h) (L := allD all) (fun f hf => by
    have hf' := hL.mem_iff.1 hf
    have hne := (face_ok_of g hf').1.1
    exact vertI_mem.2 (g.sub hf' (List.singleton_sublist.2 (topOf_mem _ hne).1) (by simp)))
  rw [show (fun v => idxN (allD all) (hgt (vertI all) h) v) = idxN (allD all) (hgt (vertI all) h) from rfl, h1]
  exact eulerOf_perm hL

theorem sum_upto {R : List Int} {m : Int} (hR : ∀ x ∈ R, -m ≤ x ∧ x ≤ m) (hm : 0 ≤ m) (hl : R.length ≤ 100) (k : Nat) : -(100 * m) ≤ (R.take k).sum ∧ (R.take k).sum ≤ 100 * m := by
  have key : ∀ L : List Int, (∀ x ∈ L, -m ≤ x ∧ x ≤ m) → -((L.length : Int) * m) ≤ L.sum ∧ L.sum ≤ (L.length : Int) * m := by
    intro L
    induction L with
    | nil => intro _; simp
    | cons x L ih =>
      intro hL
      have h1 := hL x (by simp)
      have h2 := ih fun y hy => hL y (by simp [hy])
      rw [List.sum_cons, List.length_cons]
      have h3 : ((L.length + 1 : Nat) : Int) * m = (L.length : Int) * m + m := by rw [Int.natCast_add, Int.add_mul]; simp
      rw [h3]
      omega
  have h1 := key (R.take k) fun x hx => hR x (List.mem_of_mem_take hx)
  have h2 : ((R.take k).length : Int) * m ≤ 100 * m := Int.mul_le_mul_of_nonneg_right (by rw [List.length_take]; omega) hm
  omega

set_option maxRecDepth 100000 in
set_option maxHeartbeats 2000000 in
theorem heights_law {a : Nat → Addr} {s : Nat → ByteArray} (vl vh : Value) (l : List (List Int)) (h : List Int) (w : World) (hE : Errs a s w) (hl : Rows w vl l) (hh : Ints w vh h) :
    Calls Tryz.prog 3 #[vl, vh] w fun e w' => e = .returned (.bool true) ∧ Below w.heap.size w w' := by
  have hwh := wheel_ w
  have hli : ∀ V, Below w.heap.size w V → Calls Tryz.prog 6 #[vl, .int .i64 80] V fun e w' => ∃ q : Bool, e = .returned (.bool q) ∧ Below V.heap.size V w' ∧ (q = true → l.length ≤ 40 ∧ ∀ x ∈ l, x.length ≤ 12) := fun V hV => little_ closed_ vl l 80 V (hl.below hV)
  have hl0 := hl
  have hh0 := hh
  obtain ⟨al, cl, rfl, -, -⟩ := hl.open_
  obtain ⟨ah, ch, rfl, -, -⟩ := hh.open_
  by_cases hsm : (l.length ≤ 40 ∧ ∀ x ∈ l, x.length ≤ 12) ∧ (h.length : Int) ≤ 200
  case neg =>
    refine ix_early al ah l.length cl h.length ch w hwh fun V hV => (hli V hV).mono fun e w' ⟨q, h1, h2, h3⟩ => ⟨q, h1, fun hq => ?_, h2⟩
    have h4 := h3 hq
    by_cases h5 : (h.length : Int) ≤ 200
    · exact absurd ⟨h4, h5⟩ hsm
    · omega
  obtain ⟨⟨hs1, hs2⟩, h200⟩ := hsm
  have hll : l.length ≤ 100000 := by omega
  have hll6 : l.length ≤ 600 := by omega
  have hle : ∀ x ∈ l, x.length ≤ 1000 := fun x hx => by have := hs2 x hx; omega
  have hhl : h.length ≤ 1000 := by omega
  have hli2 : ∀ V, Below w.heap.size w V → Calls Tryz.prog 6 #[.slice al l.length cl, .int .i64 80] V fun e w' => (∃ q : Bool, e = .returned (.bool q)) ∧ Below V.heap.size V w' := fun V hV => (hli V hV).mono fun e w' ⟨q, h1, h2, _⟩ => ⟨⟨q, h1⟩, h2⟩
  have hcx : ∀ V, Below w.heap.size w V → Calls Tryz.prog 9 #[.slice al l.length cl] V fun e w' => (∃ v, e = .returned (.agg #[v]) ∧ Rows w' v l) ∧ Below V.heap.size V w' := fun V hV => (cx_ _ l V (hl0.below hV) hll hle).mono fun e w' ⟨v, h1, h2, h3⟩ => ⟨⟨v, h1, h2⟩, h3⟩
  have hin : ∀ V, Below w.heap.size w V → Calls Tryz.prog 10 #[.slice ah h.length ch] V fun e w' => (∃ u, e = .returned u ∧ Ints w' u h) ∧ Below V.heap.size V w' := fun V hV => ints5_ _ h V (hh0.below hV) hhl
  have hec : ∀ V, Below w.heap.size w V → Calls Tryz.prog 15 #[.slice al l.length cl] V fun e w' => ErrorG l V e w' := fun V hV => error_g closed_ _ l V (hl0.below hV) hll hle
  have hopen_err : ∀ (V : World) (v u : Value) (i : Nat), Rows V v l → Ints V u h → (∀ (W : World), Below V.heap.size V W → Calls Tryz.prog 54 #[.agg #[v], u] W fun e w' => (∃ a0 n0 c0 a1 n1 c1 a2 n2 c2, e = .returned (.tuple #[.agg #[.slice a0 n0 c0, .slice a1 n1 c1, .slice a2 n2 c2], .iface 233 (.pointer (some (a i)))])) ∧ Below W.heap.size W w') →
      Calls Tryz.prog 8 #[.agg #[v], u] V fun e w' => e = .returned (.tuple #[.slice none 0 0, .iface 233 (.pointer (some (a i)))]) ∧ Below V.heap.size V w' := fun V v u i hr hu ho => by
    obtain ⟨a1, c1, rfl, -, -⟩ := hr.open_
    exact indices_err _ _ _ _ _ _ V fun W hW => check_any _ _ _ _ _ W fun W2 hW2 => ho W2 (hW.trans (hW2.mono hW.size))
  rcases ix_bad_or_good l with ⟨i, hb⟩ | ⟨all, hg⟩
  · refine ix_bad (l := l) (h := h) al ah l.length cl h.length ch w h200 (c := (i : Int) + 1) (by omega) (ve := .iface 233 (.pointer (some (a i)))) hwh hli2
      (fun V hV => high_bad _ _ _ V (by omega) ((hec V hV).mono fun e w' h => by
        rcases h.2 with ⟨j, hj, he⟩ | ⟨all, hg, _⟩
        · obtain rfl := bad_one hb hj
          exact ⟨he, h.1⟩
        · exact (bad_good hb hg).elim))
      hcx hin (fun V v u hV hr hu => hopen_err V v u i hr hu fun W hW => open_bad v u l i W ((hE.below hV).below hW) (hr.below hW) hll hle hb)
      (fun V hV => (coded_es V (hE.below hV) i hb.lt ((i : Int) + 1)).mono fun e w' ⟨h1, h2⟩ => ⟨by rw [h1, decide_eq_true rfl], h2⟩)
  · have hall : all.length ≤ 600 := hg.length
    have hec0 : ∀ V, Below w.heap.size w V → Calls Tryz.prog 15 #[.slice al l.length cl] V fun e w' => e = .returned (.int .i64 0) ∧ Below V.heap.size V w' := fun V hV => (hec V hV).mono fun e w' h => by
      rcases h.2 with ⟨j, hj, he⟩ | ⟨_, _, he⟩
      · exact (bad_good hj hg).elim
      · exact ⟨he, h.1⟩
    have hcl : ∀ V, Below w.heap.size w V → Calls Tryz.prog 16 #[.slice al l.length cl] V fun e w' => (∃ u, e = .returned (.tuple #[u, .int .i64 0]) ∧ Rows w' u all) ∧ Below V.heap.size V w' := fun V hV => (closed_g closed_ _ l all V (hl0.below hV) hll hle hg).mono fun e w' ⟨u, h1, h2, h3⟩ => ⟨⟨u, h1, h2⟩, h3⟩
    have hhi := fun V (hV : Below w.heap.size w V) => high_good (all := all) (.slice al l.length cl) (.slice ah h.length ch) h V (hec0 V hV) (fun W hW => hcl W (hV.trans (hW.mono hV.size)))
      (fun W u hW hu => heights_err u _ all h W hu (by omega) (hh0.below (hV.trans (hW.mono hV.size))) hhl)
    by_cases hok : HOk (vertI all) h
    · have hnd : (vertI all).Nodup := rising_nodup (vertI_rising hg.isAll.order)
      have hV1 : (vertI all).length ≤ 100 := verts_len hg
      have hv99 : ∀ v ∈ vertI all, 0 ≤ v ∧ v ≤ 99 := fun v hv => by
        have := (face_ok_of hg (vertI_mem.1 hv)).1.2.2 v (by simp)
        omega
      obtain ⟨R, hR⟩ : ∃ R, ((vertI all).map fun v => idxN (allD all) (hgt (vertI all) h) v) = R := ⟨_, rfl⟩
      have hRs : R.sum = eulerOf all := by rw [← hR]; exact idx_total hg
      have hLl : (allD all).length ≤ 600 := by
        have hL : (allD all).Perm all := allD_perm fun x hx => ⟨List.length_pos_iff.2 (face_ok_of hg hx).1.1, hg.short x hx⟩
        rw [hL.length_eq]; exact hall
      have hR6 : ∀ x ∈ R, -600 ≤ x ∧ x ≤ 600 := fun x hx => by
        rw [← hR] at hx
        obtain ⟨v, _, rfl⟩ := List.mem_map.1 hx
        have := idxN_small (allD all) (hgt (vertI all) h) v
        omega
      have hRl : R.length ≤ 100 := by rw [← hR, List.length_map]; exact hV1
      refine ix_good (l := l) (all := all) (h := h) (R := R) al ah l.length cl h.length ch w h200 hwh hli2
        (fun V hV => (hhi V hV).mono fun e w' ⟨⟨c, u, h1, h2, h3⟩, h4⟩ => by
          rcases h3 with ⟨rfl, _⟩ | ⟨_, hno⟩
          · exact ⟨⟨u, h1, h2⟩, h4⟩
          · exact absurd hok hno)
        hcx hin (fun V v u hV hr hu => ?_) (fun V u hV hu => ?_) (fun V x y hx hy => (same_ints x y _ _ V hx hy (by omega)).mono fun e w' ⟨h1, q, h2⟩ => ⟨by rw [h1, decide_eq_true rfl], by rw [h2]; exact ⟨rfl, rfl, rfl, Nat.le_refl _, fun _ _ => rfl⟩⟩)
        hRl (fun k => by have := sum_upto hR6 (by omega) hRl k; omega)
        (fun V v hV hr => (euler_call v l V (hE.below hV) hr hll hle).mono fun e w' h => by
          rcases h.2 with ⟨j, hj, _⟩ | ⟨all', hg', he⟩
          · exact (bad_good hj hg).elim
          · obtain rfl := good_one hg hg'
            exact ⟨by rw [he, hRs], h.1⟩)
      · obtain ⟨a1, c1, rfl, -, -⟩ := hr.open_
        refine (indices_good (all := all) a1 l.length c1 u R V (fun W hW => check_any _ _ _ _ _ W fun W2 hW2 => ?_) (fun W hW => shape_good _ l all W ((hE.below hV).below hW) (hr.below hW) hll hle hg) (fun W vs hW hS => ?_)).mono fun e w' ⟨x, h1, h2, h3⟩ => ⟨⟨x, h1, h2⟩, h3⟩
        · have hW3 := hW.trans (hW2.mono hW.size)
          exact open_ok _ u (vertI all) h W2 ((hE.below hV).below hW3) (hr.below hW3) hll6 hle hg rfl (hu.below hW3) hhl hok.1 hok.2.1 hok.2.2
        · rw [← hR]
          exact indices_ vs u (vertI all) h W hg rfl hv99 hV1 hS (hu.below hW) hok.1 hok.2.1
      · refine (indices_of u _ all h V hu hall hg.short (fun x hx => (face_ok_of hg hx).2) (hh0.below hV) hhl hok.1 hnd).mono fun e w' ⟨x, h1, h2, h3⟩ => ⟨⟨x, h1, ?_⟩, h3⟩
        rw [← hR, idx_same hg hok]
        exact h2
    · refine ix_bad (l := l) (h := h) al ah l.length cl h.length ch w h200 (c := 3) (by omega) (ve := .iface 233 (.pointer (some (a 2)))) hwh hli2
        (fun V hV => (hhi V hV).mono fun e w' ⟨⟨c, u, h1, _, h3⟩, h4⟩ => by
          rcases h3 with ⟨_, hyes⟩ | ⟨rfl, _⟩
          · exact absurd hyes hok
          · exact ⟨⟨u, h1⟩, h4⟩)
        hcx hin (fun V v u hV hr hu => hopen_err V v u 2 hr hu fun W hW => ?_)
        (fun V hV => (coded_es V (hE.below hV) 2 (by decide) 3).mono fun e w' ⟨h1, h2⟩ => ⟨by rw [h1, decide_eq_true (by rfl)], h2⟩)
      have hEW := (hE.below hV).below hW
      by_cases c1 : h.length = (vertI all).length
      · by_cases c2 : ∀ x ∈ h, -1048576 ≤ x ∧ x ≤ 1048576
        · have c3 : ¬ h.Nodup := fun hc => hok ⟨c1, c2, hc⟩
          exact open_alike v u (vertI all) h W hEW (hr.below hW) hll6 hle hg rfl (hu.below hW) hhl c1 c2 c3
        · have c4 : h.any greatB = true := by
            cases hq : h.any greatB with
            | true => rfl
            | false => exact absurd (great_iff.1 hq) c2
          exact open_great v u (vertI all) h W hEW (hr.below hW) hll6 hle hg rfl (hu.below hW) hhl c1 c4
      · exact open_len v u (vertI all) h W hEW (hr.below hW) hll6 hle hg rfl (hu.below hW) c1

end Go.Proofs.YtmndhclmhjmbpaaGreatDoor
