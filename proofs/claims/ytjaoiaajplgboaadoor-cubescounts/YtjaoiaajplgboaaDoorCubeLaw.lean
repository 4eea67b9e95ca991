/- CubesCounts answers true of whatever image. -/
import Derived.Test.YtjaoiaajplgboaaDoorCubeRing
namespace Go.Proofs.YtjaoiaajplgboaaDoor
open Go.RowKit Go.Sort

set_option maxRecDepth 100000 in
set_option maxHeartbeats 4000000 in
theorem cubes_law {a : Nat → Addr} {s : Nat → ByteArray} (vm : Value) (m : List (List UInt8)) (w : World) (hE : Errs a s w) (hm : Strs w vm m) (hlen : m.length ≤ maxLen) (hrow : ∀ r ∈ m, r.length ≤ maxLen) :
    Calls Tryd.prog 3 #[vm] w fun e w' => e = .returned (.bool true) ∧ Below w.heap.size w w' := by
  have hri := ring_ w hE
  have hli : ∀ V, Below w.heap.size w V → _ := fun V hV => little_ vm m V (hm.below hV) hlen 700
  have HH : Hid (Errs a s w ∧ Strs w vm m ∧ ∀ r ∈ m, r.length ≤ maxLen) := ⟨hE, hm, hrow⟩
  clear hE hm hlen hrow
  go_enter Tryd.func3, Tryd.ntmps3
  go_wp2_with fail
  refine hri.mono ?_
  rintro e w1 ⟨rfl, hB1⟩
  have hl1 := hli w1 hB1
  have HC : Hid (Below w.heap.size w w1) := hB1
  clear hri hli hB1
  go_wp2_with fail
  refine hl1.mono ?_
  rintro e w2 ⟨q, rfl, rfl, hq⟩
  clear hl1
  cases q with
  | false =>
    clear hq
    go_wp2_with fail
    go_ret
    exact ⟨rfl, HC.out⟩
  | true =>
    have h60 : m.length ≤ 1000 := by have := hq rfl; omega
    clear hq
    have hie : ∀ V, Below w.heap.size w V → Calls Tryd.prog 6 #[vm] V fun e w' => e = .returned (.int .i64 (errN m)) ∧ Below V.heap.size V w' := fun V hV => (image_error vm m V (HH.out.2.1.below hV) h60 HH.out.2.2).mono fun e w' h => ⟨h.1, h.2.below⟩
    have hpi : ∀ V, Below w.heap.size w V → Calls Tryd.prog 9 #[vm] V fun e w' => ∃ v, e = .returned v ∧ Strs w' v m ∧ Below V.heap.size V w' := fun V hV => (picture_ vm m V (HH.out.2.1.below hV) h60).mono fun e w' h => by
      obtain ⟨v, h1, h2, h3⟩ := h
      exact ⟨v, h1, SliceIn.mono h2 (fun _ _ _ => trivial), h3⟩
    rcases ok_or_bad m with hok | ⟨i, hbad⟩
    · have hva : ∀ V v, Below w.heap.size w V → Strs V v m → Calls Tryd.prog 8 #[v] V fun e w' => e = .returned .nilIface ∧ Below V.heap.size V w' := fun V v hV hs => (valid_image v m V (HH.out.1.below hV) hs h60).mono fun e w' h => by
        rcases h.2 with ⟨j, hj, _⟩ | h2
        · exact (ok_not_bad hok hj).elim
        · exact ⟨h2.2, h.1.below⟩
      have hcl := counts_le m hok
      have hco : ∀ V v, Below w.heap.size w V → Strs V v m → Calls Tryd.prog 10 #[v] V fun e w' => e = .returned (countsV m) ∧ Below V.heap.size V w' := fun V v hV hs => (counts_ v m V (HH.out.1.below hV) hs h60).mono fun e w' h => h.ok hok
      have heu : ∀ V v, Below w.heap.size w V → Strs V v m → Calls Tryd.prog 11 #[v] V fun e w' => e = .returned (.tuple #[.int .i64 (eulerI m), .nilIface]) ∧ Below V.heap.size V w' := fun V v hV hs => (euler_i v m V (HH.out.1.below hV) hs h60).mono fun e w' h => h.ok hok
      have hpc : ∀ V v, Below w.heap.size w V → Strs V v m → Calls Tryd.prog 12 #[v] V fun e w' => e = .returned (.tuple #[.int .i64 (piecesN m (wide m) m.length), .nilIface]) ∧ Below V.heap.size V w' := fun V v hV hs => (pieces_i v m V (HH.out.1.below hV) hs h60).mono fun e w' h => h.ok hok
      have hho : ∀ V v, Below w.heap.size w V → Strs V v m → Calls Tryd.prog 13 #[v] V fun e w' => e = .returned (.tuple #[.int .i64 (holesN m (wide m) m.length), .nilIface]) ∧ Below V.heap.size V w' := fun V v hV hs => (holes_i v m V (HH.out.1.below hV) hs h60).mono fun e w' h => h.ok hok
      have hcx : ∀ V (dd : Int), Below w.heap.size w V → Calls Tryd.prog 14 #[vm, .int .i64 dd] V fun e w' => ∃ a cap, e = .returned (.slice a (cellsN (fullI m) dd (cornersI m)) cap) ∧ Below V.heap.size V w' := fun V dd hV => cells_of vm m V (HH.out.2.1.below hV) hok.img.1 dd
      have z0 := cellsN_zero (fullI m) (cornersI m)
      have z1 := cellsN_one (fullI m) (cornersI m)
      have z2 := cellsN_two (fullI m) (cornersI m)
      have hpo : ∀ V, Below w.heap.size w V → Calls Tryd.prog 15 #[vm] V fun e w' => e = .returned (.int .i64 (piecesN m (wide m) m.length)) ∧ Below V.heap.size V w' := fun V hV => pieces_of vm m V (HH.out.2.1.below hV) hok
      have hhf : ∀ V, Below w.heap.size w V → Calls Tryd.prog 16 #[vm] V fun e w' => e = .returned (.int .i64 (holesN m (wide m) m.length)) ∧ Below V.heap.size V w' := fun V hV => holes_of vm m V (HH.out.2.1.below hV) hok
      have hcd := fun V (_ : Below w.heap.size w V) => coded_ok V
      rw [errN_ok hok] at hie
      have HE : eulerI m = (cornersN (fullI m) (cornersI m) : Int) - (edgesN (fullI m) (cornersI m) : Int) + (squaresN (fullI m) (cornersI m) : Int) := rfl
      rw [HE] at heu
      unfold countsV at hco
      obtain ⟨c, hc⟩ : ∃ c, cornersN (fullI m) (cornersI m) = c := ⟨_, rfl⟩
      obtain ⟨d, hd⟩ : ∃ d, edgesN (fullI m) (cornersI m) = d := ⟨_, rfl⟩
      obtain ⟨n, hn⟩ : ∃ n, squaresN (fullI m) (cornersI m) = n := ⟨_, rfl⟩
      obtain ⟨P, hP⟩ : ∃ P, piecesN m (wide m) m.length = P := ⟨_, rfl⟩
      obtain ⟨H, hHn⟩ : ∃ H, holesN m (wide m) m.length = H := ⟨_, rfl⟩
      rw [hc, hd, hn] at hco heu hcl
      rw [hc] at z0
      rw [hd] at z1
      rw [hn] at z2
      rw [hP] at hpc hpo
      rw [hHn] at hho hhf
      have e1 : IntKind.i64.wrap ((c : Int) - (d : Int)) = (c : Int) - (d : Int) := wrapI (by omega) (by omega)
      have e2 : IntKind.i64.wrap ((c : Int) - (d : Int) + (n : Int)) = (c : Int) - (d : Int) + (n : Int) := wrapI (by omega) (by omega)
      clear hc hd hn hP hHn HE hok hcl h60
      go_wp2_with (first
        | (go_at_call 6; refine (hie _ HC.out).mono ?_; rintro e V ⟨rfl, hV⟩; replace HC : Hid (Below w.heap.size w V) := HC.out.trans (hV.mono HC.out.size); clear hV)
        | (go_at_call 9; refine (hpi _ HC.out).mono ?_; rintro e V ⟨v, rfl, hs, hV⟩; replace HC : Hid (Below w.heap.size w V) := HC.out.trans (hV.mono HC.out.size); have HS : Hid (Strs V v m) := hs; clear hV hs)
        | (go_at_call 8; refine (hva _ _ HC.out HS.out).mono ?_; rintro e V ⟨rfl, hV⟩; replace HC : Hid (Below w.heap.size w V) := HC.out.trans (hV.mono HC.out.size); clear hV HS)
        | (go_at_call 7; refine (hcd _ HC.out).mono ?_; rintro e V ⟨rfl, hV⟩; replace HC : Hid (Below w.heap.size w V) := HC.out.trans (hV.mono HC.out.size); clear hV)
        | (go_at_call 10; refine (hco _ _ HC.out HS.out).mono ?_; rintro e V ⟨rfl, hV⟩; replace HC : Hid (Below w.heap.size w V) := HC.out.trans (hV.mono HC.out.size); clear hV HS)
        | (go_at_call 11; refine (heu _ _ HC.out HS.out).mono ?_; rintro e V ⟨rfl, hV⟩; replace HC : Hid (Below w.heap.size w V) := HC.out.trans (hV.mono HC.out.size); clear hV HS)
        | (go_at_call 12; refine (hpc _ _ HC.out HS.out).mono ?_; rintro e V ⟨rfl, hV⟩; replace HC : Hid (Below w.heap.size w V) := HC.out.trans (hV.mono HC.out.size); clear hV HS)
        | (go_at_call 13; refine (hho _ _ HC.out HS.out).mono ?_; rintro e V ⟨rfl, hV⟩; replace HC : Hid (Below w.heap.size w V) := HC.out.trans (hV.mono HC.out.size); clear hV HS)
        | (go_at_call 14; refine (hcx _ _ HC.out).mono ?_; rintro e V ⟨a9, c9, rfl, hV⟩; (first | rw [z0] | rw [z1] | rw [z2]); replace HC : Hid (Below w.heap.size w V) := HC.out.trans (hV.mono HC.out.size); clear hV)
        | (go_at_call 15; refine (hpo _ HC.out).mono ?_; rintro e V ⟨rfl, hV⟩; replace HC : Hid (Below w.heap.size w V) := HC.out.trans (hV.mono HC.out.size); clear hV)
        | (go_at_call 16; refine (hhf _ HC.out).mono ?_; rintro e V ⟨rfl, hV⟩; replace HC : Hid (Below w.heap.size w V) := HC.out.trans (hV.mono HC.out.size); clear hV)
        | fail)
      go_ret
      exact ⟨rfl, HC.out⟩
    · have hi8 := bad_lt hbad
      have hva : ∀ V v, Below w.heap.size w V → Strs V v m → Calls Tryd.prog 8 #[v] V fun e w' => e = .returned (errV (a i)) ∧ Below V.heap.size V w' := fun V v hV hs => (valid_image v m V (HH.out.1.below hV) hs h60).mono fun e w' h => by
        rcases h.2 with ⟨j, hj, he⟩ | h2
        · rw [bad_one hbad hj]; exact ⟨he, h.1.below⟩
        · exact (ok_not_bad h2.1 hbad).elim
      have hco : ∀ V v, Below w.heap.size w V → Strs V v m → Calls Tryd.prog 10 #[v] V fun e w' => e = .returned (.tuple #[.int .i64 0, .int .i64 0, .int .i64 0, errV (a i)]) ∧ Below V.heap.size V w' := fun V v hV hs => (counts_ v m V (HH.out.1.below hV) hs h60).mono fun e w' h => h.bad hbad
      have heu : ∀ V v, Below w.heap.size w V → Strs V v m → Calls Tryd.prog 11 #[v] V fun e w' => e = .returned (.tuple #[.int .i64 0, errV (a i)]) ∧ Below V.heap.size V w' := fun V v hV hs => (euler_i v m V (HH.out.1.below hV) hs h60).mono fun e w' h => h.bad hbad
      have hpc : ∀ V v, Below w.heap.size w V → Strs V v m → Calls Tryd.prog 12 #[v] V fun e w' => e = .returned (.tuple #[.int .i64 0, errV (a i)]) ∧ Below V.heap.size V w' := fun V v hV hs => (pieces_i v m V (HH.out.1.below hV) hs h60).mono fun e w' h => h.bad hbad
      have hho : ∀ V v, Below w.heap.size w V → Strs V v m → Calls Tryd.prog 13 #[v] V fun e w' => e = .returned (.tuple #[.int .i64 0, errV (a i)]) ∧ Below V.heap.size V w' := fun V v hV hs => (holes_i v m V (HH.out.1.below hV) hs h60).mono fun e w' h => h.bad hbad
      have hcd : ∀ V, Below w.heap.size w V → Calls Tryd.prog 7 #[errV (a i), .int .i64 ((i : Int) + 1)] V fun e w' => e = .returned (.bool true) ∧ Below V.heap.size V w' := fun V hV => coded_bad V (HH.out.1.below hV) hi8
      rw [errN_bad hbad] at hie
      obtain ⟨E, hEn⟩ : ∃ E : Int, (i : Int) + 1 = E := ⟨_, rfl⟩
      have hE1 : 0 < E := by omega
      obtain ⟨ev, hev⟩ : ∃ ev, errV (a i) = ev := ⟨_, rfl⟩
      rw [hEn] at hie hcd
      rw [hev] at hva hco heu hpc hho hcd
      clear hEn hev hbad hi8 h60
      go_wp2_with (first
        | (go_at_call 6; refine (hie _ HC.out).mono ?_; rintro e V ⟨rfl, hV⟩; replace HC : Hid (Below w.heap.size w V) := HC.out.trans (hV.mono HC.out.size); clear hV)
        | (go_at_call 9; refine (hpi _ HC.out).mono ?_; rintro e V ⟨v, rfl, hs, hV⟩; replace HC : Hid (Below w.heap.size w V) := HC.out.trans (hV.mono HC.out.size); have HS : Hid (Strs V v m) := hs; clear hV hs)
        | (go_at_call 8; refine (hva _ _ HC.out HS.out).mono ?_; rintro e V ⟨rfl, hV⟩; replace HC : Hid (Below w.heap.size w V) := HC.out.trans (hV.mono HC.out.size); clear hV HS)
        | (go_at_call 7; refine (hcd _ HC.out).mono ?_; rintro e V ⟨rfl, hV⟩; replace HC : Hid (Below w.heap.size w V) := HC.out.trans (hV.mono HC.out.size); clear hV)
        | (go_at_call 10; refine (hco _ _ HC.out HS.out).mono ?_; rintro e V ⟨rfl, hV⟩; replace HC : Hid (Below w.heap.size w V) := HC.out.trans (hV.mono HC.out.size); clear hV HS)
        | (go_at_call 11; refine (heu _ _ HC.out HS.out).mono ?_; rintro e V ⟨rfl, hV⟩; replace HC : Hid (Below w.heap.size w V) := HC.out.trans (hV.mono HC.out.size); clear hV HS)
        | (go_at_call 12; refine (hpc _ _ HC.out HS.out).mono ?_; rintro e V ⟨rfl, hV⟩; replace HC : Hid (Below w.heap.size w V) := HC.out.trans (hV.mono HC.out.size); clear hV HS)
        | (go_at_call 13; refine (hho _ _ HC.out HS.out).mono ?_; rintro e V ⟨rfl, hV⟩; replace HC : Hid (Below w.heap.size w V) := HC.out.trans (hV.mono HC.out.size); clear hV HS)
        | fail)
      go_ret
      exact ⟨rfl, HC.out⟩

end Go.Proofs.YtjaoiaajplgboaaDoor
