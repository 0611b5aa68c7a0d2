/-
  tuple.Cat of texts.
-/
import Derived.Test.YtimgnbacgdmiiaaKCatB
import Derived.Test.YtimgnbacgdmiiaaKPackE
namespace Go.Proofs.Ytimgnbacgdmiiaa
open Go.RowKit

open PK in
def catT (x y : Tx) (k : Int) : Tx := (x ++ y).take k.toNat
open PK in
theorem catB_T (x y : Tx) (k : Int) : catB ⟨x.toArray⟩ ⟨y.toArray⟩ k = ⟨(catT x y k).toArray⟩ := rfl
open PK in
theorem catT_any (x y : Tx) (k : Int) (w : World) (hx : x.length ≤ 1000) (hy : y.length ≤ 1000) (hk : -9223372036854775808 ≤ k ∧ k ≤ 9223372036854775807) (s t : ByteArray) (hs : s = ⟨x.toArray⟩) (ht : t = ⟨y.toArray⟩) :
    Calls Try.prog 92 #[.string s, .string t, .int .i64 k] w fun e w' => e = .returned (.string ⟨(catT x y k).toArray⟩) ∧ w' = w := by
  subst hs; subst ht
  exact tupleCat_any _ _ k w (by rw [tx_size]; omega) (by rw [tx_size]; omega) hk
open PK in
theorem refCatT_any (x y : Tx) (k : Int) (w : World) (hx : x.length ≤ 1000) (hy : y.length ≤ 1000) (hk : -9223372036854775808 ≤ k ∧ k ≤ 9223372036854775807) (s t : ByteArray) (hs : s = ⟨x.toArray⟩) (ht : t = ⟨y.toArray⟩) :
    Calls Try.prog 68 #[.string s, .string t, .int .i64 k] w fun e w' => e = .returned (.string ⟨(catT x y k).toArray⟩) ∧ w' = w := by
  subst hs; subst ht
  exact refCat_any _ _ k w (by rw [tx_size]; omega) (by rw [tx_size]; omega) hk
end Go.Proofs.Ytimgnbacgdmiiaa
