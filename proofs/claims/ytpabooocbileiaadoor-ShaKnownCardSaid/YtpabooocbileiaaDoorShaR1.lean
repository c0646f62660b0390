/-
  Blocks of the letter a, a thousand at a time. Plain mathematics.
-/
import Derived.Test.YtpabooocbileiaaDoorShaQ
namespace Go.Proofs.YtpabooocbileiaaDoor

theorem it_0 : iterB kws_A 1000 st_0 = st_1 := iter_lit _ _ ks_A_eq _ _ _ (by decide +kernel)
theorem it_1 : iterB kws_A 1000 st_1 = st_2 := iter_lit _ _ ks_A_eq _ _ _ (by decide +kernel)
theorem it_2 : iterB kws_A 1000 st_2 = st_3 := iter_lit _ _ ks_A_eq _ _ _ (by decide +kernel)
theorem it_3 : iterB kws_A 1000 st_3 = st_4 := iter_lit _ _ ks_A_eq _ _ _ (by decide +kernel)
end Go.Proofs.YtpabooocbileiaaDoor
