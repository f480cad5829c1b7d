/- The walk of CrcSums, with the opening of its parts. -/
import Derived.Test.YtaaiockknpeglaaE5
import Derived.Test.YtaaiockknpeglaaOpenC
